/- Open11, Walk11, Wk11. -/
import Derived.Test.YtilljoemebbnjaaDoorK07
import Derived.Test.YtilljoemebbnjaaDoorK11
import Derived.Test.YtilljoemebbnjaaDoorLaw11
import Derived.Test.YtilljoemebbnjaaDoorAwk11
set_option linter.unusedVariables false
set_option linter.unusedSimpArgs false
namespace Go.Proofs.YtilljoemebbnjaaDoor
open Go.RowKit Go.ChangeShapes Go.WideShapes Go.ChangeAt Go.Deep Sim S2
section
variable {H : Type} {enc : TypeId × Value -> H} {P : Program} {w : World}
theorem slice_any {t e : TypeId} {S : Nat} {a : Option Addr} {len cap : Nat} {d : DataW H} {p : List MemPlace} (ht : P.underlying t = some (.slice e)) (hC : P.cellsOf e = S) (hpos : 0 < S)
   (h : DataW.Trod enc P w 0 (fun _ => true) true t (.slice a len cap) d p) :
   len <= cap /\ cap <= maxLen /\ (0 < len -> ∃ b off, a = some ⟨b, off, none⟩ /\ b < w.heap.size /\ ∀ j, j < len -> ∃ cs m y, cs.length = S /\ DataW.trod enc P w 0 (fun _ => true) true m e cs = some y /\ ∀ (o : Nat) c, cs[o]? = some c -> w.cell? ⟨b, off + j * S + o, none⟩ = some c) := by
 obtain ⟨fuel, hf⟩ := h
 rcases DataW.trod_slice ht hf with ⟨hcs, _⟩ | ⟨a0, len0, cap0, elems, rest, m, _, hcs, _, _, hl, hm, hlen, hel, _, _⟩
 . simp [Value.cells] at hcs
   obtain ⟨rfl, rfl, rfl⟩ := hcs
   exact ⟨Nat.le_refl _, by simp, fun h => by omega⟩
 . simp [Value.cells] at hcs
   obtain ⟨rfl, rfl, rfl⟩ := hcs
   refine ⟨hl, hm, fun hp => ?_⟩
   rw [hC] at hel
   have each : ∀ j, j < len -> ∃ cs y, DataW.trod enc P w 0 (fun _ => true) true m e cs = some y /\ cs.length = S /\ ∀ o, o < S -> w.cell? ((a0.add (j * S)).add o) = cs[o]? := by
     intro j hj
     have h0 := hel j hj
     rw [List.getElem?_eq_getElem (by omega), Option.bind_eq_some_iff] at h0
     obtain ⟨cs, hc, hy⟩ := h0
     have hc' : (List.range S).mapM (fun i => w.cell? ((a0.add (j * S)).add i)) = some cs := by
       unfold World.cells? at hc
       simpa using hc
     refine ⟨cs, _, hy, by simpa using mapM_some_length hc', fun o ho => ?_⟩
     exact mapM_some_get hc' o o (by simp [ho])
   obtain ⟨b, off, spot⟩ := a0
   have hspot : spot = none := by
     obtain ⟨cs, y, _, hcl, hc⟩ := each 0 hp
     have h1 := hc 0 hpos
     rw [List.getElem?_eq_getElem (by omega)] at h1
     simpa [Addr.add] using World.cell?_spot h1
   subst hspot
   refine ⟨b, off, rfl, ?_, fun j hj => ?_⟩
   . obtain ⟨cs, y, _, hcl, hc⟩ := each 0 hp
     have h1 := hc 0 hpos
     rw [List.getElem?_eq_getElem (by omega), Go.WideShapes.add_plain, Go.WideShapes.add_plain] at h1
     rcases Nat.lt_or_ge b w.heap.size with hlt | hge
     . exact hlt
     . simp [World.cell?, Array.getElem?_eq_none hge] at h1
   . obtain ⟨cs, y, hy, hcl, hc⟩ := each j hj
     refine ⟨cs, m, y, hcl, hy, fun o c ho => ?_⟩
     have hol : o < S := by
       rw [<- hcl]
       exact (List.getElem?_eq_some_iff.1 ho).1
     have h1 := hc o hol
     rw [Go.WideShapes.add_plain, Go.WideShapes.add_plain, ho] at h1
     exact h1
end
def goodF (w : World) (v : Value) (f : Nat -> It) : Prop := rowG (frz w) v (itE (lenV v) f) /\ ∀ i, i < lenV v -> wfIt (f i)
noncomputable def pickF (w : World) (v : Value) : Nat -> It := @dite _ (∃ f, goodF w v f) (Classical.propDecidable _) (fun h => Classical.choose h) (fun _ _ => zIt)
theorem pickF_ok {w : World} {v : Value} (h : ∃ f, goodF w v f) : goodF w v (pickF w v) := by
 unfold pickF
 rw [dif_pos h]
 exact Classical.choose_spec h
def wfPts (w : World) (p : Pts) : Prop := ptsOk (frz w) p /\ ∀ j, j < p.P -> ∀ i, i < p.n j -> wfIt (p.f j i)
theorem pts_in {H : Type} {enc : TypeId × Value -> H} {P : Program} {w : World} {t e e0 : TypeId} {f0 f1 : Field} {a : Option Addr} {len cap : Nat} {d : DataW H} {pl : List MemPlace} (ht : P.underlying t = some (.slice e)) (he : P.underlying e = some (.struct #[f0, f1]))
   (h0 : P.underlying f0.type = some (.slice e0)) (h1 : P.underlying f1.type = some (.int .i64)) (hk : (flatK P 4 e0 == some itK && Nat.beq (P.cellsOf e0) 10) = true) (ho : (f0.offset, f1.offset, P.cellsOf f0.type, P.cellsOf f1.type, P.cellsOf e) = (0, 1, 1, 1, 2))
   (h : DataW.Trod enc P w 0 (fun _ => true) true t (.slice a len cap) d pl) (T : TypeId) : ∃ p : Pts, wfPts w p /\ InB w.heap.size w (ptE T false p) (.slice a len cap) := by
 simp only [qP] at ho
 obtain ⟨o0, o1, s0, s1, sT⟩ := ho
 obtain ⟨hl, hm, hc⟩ := slice_any ht sT (by decide) h
 have hex : ∀ j, ∃ q : Option Addr × Nat × Nat × Int, j < len -> (∃ f, goodF w (.slice q.1 q.2.1 q.2.2.1) f) /\ ∀ b off, a = some ⟨b, off, none⟩ -> ∀ (o : Nat) c, [Value.slice q.1 q.2.1 q.2.2.1, Value.int .i64 q.2.2.2][o]? = some c -> w.cell? ⟨b, off + j * 2 + o, none⟩ = some c := by
   intro j
   by_cases hj : j < len
   . obtain ⟨b, off, ha, hb, hcell⟩ := hc (by omega)
     obtain ⟨cs, m, y, hcl, hy, hcs⟩ := hcell j hj
     obtain ⟨y0, y1, n, _, _, t0, t1⟩ := trod_struct2 he hy
     rw [o0, s0] at t0
     rw [o1, s1] at t1
     match cs, hcl with
     | [x0, x1], _ =>
       have t0 : DataW.trod enc P w 0 (fun _ => true) true n f0.type [x0] = some y0 := t0
       have t1 : DataW.trod enc P w 0 (fun _ => true) true n f1.type [x1] = some y1 := t1
       obtain ⟨a0, l0, q0, rfl, hT⟩ := slice_cell h0 t0
       obtain ⟨z, hz, _, _⟩ := DataW.trod_int h1 t1
       have hz : x1 = .int .i64 z := by simpa using hz
       subst hz
       obtain ⟨f, hf, _, hu⟩ := its_in h0 hk hT
       refine ⟨(a0, l0, q0, z), fun _ => ⟨⟨f, rowG_of hu, hf⟩, fun b' off' ha' o c ho => ?_⟩⟩
       rw [ha] at ha'
       simp only [qS, Addr.mk.injEq] at ha'
       obtain ⟨rfl, rfl, _⟩ := ha'
       exact hcs o c ho
   . exact ⟨(none, 0, 0, 0), fun h => absurd h hj⟩
 obtain ⟨q, hq⟩ := Classical.axiomOfChoice hex
 refine ⟨⟨len, fun j => (q j).1, fun j => (q j).2.1, fun j => (q j).2.2.1, fun j => (q j).2.2.2, pickF w⟩, ⟨fun j hj => (pickF_ok (hq j hj).1).1, fun j hj => (pickF_ok (hq j hj).1).2⟩, ⟨by show 0 < 2; decide, fun j _ => ⟨rfl, rfl⟩⟩, a, cap, rfl, hl, fun hp => ?_⟩
 obtain ⟨b, off, ha, hb, _⟩ := hc hp
 exact ⟨b, off, ha, hb, fun j hj => (hq j hj).2 b off ha⟩
set_option maxRecDepth 100000 in
theorem parts_in {H : Type} {enc : TypeId × Value -> H} {w : World} {r : Reach} {b0 : Nat} {v : Value} {d : DataW H} {pl : List MemPlace} (hv : Value.okWide Tryd.prog w r b0 22 v) (h : DataW.Trod enc Tryd.prog w 0 (fun _ => true) true 22 v d pl) : ∃ p : Pts, wfPts w p /\ ArgsOk w [.inr (rPart p)] [v] := by
 obtain ⟨a, len, cap, rfl⟩ := okWide_slice Tryd.underlying22 hv
 obtain ⟨p, h1, h2⟩ := pts_in Tryd.underlying22 Tryd.underlying49 Tryd.underlying39 Tryd.underlying3 (by kernel_rfl) (by kernel_rfl) h 49
 exact ⟨p, h1, h2, trivial⟩
end Go.Proofs.YtilljoemebbnjaaDoor
namespace Go.Proofs.YtilljoemebbnjaaDoor
open Go.RowKit Go.ChangeShapes Go.WideShapes Go.ChangeAt Go.Deep Sim S2
theorem linkImages_fr (hA : ∀ gl, GlTo gl11 gl -> SaysLink gl) (p : Pts) (v : Value) (a : Option Addr) (l c : Nat) (z : List Int) (w : World) (hG : GlobOk gl11 w) (hp : wfPts w p) (hu : ArgsOk w [.inr (rPart p)] [v]) (hz : SliceIn .i64 w a l c z) : Ret Tryd.prog 3 #[v, .slice a l c] (.bool true) w := by
 have hT := glTo_frz hG
 exact (linkImages_ret (fun w' h => to9 w' (hT w' h)) (hA _ hT) p l (fun i => z.getD i 0) hp.1 hp.2 w [v, .slice a l c] (frz_ok w) ⟨hu.1, sliceIn_inB hz _ false false true, trivial⟩).plain
end Go.Proofs.YtilljoemebbnjaaDoor
namespace Go.Proofs.YtilljoemebbnjaaDoor
open Go.RowKit Go.ChangeShapes Go.WideShapes Go.ChangeAt Go.Deep Sim S2
theorem linkImages_walk (p : Pts) (v : Value) (a : Option Addr) (l c : Nat) (z : List Int) (w : World) (hG : GlobOk gl11 w) (hp : wfPts w p) (hu : ArgsOk w [.inr (rPart p)] [v]) (hz : SliceIn .i64 w a l c z) : Ret Tryd.prog 3 #[v, .slice a l c] (.bool true) w :=
 linkImages_fr (fun _ h => saysLink h) p v a l c z w hG hp hu hz
end Go.Proofs.YtilljoemebbnjaaDoor
