/- Layer 13: how long a candidate's lists are, by the statement's own reach: each slice that is met in reading it is within 2^47 - 4096 bytes. -/
import Derived.Test.YtmaffamhjmlonaaOpen13
import Derived.Test.YtmaffamhjmlonaaWalkS13
import Derived.SizedLaws
set_option linter.unusedVariables false
set_option linter.unusedSimpArgs false
namespace Go.Proofs.Ytmaffamhjmlonaa
open Go Go.RowKit Sim S2 Go.ChangeShapes Go.WideShapes
section
variable {H : Type} {enc : TypeId × Value -> H} {P : Program} {w : World}
def inReach (P : Program) (t : TypeId) (d : DataW H) : Prop := ∀ n ∈ d.weights P t, n <= reachBytes
theorem weights_all {e : TypeId} {y : DataW H} : ∀ {l : List (DataW H)}, y ∈ l -> ∀ n ∈ y.weights P e, n ∈ DataW.weightsAll P e l
 | d :: r, hy, n, hn => by
   simp only [DataW.weightsAll, List.mem_append]
   rcases List.mem_cons.mp hy with rfl | hy
   . exact .inl hn
   . exact .inr (weights_all hy n hn)
theorem slice_wt {t e : TypeId} {S : Nat} {a : Option Addr} {len cap : Nat} {d : DataW H} {p : List MemPlace} (ht : P.underlying t = some (.slice e)) (hC : P.cellsOf e = S) (hpos : 0 < S)
   (h : DataW.Trod enc P w 0 (fun _ => true) true t (.slice a len cap) d p) (hb : inReach P t d) :
   len * P.bytesOf e <= reachBytes /\ (a = none -> len = 0 /\ cap = 0) /\ ∀ j, j < len -> ∃ b off cs m y, a = some ⟨b, off, none⟩ /\ cs.length = S /\ DataW.trod enc P w 0 (fun _ => true) true m e cs = some y /\ (∀ (o : Nat) c, cs[o]? = some c -> w.cell? ⟨b, off + j * S + o, none⟩ = some c) /\ inReach P e y.1 := by
 obtain ⟨fuel, hf⟩ := h
 rcases DataW.trod_slice ht hf with ⟨hcs, _⟩ | ⟨a0, len0, cap0, elems, rest, m, _, hcs, hx, _, hl, hm, hlen, hel, _, _⟩
 . simp [Value.cells] at hcs
   obtain ⟨rfl, rfl, rfl⟩ := hcs
   exact ⟨by simp, fun _ => ⟨rfl, rfl⟩, fun j hj => absurd hj (Nat.not_lt_zero _)⟩
 . simp [Value.cells] at hcs
   obtain ⟨rfl, rfl, rfl⟩ := hcs
   have hd : d = .slice (elems.map (·.1)) (rest.map (·.1)) := congrArg Prod.fst hx
   subst hd
   have hb : ∀ n ∈ ((elems.map (·.1)).length + (rest.map (·.1)).length) * P.bytesOf e :: (DataW.weightsAll P e (elems.map (·.1)) ++ DataW.weightsAll P e (rest.map (·.1))), n <= reachBytes := by
     have := hb
     unfold inReach at this
     simp only [DataW.weights, ht] at this
     exact this
   refine ⟨?_, fun h => (by cases h), fun j hj => ?_⟩
   . have h1 := hb _ (List.mem_cons_self ..)
     rw [List.length_map, hlen] at h1
     exact Nat.le_trans (Nat.mul_le_mul_right _ (Nat.le_add_right _ _)) h1
   . rw [hC] at hel
     have each : ∀ j, (hj : j < len) -> ∃ cs, DataW.trod enc P w 0 (fun _ => true) true m e cs = some (elems[j]'(by omega)) /\ cs.length = S /\ ∀ o, o < S -> w.cell? ((a0.add (j * S)).add o) = cs[o]? := fun j hj => by
       have h0 := hel j hj
       rw [List.getElem?_eq_getElem (by omega), Option.bind_eq_some_iff] at h0
       obtain ⟨cs, hc, hy⟩ := h0
       have hc' : (List.range S).mapM (fun i => w.cell? ((a0.add (j * S)).add i)) = some cs := by
         unfold World.cells? at hc
         simpa using hc
       exact ⟨cs, hy, by simpa using mapM_some_length hc', fun o ho => mapM_some_get hc' o o (by simp [ho])⟩
     obtain ⟨cs, hy, hcl, hget⟩ := each j hj
     obtain ⟨cs0, _, hcl0, hget0⟩ := each 0 (by omega)
     obtain ⟨b, off, spot⟩ := a0
     have hspot : spot = none := by
       have h1 := hget0 0 hpos
       rw [List.getElem?_eq_getElem (by omega)] at h1
       simpa [Addr.add] using World.cell?_spot h1
     subst hspot
     refine ⟨b, off, cs, m, elems[j]'(by omega), rfl, hcl, hy, fun o c ho => ?_, fun n hn => ?_⟩
     . have hol : o < S := by
         rw [<- hcl]
         exact (List.getElem?_eq_some_iff.1 ho).1
       have h1 := hget o hol
       rw [ho, Go.WideShapes.add_plain, Go.WideShapes.add_plain] at h1
       exact h1
     . exact hb n (List.mem_cons_of_mem _ (List.mem_append_left _ (weights_all (List.mem_map.mpr ⟨_, List.getElem_mem (by omega), rfl⟩) n hn)))
end
theorem reach_room : reachBytes <= 140737488355328 := by decide
set_option maxRecDepth 100000 in
theorem cand_sz {H : Type} {enc : TypeId × Value -> H} {w : World} {r : Reach} {b0 : Nat} {v : Value} {d : DataW H} {pl : List MemPlace} (hv : Value.okWide Try.prog w r b0 25 v) (h : DataW.Trod enc Try.prog w 0 (fun _ => true) true 25 v d pl) (hb : inReach Try.prog 25 d) : ∃ c : Cn, v = cnV c /\ CnOk (frz w) c /\ CnSm (frz w) c /\ CnSz (frz w) c := by
 obtain ⟨c, rfl, h1, h2, h3⟩ := cand_in hv h
 refine ⟨c, rfl, h1, h2, ?_⟩
 obtain ⟨fuel, hf⟩ := h
 obtain ⟨y0, y1, n, hx, hl, t0, t1⟩ := trod_struct2 Try.underlying25 hf
 have t0 : DataW.trod enc Try.prog w 0 (fun _ => true) true n 22 [.slice c.ha c.hn c.hc] = some y0 := t0
 have t1 : DataW.trod enc Try.prog w 0 (fun _ => true) true n 23 [.slice c.ra c.rn c.rc] = some y1 := t1
 have hd : d = .agg [y0.1, y1.1] := congrArg Prod.fst hx
 subst hd
 have hb2 : ∀ n ∈ y0.1.weights Try.prog 22 ++ (y1.1.weights Try.prog 23 ++ []), n <= reachBytes := by
   have := hb
   unfold inReach at this
   simp only [DataW.weights, Try.underlying25] at this
   exact this
 have T0 : DataW.Trod enc Try.prog w 0 (fun _ => true) true 22 (.slice c.ha c.hn c.hc) y0.1 y0.2 := ⟨n, t0⟩
 have T1 : DataW.Trod enc Try.prog w 0 (fun _ => true) true 23 (.slice c.ra c.rn c.rc) y1.1 y1.2 := ⟨n, t1⟩
 obtain ⟨_, a2, a3⟩ := slice_wt Try.underlying22 (S := 1) (by kernel_rfl) (by decide) T0 (fun n hn => hb2 n (List.mem_append_left _ hn))
 obtain ⟨_, b2, b3⟩ := slice_wt Try.underlying23 (S := 2) (by kernel_rfl) (by decide) T1 (fun n hn => hb2 n (List.mem_append_right _ (List.mem_append_left _ hn)))
 have hr := reach_room
 refine ⟨a2, b2, fun i hi => ?_, fun i hi => ?_⟩
 . obtain ⟨b, off, cs, m, y, ha, hcl, hy, hcell, hyb⟩ := a3 i hi
   match cs, hcl with
   | [x0], _ =>
     obtain ⟨a0, l0, q0, rfl, hT⟩ := slice_cell Try.underlying40 hy
     obtain ⟨k1, k2, _⟩ := slice_wt Try.underlying40 (S := 6) (by kernel_rfl) (by decide) hT hyb
     have e : c.hv (frz w) i = .slice a0 l0 q0 := by
       show slG (frz w) (.slice c.ha c.hn c.hc) 1 0 i = _
       rw [ha]
       refine slG_eq _ _ _ _ _ ?_
       rw [cells_frz (S := 1) (cs := [Value.slice a0 l0 q0]) rfl (by decide) hcell]; rfl
     have kb : Program.bytesOf Try.prog 48 = 40 := by kernel_rfl
     rw [kb] at k1
     rw [e]
     refine ⟨by show l0 * 40 <= _; omega, fun h => ?_⟩
     have h : a0 = none := h
     obtain ⟨g1, g2⟩ := k2 h
     rw [h, g1, g2]
 . obtain ⟨b, off, cs, m, y, ha, hcl, hy, hcell, hyb⟩ := b3 i hi
   match cs, hcl with
   | [x0, x1], _ =>
     obtain ⟨z0, z1, n2, hz, _, s0, s1⟩ := trod_struct2 Try.underlying43 hy
     have s1 : DataW.trod enc Try.prog w 0 (fun _ => true) true n2 41 [x1] = some z1 := s1
     obtain ⟨a0, l0, q0, rfl, hT⟩ := slice_cell Try.underlying41 s1
     have hyd : y.1 = .agg [z0.1, z1.1] := by rw [hz]
     have hzb : inReach Try.prog 41 z1.1 := fun n hn => by
       have h5 := hyb
       rw [hyd] at h5
       unfold inReach at h5
       simp only [DataW.weights, Try.underlying43] at h5
       exact h5 n (List.mem_append_right _ (List.mem_append_left _ hn))
     obtain ⟨k1, k2, _⟩ := slice_wt Try.underlying41 (S := 2) (by kernel_rfl) (by decide) hT hzb
     have e : c.rv (frz w) i = .slice a0 l0 q0 := by
       show slG (frz w) (.slice c.ra c.rn c.rc) 2 1 i = _
       rw [ha]
       refine slG_eq _ _ _ _ _ ?_
       rw [cells_frz (S := 2) (cs := [x0, Value.slice a0 l0 q0]) rfl (by decide) hcell]; rfl
     have kb : Program.bytesOf Try.prog 46 = 16 := by kernel_rfl
     rw [kb] at k1
     rw [e]
     refine ⟨by show l0 * 16 <= _; omega, fun h => ?_⟩
     have h : a0 = none := h
     obtain ⟨g1, g2⟩ := k2 h
     rw [h, g1, g2]
theorem candSame_frame (c : Cn) (v : Value) (b : Cn) (u : Value) (w : World) (hv : v = cnV c) (h : CnOk (frz w) c /\ CnSm (frz w) c /\ CnSz (frz w) c) (hu : u = cnV b) (k : CnOk (frz w) b /\ CnSm (frz w) b /\ CnWf (frz w) b) : Ret Try.prog 5 #[v, u] (.bool true) w := candSame_walk c b v u w hv hu h k.1
theorem reach_of {H : Type} {P : Program} {ts : List TypeId} {ds : List (DataW H)} (h : (DataW.weightsEach P ts ds).all (· <= reachBytes) = true) {j : Nat} {t : TypeId} {d : DataW H} (ht : ts[j]? = some t) (hd : ds[j]? = some d) : inReach P t d := fun n hn => by
 have := List.all_eq_true.1 h _ (DataW.weights_mem_each ht hd n hn)
 simpa using this
end Go.Proofs.Ytmaffamhjmlonaa
