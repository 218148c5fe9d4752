/- Openers for layer 13: candidates. -/
import Derived.Test.YtmaffamhjmlonaaK03
import Derived.Test.YtmaffamhjmlonaaOpenA
import Derived.Test.YtmaffamhjmlonaaK04
import Derived.Test.YtmaffamhjmlonaaK07
set_option linter.unusedVariables false
set_option linter.unusedSimpArgs false
namespace Go.Proofs.Ytmaffamhjmlonaa
open Go.RowKit Go.Joins Go.ChangeShapes Go.WideShapes Go.ChangeAt Go.Deep Sim S2
def rcKd : List FK := [some (some .i64), some (some .i64), some (some .i64), some (some .i64), none, none]
def rfKd : List FK := [some (some .i64), some (some .i64)]
def wfI (n : Int) : Prop := -9223372036854775808 <= n /\ n <= 9223372036854775807
theorem wfI_of {n : Int} (h : (Lit.int .i64 n).wf = true) : wfI n := by
 have h : (decide (IntKind.min .i64 <= n) && decide (n <= IntKind.max .i64)) = true := h
 rw [Bool.and_eq_true] at h
 exact ⟨of_decide_eq_true h.1, of_decide_eq_true h.2⟩
def wfRc (r : Rc) : Prop := wfI r.pc /\ wfI r.val /\ wfI r.sh /\ wfI r.sa
def wfRf (r : Rf) : Prop := wfI r.h /\ wfI r.a
theorem rc_cells {cs : List Value} (h : FV rcKd cs) : ∃ r : Rc, cs = rcC r /\ wfRc r := by
 obtain ⟨_, _, rfl, ⟨a, rfl, w1⟩, h1⟩ := fv_cons h
 obtain ⟨_, _, rfl, ⟨b, rfl, w2⟩, h2⟩ := fv_cons h1
 obtain ⟨_, _, rfl, ⟨c, rfl, w3⟩, h3⟩ := fv_cons h2
 obtain ⟨_, _, rfl, ⟨d, rfl, w4⟩, h4⟩ := fv_cons h3
 obtain ⟨_, _, rfl, ⟨e, rfl⟩, h5⟩ := fv_cons h4
 obtain ⟨_, _, rfl, ⟨f, rfl⟩, h6⟩ := fv_cons h5
 rw [fv_nil h6]
 exact ⟨⟨a, b, c, d, e, f⟩, rfl, wfI_of w1, wfI_of w2, wfI_of w3, wfI_of w4⟩
theorem rf_cells {cs : List Value} (h : FV rfKd cs) : ∃ r : Rf, cs = rfC r /\ wfRf r := by
 obtain ⟨_, _, rfl, ⟨a, rfl, w1⟩, h1⟩ := fv_cons h
 obtain ⟨_, _, rfl, ⟨b, rfl, w2⟩, h2⟩ := fv_cons h1
 rw [fv_nil h2]
 exact ⟨⟨a, b⟩, rfl, wfI_of w1, wfI_of w2⟩
theorem cells_frz {w : World} {b off S j n cap : Nat} {cs : List Value} (hS : cs.length = S) (hpos : 0 < S) (h : ∀ (o : Nat) c, cs[o]? = some c -> w.cell? ⟨b, off + j * S + o, none⟩ = some c) : cellsG (frz w) (.slice (some ⟨b, off, none⟩) n cap) S j = cs := by
 obtain ⟨al, h1, _⟩ := frz_of (h 0 _ (List.getElem?_eq_getElem (by omega)))
 show (match frz w b with | some cs => (cs.drop (off + j * S)).take S | none => []) = cs
 rw [h1]
 show (al.drop (off + j * S)).take S = cs
 refine List.ext_getElem? fun i => ?_
 rw [List.getElem?_take]
 by_cases hi : i < S
 . rw [if_pos hi, List.getElem?_drop]
   have h2 := h i _ (List.getElem?_eq_getElem (by omega))
   rw [frz_cell h1] at h2
   rw [h2, List.getElem?_eq_getElem (by omega)]
 . rw [if_neg hi, List.getElem?_eq_none (by omega)]
section
variable {H : Type} {enc : TypeId × Value -> H} {P : Program} {w : World}
theorem recs_in {t e : TypeId} {a : Option Addr} {len cap : Nat} {d : DataW H} {p : List MemPlace} (ht : P.underlying t = some (.slice e)) (hk : (flatK P 4 e == some rcKd && Nat.beq (P.cellsOf e) 6) = true)
   (h : DataW.Trod enc P w 0 (fun _ => true) true t (.slice a len cap) d p) : rowG (frz w) (.slice a len cap) (rcE (frz w) (.slice a len cap)) /\ len <= 9223372036854775807 /\ ∀ k, k < len -> wfRc (rcG (frz w) (.slice a len cap) k) := by
 rw [Bool.and_eq_true] at hk
 obtain ⟨hl, hm, hc⟩ := slice_flat ht (by simpa using hk.1 : flatK P 4 e = some rcKd) (qB hk.2) (by decide) h
 have hm : cap <= 9223372036854775807 := hm
 have wf : (rcE (frz w) (.slice a len cap)).wf := ⟨by show 0 < 6; decide, fun j _ => ⟨rfl, rfl⟩⟩
 rcases Nat.eq_zero_or_pos len with h0 | hp
 . subst h0
   exact ⟨rowG_of (B := w.heap.size) ⟨wf, a, cap, rfl, hl, fun h => absurd h (Nat.lt_irrefl 0)⟩, by omega, fun k hk => absurd hk (Nat.not_lt_zero k)⟩
 . obtain ⟨b, off, rfl, hb, hcell⟩ := hc hp
   have each : ∀ k, k < len -> ∃ r : Rc, wfRc r /\ rcG (frz w) (.slice (some ⟨b, off, none⟩) len cap) k = r /\ ∀ (o : Nat) c, (rcC r)[o]? = some c -> w.cell? ⟨b, off + k * 6 + o, none⟩ = some c := fun k hk => by
     obtain ⟨cs, hfv, hcs⟩ := hcell k hk
     obtain ⟨r, rfl, hw⟩ := rc_cells hfv
     have hcs : ∀ (o : Nat) c, (rcC r)[o]? = some c -> w.cell? ⟨b, off + k * 6 + o, none⟩ = some c := hcs
     refine ⟨r, hw, ?_, hcs⟩
     rw [rcG_eq, cells_frz (S := 6) (cs := rcC r) rfl (by decide) hcs]; rfl
   refine ⟨rowG_of (B := w.heap.size) ⟨wf, _, cap, rfl, hl, fun _ => ⟨b, off, rfl, hb, fun k hk o c ho => ?_⟩⟩, by omega, fun k hk => ?_⟩
   . obtain ⟨r, _, he, hcs⟩ := each k hk
     have ho : (rcC (rcG (frz w) (.slice (some ⟨b, off, none⟩) len cap) k))[o]? = some c := ho
     rw [he] at ho
     exact hcs o c ho
   . obtain ⟨r, hw, he, _⟩ := each k hk
     rw [he]; exact hw
theorem refs_in {t e : TypeId} {a : Option Addr} {len cap : Nat} {d : DataW H} {p : List MemPlace} (ht : P.underlying t = some (.slice e)) (hk : (flatK P 4 e == some rfKd && Nat.beq (P.cellsOf e) 2) = true)
   (h : DataW.Trod enc P w 0 (fun _ => true) true t (.slice a len cap) d p) : rowG (frz w) (.slice a len cap) (rfE (frz w) (.slice a len cap)) /\ len <= 9223372036854775807 /\ ∀ k, k < len -> wfRf (rfG (frz w) (.slice a len cap) k) := by
 rw [Bool.and_eq_true] at hk
 obtain ⟨hl, hm, hc⟩ := slice_flat ht (by simpa using hk.1 : flatK P 4 e = some rfKd) (qB hk.2) (by decide) h
 have hm : cap <= 9223372036854775807 := hm
 have wf : (rfE (frz w) (.slice a len cap)).wf := ⟨by show 0 < 2; decide, fun j _ => ⟨rfl, rfl⟩⟩
 rcases Nat.eq_zero_or_pos len with h0 | hp
 . subst h0
   exact ⟨rowG_of (B := w.heap.size) ⟨wf, a, cap, rfl, hl, fun h => absurd h (Nat.lt_irrefl 0)⟩, by omega, fun k hk => absurd hk (Nat.not_lt_zero k)⟩
 . obtain ⟨b, off, rfl, hb, hcell⟩ := hc hp
   have each : ∀ k, k < len -> ∃ r : Rf, wfRf r /\ rfG (frz w) (.slice (some ⟨b, off, none⟩) len cap) k = r /\ ∀ (o : Nat) c, (rfC r)[o]? = some c -> w.cell? ⟨b, off + k * 2 + o, none⟩ = some c := fun k hk => by
     obtain ⟨cs, hfv, hcs⟩ := hcell k hk
     obtain ⟨r, rfl, hw⟩ := rf_cells hfv
     have hcs : ∀ (o : Nat) c, (rfC r)[o]? = some c -> w.cell? ⟨b, off + k * 2 + o, none⟩ = some c := hcs
     refine ⟨r, hw, ?_, hcs⟩
     rw [rfG_eq, cells_frz (S := 2) (cs := rfC r) rfl (by decide) hcs]; rfl
   refine ⟨rowG_of (B := w.heap.size) ⟨wf, _, cap, rfl, hl, fun _ => ⟨b, off, rfl, hb, fun k hk o c ho => ?_⟩⟩, by omega, fun k hk => ?_⟩
   . obtain ⟨r, _, he, hcs⟩ := each k hk
     have ho : (rfC (rfG (frz w) (.slice (some ⟨b, off, none⟩) len cap) k))[o]? = some c := ho
     rw [he] at ho
     exact hcs o c ho
   . obtain ⟨r, hw, he, _⟩ := each k hk
     rw [he]; exact hw
theorem harts_in {t e e0 : TypeId} {a : Option Addr} {len cap : Nat} {d : DataW H} {p : List MemPlace} (ht : P.underlying t = some (.slice e)) (he : P.underlying e = some (.slice e0)) (hk : (flatK P 4 e0 == some rcKd && Nat.beq (P.cellsOf e0) 6) = true) (h1 : P.cellsOf e = 1)
   (h : DataW.Trod enc P w 0 (fun _ => true) true t (.slice a len cap) d p) : rowG (frz w) (.slice a len cap) (hsE (frz w) (.slice a len cap)) /\ len <= 9223372036854775807 /\
     ∀ i, i < len -> rowG (frz w) (slG (frz w) (.slice a len cap) 1 0 i) (rcE (frz w) (slG (frz w) (.slice a len cap) 1 0 i)) /\ lenV (slG (frz w) (.slice a len cap) 1 0 i) <= 9223372036854775807 /\ ∀ k, k < lenV (slG (frz w) (.slice a len cap) 1 0 i) -> wfRc (rcG (frz w) (slG (frz w) (.slice a len cap) 1 0 i) k) := by
 obtain ⟨hl, hm, hc⟩ := slice_any ht h1 (by decide) h
 have hm : cap <= 9223372036854775807 := hm
 have wf : (hsE (frz w) (.slice a len cap)).wf := ⟨by show 0 < 1; decide, fun j _ => ⟨rfl, rfl⟩⟩
 rcases Nat.eq_zero_or_pos len with h0 | hp
 . subst h0
   exact ⟨rowG_of (B := w.heap.size) ⟨wf, a, cap, rfl, hl, fun h => absurd h (Nat.lt_irrefl 0)⟩, by omega, fun k hk => absurd hk (Nat.not_lt_zero k)⟩
 . obtain ⟨b, off, rfl, hb, hcell⟩ := hc hp
   have each : ∀ i, i < len -> ∃ a0 l0 q0 d0 p0, slG (frz w) (.slice (some ⟨b, off, none⟩) len cap) 1 0 i = .slice a0 l0 q0 /\ (∀ (o : Nat) c, [Value.slice a0 l0 q0][o]? = some c -> w.cell? ⟨b, off + i * 1 + o, none⟩ = some c) /\ DataW.Trod enc P w 0 (fun _ => true) true e (.slice a0 l0 q0) d0 p0 := fun i hi => by
     obtain ⟨cs, m, y, hcl, hy, hcs⟩ := hcell i hi
     match cs, hcl with
     | [x0], _ =>
       obtain ⟨a0, l0, q0, rfl, hT⟩ := slice_cell he hy
       refine ⟨a0, l0, q0, y.1, y.2, slG_eq _ _ _ _ _ ?_, hcs, hT⟩
       rw [cells_frz (S := 1) (cs := [Value.slice a0 l0 q0]) rfl (by decide) hcs]; rfl
   refine ⟨rowG_of (B := w.heap.size) ⟨wf, _, cap, rfl, hl, fun _ => ⟨b, off, rfl, hb, fun i hi o c ho => ?_⟩⟩, by omega, fun i hi => ?_⟩
   . obtain ⟨a0, l0, q0, _, _, hs, hcs, _⟩ := each i hi
     have ho : [slG (frz w) (.slice (some ⟨b, off, none⟩) len cap) 1 0 i][o]? = some c := ho
     rw [hs] at ho
     exact hcs o c ho
   . obtain ⟨a0, l0, q0, _, _, hs, _, hT⟩ := each i hi
     rw [hs]
     exact recs_in he hk hT
theorem rows_in {t e e0 : TypeId} {f0 f1 : Field} {a : Option Addr} {len cap : Nat} {d : DataW H} {p : List MemPlace} (ht : P.underlying t = some (.slice e)) (he : P.underlying e = some (.struct #[f0, f1])) (u0 : P.underlying f0.type = some (.int .i64)) (u1 : P.underlying f1.type = some (.slice e0)) (hk : (flatK P 4 e0 == some rfKd && Nat.beq (P.cellsOf e0) 2) = true)
   (ho : (f0.offset, f1.offset, P.cellsOf f0.type, P.cellsOf f1.type, P.cellsOf e) = (0, 1, 1, 1, 2))
   (h : DataW.Trod enc P w 0 (fun _ => true) true t (.slice a len cap) d p) : rowG (frz w) (.slice a len cap) (rwE (frz w) (.slice a len cap)) /\ len <= 9223372036854775807 /\
     ∀ i, i < len -> rowG (frz w) (slG (frz w) (.slice a len cap) 2 1 i) (rfE (frz w) (slG (frz w) (.slice a len cap) 2 1 i)) /\ lenV (slG (frz w) (.slice a len cap) 2 1 i) <= 9223372036854775807 /\ (∀ k, k < lenV (slG (frz w) (.slice a len cap) 2 1 i) -> wfRf (rfG (frz w) (slG (frz w) (.slice a len cap) 2 1 i) k)) /\ wfI (raG (frz w) (.slice a len cap) i) := by
 simp only [qP] at ho
 obtain ⟨o0, o1, s0, s1, sT⟩ := ho
 obtain ⟨hl, hm, hc⟩ := slice_any ht sT (by decide) h
 have hm : cap <= 9223372036854775807 := hm
 have wf : (rwE (frz w) (.slice a len cap)).wf := ⟨by show 0 < 2; decide, fun j _ => ⟨rfl, rfl⟩⟩
 rcases Nat.eq_zero_or_pos len with h0 | hp
 . subst h0
   exact ⟨rowG_of (B := w.heap.size) ⟨wf, a, cap, rfl, hl, fun h => absurd h (Nat.lt_irrefl 0)⟩, by omega, fun k hk => absurd hk (Nat.not_lt_zero k)⟩
 . obtain ⟨b, off, rfl, hb, hcell⟩ := hc hp
   have each : ∀ i, i < len -> ∃ z a0 l0 q0 d0 p0, wfI z /\ raG (frz w) (.slice (some ⟨b, off, none⟩) len cap) i = z /\ slG (frz w) (.slice (some ⟨b, off, none⟩) len cap) 2 1 i = .slice a0 l0 q0 /\ (∀ (o : Nat) c, [Value.int .i64 z, Value.slice a0 l0 q0][o]? = some c -> w.cell? ⟨b, off + i * 2 + o, none⟩ = some c) /\ DataW.Trod enc P w 0 (fun _ => true) true f1.type (.slice a0 l0 q0) d0 p0 := fun i hi => by
     obtain ⟨cs, m, y, hcl, hy, hcs⟩ := hcell i hi
     obtain ⟨y0, y1, n, _, _, t0, t1⟩ := trod_struct2 he hy
     rw [o0, s0] at t0
     rw [o1, s1] at t1
     match cs, hcl with
     | [x0, x1], _ =>
       have t0 : DataW.trod enc P w 0 (fun _ => true) true n f0.type [x0] = some y0 := t0
       have t1 : DataW.trod enc P w 0 (fun _ => true) true n f1.type [x1] = some y1 := t1
       obtain ⟨a0, l0, q0, rfl, hT⟩ := slice_cell u1 t1
       obtain ⟨z, hz, _, hw⟩ := DataW.trod_int u0 t0
       have hz : x0 = .int .i64 z := by simpa using hz
       subst hz
       refine ⟨z, a0, l0, q0, y1.1, y1.2, wfI_of hw, ?_, slG_eq _ _ _ _ _ ?_, hcs, hT⟩
       . rw [raG_eq, cells_frz (S := 1) (cs := [Value.int .i64 z]) rfl (by decide) (fun o c ho => by
           match o, ho with
           | 0, ho =>
             have h1 := hcs 0 c ho
             rw [show off + 2 * i * 1 + 0 = off + i * 2 + 0 by omega]
             exact h1
           | o + 1, ho => cases ho)]
         rfl
       . rw [cells_frz (S := 2) (cs := [Value.int .i64 z, Value.slice a0 l0 q0]) rfl (by decide) hcs]; rfl
   refine ⟨rowG_of (B := w.heap.size) ⟨wf, _, cap, rfl, hl, fun _ => ⟨b, off, rfl, hb, fun i hi o c ho => ?_⟩⟩, by omega, fun i hi => ?_⟩
   . obtain ⟨z, a0, l0, q0, _, _, _, hz, hs, hcs, _⟩ := each i hi
     have ho : [Value.int .i64 (raG (frz w) (.slice (some ⟨b, off, none⟩) len cap) i), slG (frz w) (.slice (some ⟨b, off, none⟩) len cap) 2 1 i][o]? = some c := ho
     rw [hs, hz] at ho
     exact hcs o c ho
   . obtain ⟨z, a0, l0, q0, _, _, hw, hz, hs, _, hT⟩ := each i hi
     rw [hs, hz]
     obtain ⟨g1, g2, g3⟩ := refs_in u1 hk hT
     exact ⟨g1, g2, g3, hw⟩
end
structure CnWf (gl : Gl) (c : Cn) : Prop where
 rc : ∀ i, i < c.hn -> ∀ k, k < lenV (c.hv gl i) -> wfRc (rcG gl (c.hv gl i) k)
 ra : ∀ i, i < c.rn -> wfI (raG gl c.r i)
 rf : ∀ i, i < c.rn -> ∀ k, k < lenV (c.rv gl i) -> wfRf (rfG gl (c.rv gl i) k)
set_option maxRecDepth 100000 in
theorem cand_in {H : Type} {enc : TypeId × Value -> H} {w : World} {r : Reach} {b0 : Nat} {v : Value} {d : DataW H} {pl : List MemPlace} (hv : Value.okWide Try.prog w r b0 25 v) (h : DataW.Trod enc Try.prog w 0 (fun _ => true) true 25 v d pl) : ∃ c : Cn, v = cnV c /\ CnOk (frz w) c /\ CnSm (frz w) c /\ CnWf (frz w) c := by
 obtain ⟨cs, rfl, hsz⟩ := okWide_struct Try.underlying25 hv
 obtain ⟨fuel, hf⟩ := h
 obtain ⟨y0, y1, n, _, hl, h0, h1⟩ := trod_struct2 Try.underlying25 hf
 obtain ⟨x0, x1, hx⟩ : ∃ x0 x1, cs.toList = [x0, x1] := by
   have hl : cs.toList.length = 2 := hl
   match hcs : cs.toList, hl with
   | [x0, x1], _ => exact ⟨x0, x1, rfl⟩
 have hc : (Value.agg cs).cells.toList = [x0, x1] := hx
 rw [hc] at h0 h1
 have h0 : DataW.trod enc Try.prog w 0 (fun _ => true) true n 22 [x0] = some y0 := h0
 have h1 : DataW.trod enc Try.prog w 0 (fun _ => true) true n 23 [x1] = some y1 := h1
 obtain ⟨a0, l0, q0, rfl, t0⟩ := slice_cell Try.underlying22 h0
 obtain ⟨a1, l1, q1, rfl, t1⟩ := slice_cell Try.underlying23 h1
 obtain ⟨g1, g2, g3⟩ := harts_in Try.underlying22 Try.underlying40 (by kernel_rfl) (by kernel_rfl) t0
 obtain ⟨k1, k2, k3⟩ := rows_in Try.underlying23 Try.underlying43 Try.underlying3 Try.underlying41 (by kernel_rfl) (by kernel_rfl) t1
 refine ⟨⟨a0, l0, q0, a1, l1, q1⟩, ?_, ⟨g1, k1, fun i hi => (g3 i hi).1, fun i hi => (k3 i hi).1⟩, ⟨g2, k2, fun i hi => (g3 i hi).2.1, fun i hi => (k3 i hi).2.1⟩, ⟨fun i hi => (g3 i hi).2.2, fun i hi => (k3 i hi).2.2.2, fun i hi => (k3 i hi).2.2.1⟩⟩
 show Value.agg cs = .agg #[_, _]
 rw [<- Array.toArray_toList (xs := cs), hx]
end Go.Proofs.Ytmaffamhjmlonaa
