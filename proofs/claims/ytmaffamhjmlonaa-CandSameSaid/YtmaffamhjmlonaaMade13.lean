/- Layer 13: a candidate made of lists that were given up to what stays: what it holds. -/
import Derived.Test.YtmaffamhjmlonaaK07
import Derived.Test.YtmaffamhjmlonaaK08
set_option linter.unusedVariables false
set_option linter.unusedSimpArgs false
namespace Go.Proofs.Ytmaffamhjmlonaa
open Go Go.RowKit Sim S2
theorem cells_row {gl : Gl} {v : Value} {e : LE} (h : rowG gl v e) {S : Nat} (hS : e.size = S) {j : Nat} (hj : j < e.n) : cellsG gl v S j = e.el j := by
 subst hS
 obtain ⟨⟨h1, h2⟩, a, cap, rfl, hc, h3⟩ := h
 obtain ⟨b, off, cs, rfl, hg, h4⟩ := h3 (by omega)
 show (match gl b with | some cs => (cs.drop (off + j * e.size)).take e.size | none => []) = e.el j
 rw [hg]
 have hl := (h2 j hj).1
 refine List.ext_getElem? fun o => ?_
 by_cases ho : o < e.size
 . show ((cs.drop (off + j * e.size)).take e.size)[o]? = _
   rw [List.getElem?_take_of_lt ho, List.getElem?_drop]
   have hx : o < (e.el j).length := by omega
   rw [List.getElem?_eq_getElem hx]
   exact h4 j hj o _ (List.getElem?_eq_getElem hx)
 . rw [List.getElem?_eq_none (by omega : (e.el j).length <= o)]
   exact List.getElem?_eq_none (by rw [List.length_take]; omega)
theorem rowG_as {gl : Gl} {v : Value} {e e2 : LE} (h : rowG gl v e) (h1 : e2.size = e.size) (h2 : e2.n = e.n) (h3 : ∀ j, j < e.n -> e2.el j = e.el j) : rowG gl v e2 := by
 obtain ⟨⟨k1, k2⟩, a, cap, hv, hc, k3⟩ := h
 refine ⟨⟨by omega, fun j hj => by rw [h3 j (by omega), h1]; exact k2 j (by omega)⟩, a, cap, by rw [h2]; exact hv, by omega, fun hn => ?_⟩
 obtain ⟨b, off, cs, ha, hg, k4⟩ := k3 (by omega)
 exact ⟨b, off, cs, ha, hg, fun j hj => by rw [h3 j (by omega), h1]; exact k4 j (by omega)⟩
theorem rowG_len {gl : Gl} {v : Value} {e : LE} (h : rowG gl v e) : lenV v = e.n := by
 obtain ⟨_, a, cap, rfl, _⟩ := h
 rfl
theorem rec_row {gl : Gl} {v : Value} {L : List Rc} (h : rowG gl v (coE L)) : rowG gl v (rcE gl v) /\ recsT gl v = L := by
 have hl := rowG_len h
 have hl : lenV v = L.length := hl
 have hr : ∀ j (hj : j < L.length), rcG gl v j = L[j] := fun j hj => by
   rw [rcG_eq, cells_row h (S := 6) rfl (show j < (coE L).n from hj)]
   show decRc (rcC ((L[j]?).getD _)) = _
   rw [List.getElem?_eq_getElem hj]; rfl
 refine ⟨rowG_as h rfl hl fun j hj => ?_, ?_⟩
 . show rcC (rcG gl v j) = rcC ((L[j]?).getD _)
   have hj : j < L.length := hj
   rw [hr j hj, List.getElem?_eq_getElem hj]; rfl
 . unfold recsT
   rw [hl]
   exact List.ext_getElem (by simp) fun i h1 h2 => by simp [hr i h2]
theorem ref_row {gl : Gl} {v : Value} {L : List Rf} (h : rowG gl v (roE L)) : rowG gl v (rfE gl v) /\ stosT gl v = L := by
 have hl := rowG_len h
 have hl : lenV v = L.length := hl
 have hr : ∀ j (hj : j < L.length), rfG gl v j = L[j] := fun j hj => by
   rw [rfG_eq, cells_row h (S := 2) rfl (show j < (roE L).n from hj)]
   show decRf (rfC ((L[j]?).getD _)) = _
   rw [List.getElem?_eq_getElem hj]; rfl
 refine ⟨rowG_as h rfl hl fun j hj => ?_, ?_⟩
 . show rfC (rfG gl v j) = rfC ((L[j]?).getD _)
   have hj : j < L.length := hj
   rw [hr j hj, List.getElem?_eq_getElem hj]; rfl
 . unfold stosT
   rw [hl]
   exact List.ext_getElem (by simp) fun i h1 h2 => by simp [hr i h2]
theorem slG_row {gl : Gl} {v : Value} {e : LE} (h : rowG gl v e) {S o : Nat} (hS : e.size = S) {j : Nat} (hj : j < e.n) {u : Value} (hu : (e.el j)[o]? = some u) {a : Option Addr} {n cap : Nat} (hs : u = .slice a n cap) : slG gl v S o j = u := by
 rw [hs]
 refine slG_eq gl v S o j ?_
 rw [cells_row h hS hj]
 unfold nthV
 rw [hu, hs]; rfl
theorem made_ok {F : Nat -> Option Obj} {w : World} (hF : ∀ b o, F b = some o -> w.heap[b]? = some o) {c : Cn} {hL : List (List Rc)} {rL : List (Int × List Rf)} (h : xhRow F c.h hL) (r : xrRow F c.r rL) :
   CnOk (frz w) c /\ hartsT (frz w) c = hL /\ rowsT (frz w) c = rL := by
 obtain ⟨el, h1, h2⟩ := h
 obtain ⟨er, r1, r2⟩ := r
 have g1 := h1.rowG hF
 have g2 := r1.rowG hF
 have n1 : c.hn = hL.length := rowG_len g1
 have n2 : c.rn = rL.length := rowG_len g2
 have hh : ∀ i (hi : i < hL.length), el i = [c.hv (frz w) i] /\ rowG (frz w) (c.hv (frz w) i) (coE hL[i]) := fun i hi => by
   obtain ⟨v, k1, k2⟩ := h2 i hi
   rw [List.getElem?_eq_getElem hi] at k2
   have k3 := k2.rowG hF
   obtain ⟨_, a, cap, hv, _⟩ := id k3
   have e : c.hv (frz w) i = v := slG_row g1 rfl (show i < (xhE el hL.length).n from hi) (o := 0) (by show (el i)[0]? = _; rw [k1]; rfl) hv
   rw [e]
   exact ⟨k1, k3⟩
 have hr : ∀ i (hi : i < rL.length), er i = [.int .i64 (raG (frz w) c.r i), c.rv (frz w) i] /\ rowG (frz w) (c.rv (frz w) i) (roE rL[i].2) /\ raG (frz w) c.r i = rL[i].1 := fun i hi => by
   obtain ⟨v, k1, k2⟩ := r2 i hi
   rw [List.getElem?_eq_getElem hi] at k1 k2
   have k3 := k2.rowG hF
   obtain ⟨_, a, cap, hv, _⟩ := id k3
   have e : c.rv (frz w) i = v := slG_row g2 rfl (show i < (xrE er rL.length).n from hi) (o := 1) (by show (er i)[1]? = _; rw [k1]; rfl) hv
   have ea : raG (frz w) c.r i = rL[i].1 := by
     rw [raG_eq]
     have e0 : cellsG (frz w) c.r 2 i = er i := cells_row g2 rfl (show i < (xrE er rL.length).n from hi)
     have e1 : cellsG (frz w) c.r 1 (2 * i) = (cellsG (frz w) c.r 2 i).take 1 := by
       obtain ⟨_, a, cap, hv2, _, h3⟩ := id g2
       obtain ⟨b, off, cs, rfl, hg, h4⟩ := h3 (show 0 < rL.length by omega)
       rw [hv2]
       show (match frz w b with | some cs => (cs.drop (off + 2 * i * 1)).take 1 | none => []) = (match frz w b with | some cs => (cs.drop (off + i * 2)).take 2 | none => []).take 1
       rw [hg, List.take_take]
       show List.take 1 (List.drop (off + 2 * i * 1) cs) = List.take 1 (List.drop (off + i * 2) cs)
       rw [show off + 2 * i * 1 = off + i * 2 by omega]
     rw [e1, e0, k1]; rfl
   rw [e, ea]
   exact ⟨k1, k3, rfl⟩
 refine ⟨⟨rowG_as g1 rfl n1 fun j hj => (hh j hj).1.symm, rowG_as g2 rfl n2 fun j hj => (hr j hj).1.symm, fun i hi => (rec_row (hh i (by omega)).2).1, fun i hi => (ref_row (hr i (by omega)).2.1).1⟩, ?_, ?_⟩
 . unfold hartsT
   rw [n1]
   exact List.ext_getElem (by simp) fun i h1 h2 => by simp [(rec_row (hh i h2).2).2]
 . unfold rowsT
   rw [n2]
   exact List.ext_getElem (by simp) fun i h1 h2 => by
     simp [(ref_row (hr i h2).2.1).2, (hr i h2).2.2]
end Go.Proofs.Ytmaffamhjmlonaa
