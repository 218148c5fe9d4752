/- Layer 13: a candidate's content, apart from where it lies. -/
import Derived.Test.YtmaffamhjmlonaaK04
import Derived.Test.YtmaffamhjmlonaaSameF13
set_option linter.unusedVariables false
set_option linter.unusedSimpArgs false
namespace Go.Proofs.Ytmaffamhjmlonaa
open Go.RowKit Sim S2
noncomputable def recsT (gl : Gl) (v : Value) : List Rc := (List.range (lenV v)).map (rcG gl v)
noncomputable def stosT (gl : Gl) (v : Value) : List Rf := (List.range (lenV v)).map (rfG gl v)
noncomputable def hartsT (gl : Gl) (c : Cn) : List (List Rc) := (List.range c.hn).map fun i => recsT gl (c.hv gl i)
noncomputable def rowsT (gl : Gl) (c : Cn) : List (Int × List Rf) := (List.range c.rn).map fun i => (raG gl c.r i, stosT gl (c.rv gl i))
theorem range_eq {α : Type} {n m : Nat} {f g : Nat -> α} : (List.range n).map f = (List.range m).map g ↔ n = m /\ ∀ i, i < n -> f i = g i := by
 constructor
 . intro h
   have h1 : n = m := by
     have := congrArg List.length h
     simpa using this
   subst h1
   refine ⟨rfl, fun i hi => ?_⟩
   have h2 : ((List.range n).map f)[i]? = ((List.range n).map g)[i]? := by rw [h]
   simpa [hi] using h2
 . rintro ⟨rfl, h⟩
   exact List.map_congr_left fun i hi => h i (List.mem_range.mp hi)
theorem eqC_iff {gl : Gl} {v u : Value} {k : Nat} : eqC gl v u k = true ↔ rcG gl v k = rcG gl u k := by
 unfold eqC
 generalize rcG gl v k = a
 generalize rcG gl u k = b
 rcases a with ⟨a1, a2, a3, a4, a5, a6⟩
 rcases b with ⟨b1, b2, b3, b4, b5, b6⟩
 simp only [Bool.and_eq_true, beq_iff_eq, Rc.mk.injEq]
 constructor
 . rintro ⟨h1, h2, ⟨h3, h4, _⟩, h5, h6, _⟩; exact ⟨h1, h2, h3, h4, h5, h6⟩
 . rintro ⟨h1, h2, h3, h4, h5, h6⟩; exact ⟨h1, h2, ⟨h3, h4, trivial⟩, h5, h6, trivial⟩
theorem eqR_iff {gl : Gl} {v u : Value} {k : Nat} : eqR gl v u k = true ↔ rfG gl v k = rfG gl u k := by
 unfold eqR
 generalize rfG gl v k = a
 generalize rfG gl u k = b
 rcases a with ⟨a1, a2⟩
 rcases b with ⟨b1, b2⟩
 simp
theorem skip_iff {P : Nat -> Bool} {n : Nat} : Nat.beq (skipN P n 0) n = true ↔ ∀ i, i < n -> P i = true := by
 rw [Nat.beq_eq, show (skipN P n 0 = n) ↔ (skipN P n 0 = 0 + n) by rw [Nat.zero_add], skipN_end_iff]
 constructor
 . intro h i hi; exact h i (Nat.zero_le _) (by omega)
 . intro h i _ hi; exact h i (by omega)
theorem recs_iff {gl : Gl} {v u : Value} : (Nat.beq (lenV v) (lenV u) && Nat.beq (hartN gl v u) (lenV v)) = true ↔ recsT gl v = recsT gl u := by
 unfold recsT hartN
 rw [Bool.and_eq_true, skip_iff, range_eq, Nat.beq_eq]
 exact ⟨fun ⟨h1, h2⟩ => ⟨h1, fun i hi => eqC_iff.mp (h2 i hi)⟩, fun ⟨h1, h2⟩ => ⟨h1, fun i hi => eqC_iff.mpr (h2 i hi)⟩⟩
theorem stos_iff {gl : Gl} {v u : Value} : refsZ gl v u = true ↔ stosT gl v = stosT gl u := by
 rw [refsZ_eq]
 unfold refsB stosT
 rw [Bool.and_eq_true, skip_iff, range_eq, Nat.beq_eq]
 exact ⟨fun ⟨h1, h2⟩ => ⟨h1, fun i hi => eqR_iff.mp (h2 i hi)⟩, fun ⟨h1, h2⟩ => ⟨h1, fun i hi => eqR_iff.mpr (h2 i hi)⟩⟩
theorem same_iff {gl : Gl} {c d : Cn} : sameZ gl c d = true ↔ hartsT gl c = hartsT gl d /\ rowsT gl c = rowsT gl d := by
 rw [sameZ_eq]
 unfold sameB hartsT rowsT
 rw [Bool.and_eq_true, Bool.and_eq_true, Bool.and_eq_true, skip_iff, skip_iff, range_eq, range_eq, Nat.beq_eq, Nat.beq_eq]
 constructor
 . rintro ⟨⟨⟨h1, h2⟩, h3⟩, h4⟩
   refine ⟨⟨h1, fun i hi => recs_iff.mp (h3 i hi)⟩, h2, fun i hi => ?_⟩
   have h5 := h4 i hi
   unfold eqW at h5
   rw [Bool.and_eq_true, beq_iff_eq] at h5
   rw [h5.1, stos_iff.mp h5.2]
 . rintro ⟨⟨h1, h2⟩, h3, h4⟩
   refine ⟨⟨⟨h1, h3⟩, fun i hi => recs_iff.mpr (h2 i hi)⟩, fun i hi => ?_⟩
   have h5 := h4 i hi
   unfold eqW
   rw [Bool.and_eq_true, beq_iff_eq]
   exact ⟨congrArg Prod.fst h5, stos_iff.mpr (congrArg Prod.snd h5)⟩
theorem frz_keep {w w2 : World} (hb : Below w.heap.size w w2) {b : Nat} {cs : List Value} (h : frz w b = some cs) : frz w2 b = some cs := by
 have hl : b < w.heap.size := by
   unfold frz at h
   split at h
   . rename_i hc; exact lt_of_some hc
   . cases h
 unfold frz at h ⊢
 rw [hb.block b hl]; exact h
theorem rowG_keep {w w2 : World} (hb : Below w.heap.size w w2) {v : Value} {e : LE} (h : rowG (frz w) v e) : rowG (frz w2) v e := by
 obtain ⟨h1, a, cap, hv, hc, h2⟩ := h
 refine ⟨h1, a, cap, hv, hc, fun hn => ?_⟩
 obtain ⟨b, off, cs, ha, hg, h3⟩ := h2 hn
 exact ⟨b, off, cs, ha, frz_keep hb hg, h3⟩
theorem cellsG_keep {w w2 : World} (hb : Below w.heap.size w w2) {v : Value} {e : LE} (h : rowG (frz w) v e) (hn : 0 < e.n) (S j : Nat) : cellsG (frz w2) v S j = cellsG (frz w) v S j := by
 obtain ⟨h1, a, cap, rfl, hc, h2⟩ := h
 obtain ⟨b, off, cs, rfl, hg, h3⟩ := h2 hn
 show (match frz w2 b with | some cs => (cs.drop (off + j * S)).take S | none => []) = (match frz w b with | some cs => (cs.drop (off + j * S)).take S | none => [])
 rw [hg, frz_keep hb hg]
theorem slG_keep {w w2 : World} (hb : Below w.heap.size w w2) {v : Value} {e : LE} (h : rowG (frz w) v e) (hn : 0 < e.n) (S o j : Nat) : slG (frz w2) v S o j = slG (frz w) v S o j := by
 unfold slG slA slN slC
 rw [Classical.choose_spec slA_ex, Classical.choose_spec slN_ex, Classical.choose_spec slC_ex, Classical.choose_spec slA_ex, Classical.choose_spec slN_ex, Classical.choose_spec slC_ex, cellsG_keep hb h hn]
theorem rcG_keep {w w2 : World} (hb : Below w.heap.size w w2) {v : Value} {e : LE} (h : rowG (frz w) v e) (hn : 0 < e.n) (j : Nat) : rcG (frz w2) v j = rcG (frz w) v j := by
 rw [rcG_eq, rcG_eq, cellsG_keep hb h hn]
theorem rfG_keep {w w2 : World} (hb : Below w.heap.size w w2) {v : Value} {e : LE} (h : rowG (frz w) v e) (hn : 0 < e.n) (j : Nat) : rfG (frz w2) v j = rfG (frz w) v j := by
 rw [rfG_eq, rfG_eq, cellsG_keep hb h hn]
theorem raG_keep {w w2 : World} (hb : Below w.heap.size w w2) {v : Value} {e : LE} (h : rowG (frz w) v e) (hn : 0 < e.n) (j : Nat) : raG (frz w2) v j = raG (frz w) v j := by
 rw [raG_eq, raG_eq, cellsG_keep hb h hn]
theorem hv_keep {w w2 : World} (hb : Below w.heap.size w w2) {c : Cn} (h : CnOk (frz w) c) {i : Nat} (hi : i < c.hn) : c.hv (frz w2) i = c.hv (frz w) i :=
 slG_keep hb h.hs (show 0 < c.hn by omega) 1 0 i
theorem rv_keep {w w2 : World} (hb : Below w.heap.size w w2) {c : Cn} (h : CnOk (frz w) c) {i : Nat} (hi : i < c.rn) : c.rv (frz w2) i = c.rv (frz w) i :=
 slG_keep hb h.rw (show 0 < c.rn by omega) 2 1 i
theorem recs_keep {w w2 : World} (hb : Below w.heap.size w w2) {v : Value} (h : rowG (frz w) v (rcE (frz w) v)) : recsT (frz w2) v = recsT (frz w) v := by
 unfold recsT
 exact List.map_congr_left fun i hi => rcG_keep hb h (show 0 < lenV v by have := List.mem_range.mp hi; omega) i
theorem stos_keep {w w2 : World} (hb : Below w.heap.size w w2) {v : Value} (h : rowG (frz w) v (rfE (frz w) v)) : stosT (frz w2) v = stosT (frz w) v := by
 unfold stosT
 exact List.map_congr_left fun i hi => rfG_keep hb h (show 0 < lenV v by have := List.mem_range.mp hi; omega) i
theorem harts_keep {w w2 : World} (hb : Below w.heap.size w w2) {c : Cn} (h : CnOk (frz w) c) : hartsT (frz w2) c = hartsT (frz w) c := by
 unfold hartsT
 refine List.map_congr_left fun i hi => ?_
 have hi := List.mem_range.mp hi
 rw [hv_keep hb h hi, recs_keep hb (h.rc i hi)]
theorem rows_keep {w w2 : World} (hb : Below w.heap.size w w2) {c : Cn} (h : CnOk (frz w) c) : rowsT (frz w2) c = rowsT (frz w) c := by
 unfold rowsT
 refine List.map_congr_left fun i hi => ?_
 have hi := List.mem_range.mp hi
 rw [rv_keep hb h hi, stos_keep hb (h.rf i hi), raG_keep hb h.rw (show 0 < c.rn by omega)]
theorem rowG_swap {w w2 : World} (hb : Below w.heap.size w w2) {v : Value} {e e2 : LE} (h : rowG (frz w) v e) (h1 : e2.size = e.size) (h2 : e2.n = e.n) (h3 : ∀ j, j < e.n -> e2.el j = e.el j) : rowG (frz w2) v e2 := by
 obtain ⟨⟨k1, k2⟩, a, cap, hv, hc, k3⟩ := rowG_keep hb h
 refine ⟨⟨by omega, fun j hj => by rw [h3 j (by omega), h1]; exact k2 j (by omega)⟩, a, cap, by rw [h2]; exact hv, by omega, fun hn => ?_⟩
 obtain ⟨b, off, cs, ha, hg, k4⟩ := k3 (by omega)
 exact ⟨b, off, cs, ha, hg, fun j hj => by rw [h3 j (by omega), h1]; exact k4 j (by omega)⟩
theorem CnOk.keep {w w2 : World} (hb : Below w.heap.size w w2) {c : Cn} (h : CnOk (frz w) c) : CnOk (frz w2) c := by
 refine ⟨rowG_swap hb h.hs rfl rfl fun j hj => ?_, rowG_swap hb h.rw rfl rfl fun j hj => ?_, fun i hi => ?_, fun i hi => ?_⟩
 . show [slG (frz w2) c.h 1 0 j] = [slG (frz w) c.h 1 0 j]
   rw [slG_keep hb h.hs (by omega)]
 . show [Value.int .i64 (raG (frz w2) c.r j), slG (frz w2) c.r 2 1 j] = [Value.int .i64 (raG (frz w) c.r j), slG (frz w) c.r 2 1 j]
   rw [slG_keep hb h.rw (by omega), raG_keep hb h.rw (by omega)]
 . rw [hv_keep hb h hi]
   refine rowG_swap hb (h.rc i hi) rfl rfl fun j hj => ?_
   show rcC (rcG (frz w2) (c.hv (frz w) i) j) = rcC (rcG (frz w) (c.hv (frz w) i) j)
   rw [rcG_keep hb (h.rc i hi) (by omega)]
 . rw [rv_keep hb h hi]
   refine rowG_swap hb (h.rf i hi) rfl rfl fun j hj => ?_
   show rfC (rfG (frz w2) (c.rv (frz w) i) j) = rfC (rfG (frz w) (c.rv (frz w) i) j)
   rw [rfG_keep hb (h.rf i hi) (by omega)]
theorem frz_to {w w2 : World} (hb : Below w.heap.size w w2) : GlTo (frz w) (frz w2) := fun u hG b cs hg => hG b cs (frz_keep hb hg)
end Go.Proofs.Ytmaffamhjmlonaa
