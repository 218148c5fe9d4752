/- Layer 13: what the reader reads is within bounds. -/
import Derived.Test.YtmaffamhjmlonaaMade13
import Derived.Test.YtmaffamhjmlonaaIn13
set_option linter.unusedVariables false
set_option linter.unusedSimpArgs false
namespace Go.Proofs.Ytmaffamhjmlonaa
open Go Go.RowKit Sim S2
theorem stF_each {α : Type} {next : List Int -> Bool -> α × List Int × Bool} {P : α -> Prop} (hP : ∀ B b, P (next B b).1) (B : List Int) (b : Bool) : ∀ j, ∀ x ∈ (stF next B b j).1, P x
 | 0, x, hx => by cases hx
 | j + 1, x, hx => by
   have hx : x ∈ (stF next B b j).1 ++ [(next (stF next B b j).2.1 (stF next B b j).2.2).1] := hx
   rcases List.mem_append.mp hx with h | h
   . exact stF_each hP B b j x h
   . rw [List.mem_singleton.mp h]; exact hP _ _
theorem ltF_each {α : Type} {next : List Int -> Bool -> α × List Int × Bool} {P : α -> Prop} (hP : ∀ B b, P (next B b).1) (most : Int) (B : List Int) (b : Bool) : ∀ x ∈ (ltF next most B b).1, P x := fun x hx => by
 unfold ltF at hx
 simp only at hx
 split at hx
 . exact stF_each hP _ _ _ x hx
 . cases hx
theorem ltF_most {α : Type} {next : List Int -> Bool -> α × List Int × Bool} {most : Int} (B : List Int) (b : Bool) : (ltF next most B b).1.length <= most.toNat := by
 unfold ltF
 simp only
 split
 . rename_i h
   rw [stF_len]
   cases hw : ((numO B b).2.2 || decide ((numO B b).1 > most))
   . have := of_decide_eq_false (Bool.or_eq_false_iff.mp hw).2
     omega
   . rw [hw] at h
     cases hn : (numO B b).1.toNat with
     | zero => omega
     | succ k =>
       rw [hn] at h
       have e : wrN next (numO B b).2.1 true (k + 1) = 0 := rfl
       omega
 . exact Nat.zero_le _
theorem in_wf {x : Int} (h : inI x = true) : wfI x := by
 have h2 : -9223372036854775808 <= x /\ x <= 9223372036854775807 := of_decide_eq_true h
 exact h2
theorem num_wf (B : List Int) (b : Bool) : wfI (numO B b).1 := in_wf (num_in B b)
theorem ref_wf (B : List Int) (b : Bool) : wfRf (refO B b).1 := by
 rw [refO_eq]
 exact ⟨num_wf _ _, num_wf _ _⟩
theorem rec_wf (B : List Int) (b : Bool) : wfRc (recO B b).1 := by
 rw [recO_eq]
 have h := ref_wf (numO (numO B b).2.1 (numO B b).2.2).2.1 (numO (numO B b).2.1 (numO B b).2.2).2.2
 exact ⟨num_wf _ _, num_wf _ _, h.1, h.2⟩
def FineR (p : Int × List Rf) : Prop := wfI p.1 /\ p.2.length <= 8192 /\ ∀ r ∈ p.2, wfRf r
def FineH (L : List Rc) : Prop := L.length <= 1024 /\ ∀ r ∈ L, wfRc r
theorem lc_fine (B : List Int) (b : Bool) : FineH (lcO B b).1 := by
 rw [lcO_eq]
 exact ⟨ltF_most B b, ltF_each rec_wf _ B b⟩
theorem row_fine (B : List Int) (b : Bool) : FineR (rowO B b).1 := by
 rw [rowO_eq]
 refine ⟨num_wf _ _, ?_, ?_⟩
 . show (laO _ _).1.length <= 8192
   rw [laO_eq]; exact ltF_most _ _
 . show ∀ r ∈ (laO _ _).1, wfRf r
   rw [laO_eq]; exact ltF_each ref_wf _ _ _
structure Fine (hL : List (List Rc)) (rL : List (Int × List Rf)) : Prop where
 hn : hL.length <= 8
 rn : rL.length <= 8192
 h : ∀ L ∈ hL, FineH L
 r : ∀ p ∈ rL, FineR p
theorem read_fine (B B' : List Int) (b b' : Bool) : Fine (xhO B b).1 (xrO B' b').1 := by
 rw [xhO_eq, xrO_eq]
 exact ⟨ltF_most _ _, ltF_most _ _, ltF_each lc_fine _ _ _, ltF_each row_fine _ _ _⟩
theorem fine_ok {gl : Gl} {c : Cn} (h : Fine (hartsT gl c) (rowsT gl c)) : CnSm gl c /\ CnIn gl c := by
 obtain ⟨h1, h2, h3, h4⟩ := h
 have n1 : (hartsT gl c).length = c.hn := by simp [hartsT]
 have n2 : (rowsT gl c).length = c.rn := by simp [rowsT]
 have k1 : ∀ i, i < c.hn -> lenV (c.hv gl i) <= 1024 /\ ∀ k, k < lenV (c.hv gl i) -> wfRc (rcG gl (c.hv gl i) k) := fun i hi => by
   have := h3 (recsT gl (c.hv gl i)) (List.mem_map.mpr ⟨i, List.mem_range.mpr hi, rfl⟩)
   refine ⟨by have := this.1; simpa [recsT] using this, fun k hk => this.2 _ (List.mem_map.mpr ⟨k, List.mem_range.mpr hk, rfl⟩)⟩
 have k2 : ∀ i, i < c.rn -> wfI (raG gl c.r i) /\ lenV (c.rv gl i) <= 8192 /\ ∀ k, k < lenV (c.rv gl i) -> wfRf (rfG gl (c.rv gl i) k) := fun i hi => by
   have := h4 (raG gl c.r i, stosT gl (c.rv gl i)) (List.mem_map.mpr ⟨i, List.mem_range.mpr hi, rfl⟩)
   refine ⟨this.1, by have := this.2.1; simpa [stosT] using this, fun k hk => this.2.2 _ (List.mem_map.mpr ⟨k, List.mem_range.mpr hk, rfl⟩)⟩
 have sm : CnSm gl c := ⟨by omega, by omega, fun i hi => by have := (k1 i hi).1; omega, fun i hi => by have := (k2 i hi).2.1; omega⟩
 exact ⟨sm, cnIn_of sm ⟨fun i hi => (k1 i hi).2, fun i hi => (k2 i hi).1, fun i hi => (k2 i hi).2.2⟩⟩
end Go.Proofs.Ytmaffamhjmlonaa
