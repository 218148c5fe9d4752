/- Layer 13: package cand: the reader's records of a hart, its rows. -/
import Derived.Test.YtmaffamhjmlonaaRdL13
set_option linter.unusedVariables false
set_option linter.unusedSimpArgs false
namespace Go.Proofs.Ytmaffamhjmlonaa
open Go.RowKit Sim S2
noncomputable def eNL : ETab := orE eNum (orE ela elc)
theorem eNL_ok {gl : Gl} : EffOk Try.prog gl eNL := eNum_ok.or (ela_ok.or elc_ok)
theorem records_sem (B : List Int) (b : Bool) (hB : B.length <= 1000000000000) : SemF Try.prog (fun _ => none) 27 [.inr (0, 0, none)] ⟨[rdK 0 b], [rsE B]⟩ (.c 2) ⟨[rdK 1 (lcO B b).2.2], [rsE B, rsE (lcO B b).2.1, coE (lcO B b).1]⟩ := by
 have h := fnS_ok (E := enH13 eNL) (enH13_ok eNL_ok) rfl (fuel := 1000) (d := 30) (plan := []) (orc := []) (f := 27) (args := [.inr (0, 0, none)]) (own := ⟨[rdK 0 b], [rsE B]⟩) (r := .c 2) (own' := ⟨[rdK 1 (lcO (bysL (rsE B)) b).2.2], [rsE B, rsE (lcO (bysL (rsE B)) b).2.1, coE (lcO (bysL (rsE B)) b).1]⟩) (l := [(pre (propB (isRest (rsE B))), true)]) (tr := []) (by kernel_rfl) (by kernel_rfl) (qA (propB_ok.mpr (isRest_rs hB)) qZ) Try.func27 fun w0 hG t ht => by cases ht
 rw [bysL_rs] at h
 exact h
noncomputable def eRecs : ETab := erow 27 fun args own => match args, own with
 | [.inr (0, 0, none)], ⟨[⟨[.c 0, .inl (fl, .bool b)], T, .cells⟩], [e]⟩ => bif Nat.beq T 57 then some { x := .c 2, sb := [(0, rdK 1 (lcO (bysL e) b).2.2)], al := [rsE (lcO (bysL e) b).2.1, coE (lcO (bysL e) b).1], ok := pre (propB (isRest e)) } else none
 | _, _ => none
theorem eRecs_ok {gl : Gl} : EffOk Try.prog gl eRecs := .row fun args own r h hr => by
 split at h
 . rename_i fl b T e
   cases hT : Nat.beq T 57
   . rw [hT] at h; cases h
   . rw [hT] at h
     simp only [cond_true, qS] at h
     subst h
     obtain rfl := qB hT
     have he := propB_ok.mp hr
     exact SemF.anyGlob (rd_lift he (records_sem (bysL e) b (by rw [bysL_len]; exact he.2.2.2.2.1)))
 . cases h
noncomputable def rowF (B : List Int) (b : Bool) : (Int × List Rf) × List Int × Bool := (((numO B b).1, (laO (numO B b).2.1 (numO B b).2.2).1), (laO (numO B b).2.1 (numO B b).2.2).2)
theorem rowO_ex : ∃ f : List Int -> Bool -> (Int × List Rf) × List Int × Bool, ∀ B b, f B b = rowF B b := ⟨_, fun _ _ => rfl⟩
noncomputable def rowO : List Int -> Bool -> (Int × List Rf) × List Int × Bool := Classical.choose rowO_ex
theorem rowO_eq (B : List Int) (b : Bool) : rowO B b = rowF B b := Classical.choose_spec rowO_ex B b
theorem row_raw (B : List Int) (b : Bool) (hB : B.length <= 1000000000000) : SemF Try.prog (fun _ => none) 29 [.inr (0, 0, none)] ⟨[rdK 0 b], [rsE B]⟩ (.st [.v [true] (.int .i64 (numO (bysL (rsE B)) b).1), .l 3]) ⟨[rdK 2 (laO (bysL (rsE (numO (bysL (rsE B)) b).2.1)) (numO (bysL (rsE B)) b).2.2).2.2, ⟨[.inl ([true], .int .i64 (numO (bysL (rsE B)) b).1), .c 3], 43, .cells⟩], [rsE B, rsE (numO (bysL (rsE B)) b).2.1, rsE (laO (bysL (rsE (numO (bysL (rsE B)) b).2.1)) (numO (bysL (rsE B)) b).2.2).2.1, roE (laO (bysL (rsE (numO (bysL (rsE B)) b).2.1)) (numO (bysL (rsE B)) b).2.2).1]⟩ := by
 have q := num_less B b
 refine fnS_ok (E := enH13 eNL) (enH13_ok eNL_ok) rfl (fuel := 1000) (d := 30) (plan := []) (orc := []) (l := [(pre (propB (isRest (rsE (numO (bysL (rsE B)) b).2.1))), true), (pre (propB (isRest (rsE B))), true)]) (tr := []) (by kernel_rfl) (by kernel_rfl) ?_ Try.func29 fun w0 hG t ht => by cases ht
 rw [bysL_rs]
 exact qA (propB_ok.mpr (isRest_rs (by omega))) <| qA (propB_ok.mpr (isRest_rs hB)) qZ
theorem row_sem (B : List Int) (b : Bool) (hB : B.length <= 1000000000000) : SemF Try.prog (fun _ => none) 29 [.inr (0, 0, none)] ⟨[rdK 0 b], [rsE B]⟩ (.st [.v [true] (.int .i64 (rowO B b).1.1), .l 3]) ⟨[rdK 2 (rowO B b).2.2], [rsE B, rsE (numO B b).2.1, rsE (rowO B b).2.1, roE (rowO B b).1.2]⟩ := by
 have h := row_raw B b hB
 rw [bysL_rs, bysL_rs] at h
 rw [rowO_eq]
 exact semF_trim h (by show 1 <= 2; omega) (fun i hi => by obtain rfl : i = 0 := Nat.lt_one_iff.mp hi; rfl) rfl rfl
theorem la_less (B : List Int) (b : Bool) : (laO B b).2.1.length <= B.length := by
 rw [laO_eq]; exact ltF_less ref_less _ B b
theorem lc_less (B : List Int) (b : Bool) : (lcO B b).2.1.length <= B.length := by
 rw [lcO_eq]; exact ltF_less rec_less _ B b
theorem row_less (B : List Int) (b : Bool) : (rowO B b).2.1.length <= B.length := by
 rw [rowO_eq]
 exact Nat.le_trans (la_less _ _) (num_less _ _)
noncomputable def eRow : ETab := erow 29 fun args own => match args, own with
 | [.inr (0, 0, none)], ⟨[⟨[.c 0, .inl (fl, .bool b)], T, .cells⟩], [e]⟩ => bif Nat.beq T 57 then some { x := .st [.v [true] (.int .i64 (rowO (bysL e) b).1.1), .l 3], sb := [(0, rdK 2 (rowO (bysL e) b).2.2)], al := [rsE (numO (bysL e) b).2.1, rsE (rowO (bysL e) b).2.1, roE (rowO (bysL e) b).1.2], ok := pre (propB (isRest e)) } else none
 | _, _ => none
theorem eRow_ok {gl : Gl} : EffOk Try.prog gl eRow := .row fun args own r h hr => by
 split at h
 . rename_i fl b T e
   cases hT : Nat.beq T 57
   . rw [hT] at h; cases h
   . rw [hT] at h
     simp only [cond_true, qS] at h
     subst h
     obtain rfl := qB hT
     have he := propB_ok.mp hr
     exact SemF.anyGlob (rd_lift he (row_sem (bysL e) b (by rw [bysL_len]; exact he.2.2.2.2.1)))
 . cases h
end Go.Proofs.Ytmaffamhjmlonaa
