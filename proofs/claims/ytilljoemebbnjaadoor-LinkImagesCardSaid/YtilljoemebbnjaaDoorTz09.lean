/- Layer 9: trailing zeros (the table of math/bits), low bits, fits; rows of these. -/
import Derived.Test.YtilljoemebbnjaaDoorRef01
import Derived.Test.YtilljoemebbnjaaDoorPlain09
import Derived.Test.YtilljoemebbnjaaDoorWell09
set_option linter.unusedVariables false
set_option linter.unusedSimpArgs false
namespace Go.Proofs.YtilljoemebbnjaaDoor
open Go.RowKit Sim S2
def tzL : List Int := [0,1,56,2,57,49,28,3,61,58,42,50,38,29,17,4,62,47,59,36,45,43,51,22,53,39,33,30,24,18,12,5,63,55,48,27,60,41,37,16,46,35,44,21,52,32,23,11,54,26,40,15,34,20,31,10,25,14,19,9,13,8,7,6]
def gl9 : Gl := fun g => bif Nat.beq g 0 then some (tzL.map (Value.int .u8)) else none
noncomputable def env9t : S2.Env := envk Tryd.prog gl9 false noT noP noL
theorem env9t_ok : CallOk env9t := envk_ok (.none _ _) (.none _ _) (.none _ _)
noncomputable def idxE (v : Int) : Int := arZ .shr .u64 (arZ .mul .u64 (arZ .and .u64 v (IntKind.u64.wrap (0 - v))) 285870213051353865) 58
theorem tz_sim (v : Int) : S2.simF env9t 1000 10 [] [false] 75 [[true]] [.inl (.int .u64 v)] = some (false, [.inl (.int .i64 (IntKind.i64.wrap (pickZ tzL ((0 + (idxE v).toNat : Nat) : Int))))], [(pre (decide (0 + (idxE v).toNat < 64)), true), (pre (idxB (idxE v) 64), true), (v == 0, false)], []) := by kernel_rfl
theorem idx_pow (k : Nat) (hk : k < 64) : let x := arF .shr .u64 (arF .mul .u64 ((2 ^ k : Nat) : Int) 285870213051353865) 58; 0 <= x /\ x < 64 /\ (tzL[x.toNat]?).getD 0 = k := by
 have h : ∀ k : Fin 64, let x := arF .shr .u64 (arF .mul .u64 ((2 ^ k.val : Nat) : Int) 285870213051353865) 58; 0 <= x /\ x < 64 /\ (tzL[x.toNat]?).getD 0 = (k.val : Int) := by decide +kernel
 exact h ⟨k, hk⟩
theorem odd_pos {v : Int} (h0 : 0 < v) (h1 : v < 18446744073709551616) : ∃ k q : Nat, k < 64 /\ v = ((2 ^ k * (2 * q + 1) : Nat) : Int) /\ 2 ^ k * (2 * q + 1) < 2 ^ 64 := by
 obtain ⟨k, o, h, ho, hk⟩ := odd_part 64 v (by omega) (by have : ((2 ^ 64 : Nat) : Int) = 18446744073709551616 := rfl; omega) (by have : ((2 ^ 64 : Nat) : Int) = 18446744073709551616 := rfl; omega)
 have hlt : k < 64 := by
   by_cases hk2 : k = 64
   . subst hk2
     have : (2 : Int) ^ 64 = 18446744073709551616 := rfl
     rw [this] at h
     omega
   . omega
 obtain ⟨q, e1, e2⟩ := wrap_odd hlt ho
 refine ⟨k, q, hlt, ?_, e2⟩
 rw [<- e1, <- h, IntKind.wrap_u64]; omega
theorem idx_of_tz {v : Int} (h0 : 0 < v) (h1 : v < 18446744073709551616) : 0 <= idxE v /\ idxE v < 64 /\ (tzL[(idxE v).toNat]?).getD 0 = tzZ v := by
 obtain ⟨k, q, hk, hv, hlt⟩ := odd_pos h0 h1
 have e : arZ .and .u64 v (IntKind.u64.wrap (0 - v)) = ((2 ^ k : Nat) : Int) := by
   have hw : IntKind.u64.wrap (0 - v) = ((2 ^ 64 - 2 ^ k * (2 * q + 1) : Nat) : Int) := by
     rw [IntKind.wrap_u64, hv]
     have : (2 : Nat) ^ 64 = 18446744073709551616 := rfl
     omega
   rw [arZ_eq, hw]
   show bits .and .u64 v _ = _
   have hp : 0 < 2 ^ k * (2 * q + 1) := Nat.mul_pos (Nat.two_pow_pos k) (by omega)
   rw [hv, u64_and_nat _ _ (by simpa using hlt) (by have : (2 : Nat) ^ 64 = 18446744073709551616 := rfl; omega), and_neg hk hlt]
 have hi := idx_pow k hk
 unfold idxE
 rw [e, arZ_eq, arZ_eq, tz_of hk hv]
 exact hi
theorem tz_lt (v : Int) : 0 <= tzZ v /\ tzZ v <= 64 := by
 rw [tzZ_eq]
 refine ⟨by omega, ?_⟩
 cases h : (List.range 64).find? (fun k => v.toNat.testBit k) with
 | none => simp
 | some k =>
   rw [List.find?_range_eq_some] at h
   have := h.2.1
   simp at this ⊢; omega
theorem tz_ret (v : Int) (h0 : 0 < v) (h1 : v < 18446744073709551616) (w : World) (hG : GlobOk gl9 w) : Ret Tryd.prog 75 #[.int .u64 v] (.int .i64 (tzZ v)) w := by
 obtain ⟨a, b, c⟩ := idx_of_tz h0 h1
 refine (ret7 env9t_ok _ _ (tz_sim v) (qA (ob_dec (by omega)) <| qA (ob_idx ⟨a, b⟩) <| qA (by simp; omega) qZ) Tryd.func75 w [.int .u64 v] hG ⟨rfl, trivial⟩).of_eq ?_
 rw [pickZ_eq, qN, Nat.zero_add, c]
 have := tz_lt v
 rw [wrap_self (by unfold isI; omega)]
noncomputable def decTz : List Value -> Option (Value × Bool)
 | [.int .u64 v] => some (.int .i64 (tzZ v), pre (decide (0 < v /\ v < 18446744073709551616)))
 | _ => none
noncomputable def pTz : PTab := prowD 75 decTz
theorem pTz_ok : PTabOk Tryd.prog gl9 pTz := .rowD fun args u hd w hG => by
 unfold decTz at hd
 split at hd
 . rename_i v
   simp only [qS, qP, pre, decide_eq_true_eq] at hd
   obtain ⟨rfl, h0, h1⟩ := hd
   exact tz_ret v h0 h1 w hG
 . cases hd
theorem low_sim12 (v : Int) : S2.simF env9u 1000 10 [] [] 73 [[true], []] [.inl (.int .i64 v), .inl (.int .i64 12)] = some (false, [.inl (.int .i64 (IntKind.i64.wrap (arZ .shr .i32 (IntKind.i32.wrap (arZ .shl .u32 (IntKind.u32.wrap v) 20)) 20)))], [], []) := by kernel_rfl
theorem low_sim20 (v : Int) : S2.simF env9u 1000 10 [] [] 73 [[true], []] [.inl (.int .i64 v), .inl (.int .i64 20)] = some (false, [.inl (.int .i64 (IntKind.i64.wrap (arZ .shr .i32 (IntKind.i32.wrap (arZ .shl .u32 (IntKind.u32.wrap v) 12)) 12)))], [], []) := by kernel_rfl
noncomputable def decLow : List Value -> Option (Value × Bool)
 | [.int .i64 v, .int .i64 12] => some (.int .i64 (lowZ v 12), true)
 | [.int .i64 v, .int .i64 20] => some (.int .i64 (lowZ v 20), true)
 | _ => none
noncomputable def pLow : PTab := prowD 73 decLow
theorem pLow_ok {gl : Gl} : PTabOk Tryd.prog gl pLow := .rowD fun args u hd w hG => by
 unfold decLow at hd
 split at hd
 . rename_i v
   simp only [qS, qP, and_true] at hd
   subst hd
   exact (ret7 env9u_ok _ _ (low_sim12 v) qZ Tryd.func73 w [.int .i64 v, .int .i64 12] (GlobOk.none w) ⟨rfl, rfl, trivial⟩).of_eq (by rw [low_prog12])
 . rename_i v
   simp only [qS, qP, and_true] at hd
   subst hd
   exact (ret7 env9u_ok _ _ (low_sim20 v) qZ Tryd.func73 w [.int .i64 v, .int .i64 20] (GlobOk.none w) ⟨rfl, rfl, trivial⟩).of_eq (by rw [low_prog20])
 . cases hd
noncomputable def decSg9 : List Value -> Option (Value × Bool)
 | [.int .u64 v, .int .i64 12] => some (.int .i64 (lowZ v 12), pre (u64C v))
 | [.int .u64 v, .int .i64 20] => some (.int .i64 (lowZ v 20), pre (u64C v))
 | _ => none
noncomputable def pSg9 : PTab := prowD 52 decSg9
theorem pSg9_ok {gl : Gl} : PTabOk Tryd.prog gl pSg9 := .rowD fun args u hd w hG => by
 unfold decSg9 at hd
 split at hd
 . rename_i v
   simp only [qS, qP, pre, u64C_iff] at hd
   obtain ⟨rfl, v0, v1⟩ := hd
   obtain ⟨v, rfl⟩ := Int.eq_ofNat_of_zero_le v0
   exact (Ret.of_same (refSign_any v 12 w (by omega) (by omega) (by omega))).of_eq (by rw [sign12])
 . rename_i v
   simp only [qS, qP, pre, u64C_iff] at hd
   obtain ⟨rfl, v0, v1⟩ := hd
   obtain ⟨v, rfl⟩ := Int.eq_ofNat_of_zero_le v0
   exact (Ret.of_same (refSign_any v 20 w (by omega) (by omega) (by omega))).of_eq (by rw [sign20])
 . cases hd
noncomputable def decFt9 : List Value -> Option (Value × Bool)
 | [.int .i64 v, .int .i64 12] => some (.bool (fitZ v 12), pre (i64C v))
 | [.int .i64 v, .int .i64 32] => some (.bool (fitZ v 32), pre (i64C v))
 | _ => none
noncomputable def pFt9 : PTab := prowD 51 decFt9
theorem pFt9_ok {gl : Gl} : PTabOk Tryd.prog gl pFt9 := .rowD fun args u hd w hG => by
 unfold decFt9 at hd
 split at hd
 . rename_i v
   simp only [qS, qP, pre, i64C_iff] at hd
   obtain ⟨rfl, v0, v1⟩ := hd
   exact (Ret.of_same (refFits_any v 12 w (by omega) (by omega) v0 v1 _ rfl)).of_eq rfl
 . rename_i v
   simp only [qS, qP, pre, i64C_iff] at hd
   obtain ⟨rfl, v0, v1⟩ := hd
   exact (Ret.of_same (refFits_any v 32 w (by omega) (by omega) v0 v1 _ rfl)).of_eq rfl
 . cases hd
end Go.Proofs.YtilljoemebbnjaaDoor
