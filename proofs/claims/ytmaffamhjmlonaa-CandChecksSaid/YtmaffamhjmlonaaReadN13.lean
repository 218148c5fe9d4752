/- Layer 13: the reader reads back what was written. -/
import Derived.Test.YtmaffamhjmlonaaPDecA13
import Derived.Laws.BitsAllLaws
set_option linter.unusedVariables false
set_option linter.unusedSimpArgs false
namespace Go.Proofs.Ytmaffamhjmlonaa
open Go Go.RowKit Sim S2
theorem grB_get (u : Nat) : ∀ j i, i < j -> (grB u j)[i]? = some ((u / 128 ^ i % 128 + 128 : Nat) : Int)
 | 0, i, h => absurd h (Nat.not_lt_zero _)
 | j + 1, i, h => by
   show (grB u j ++ [((u / 128 ^ j % 128 + 128 : Nat) : Int)])[i]? = _
   by_cases hi : i < j
   . rw [List.getElem?_append_left (by rw [grB_len]; exact hi)]
     exact grB_get u j i hi
   . obtain rfl : i = j := by omega
     rw [List.getElem?_append_right (by rw [grB_len]; exact Nat.le_refl _), grB_len, Nat.sub_self]
     rfl
theorem vbR_get {u : Nat} (R : List Int) {i : Nat} (h : i < grN u) : ((vbL u ++ R)[i]?).getD 0 = ((u / 128 ^ i % 128 + 128 : Nat) : Int) := by
 unfold vbL
 rw [List.append_assoc, List.getElem?_append_left (by rw [grB_len]; exact h), grB_get u _ i h]; rfl
theorem vbR_last {u : Nat} (R : List Int) : ((vbL u ++ R)[grN u]?).getD 0 = ((u / 128 ^ grN u : Nat) : Int) := by
 unfold vbL
 rw [List.append_assoc, List.getElem?_append_right (by rw [grB_len]; exact Nat.le_refl _), grB_len, Nat.sub_self]; rfl
theorem vbR_stop {u : Nat} (hu : u < 18446744073709551616) (R : List Int) : stopN (vbL u ++ R) = grN u := by
 have h0 := gr_stop hu
 have hlen : (vbL u ++ R).length = grN u + 1 + R.length := by
   unfold vbL
   rw [List.length_append, List.length_append, grB_len]; rfl
 unfold stopN
 refine skipN_uniq (fun i _ hi => ?_) ?_ (Nat.zero_le _) (by omega)
 . show (!decide (((vbL u ++ R)[i]?).getD 0 < 128)) = true
   rw [vbR_get R hi, decide_eq_false (by omega)]; rfl
 . show (!decide (((vbL u ++ R)[grN u]?).getD 0 < 128)) = false
   rw [vbR_last, decide_eq_true (by omega)]; rfl
theorem pow128 (j : Nat) : 2 ^ (7 * j) = 128 ^ j := by rw [Nat.pow_mul]
theorem zS_step {B : List Int} {u i d : Nat} (hu : u < 18446744073709551616) (hi : i < 10) (hd : ((B[i]?).getD 0).tmod 128 = (d : Nat)) (hdu : d = u / 128 ^ i % 128) (hz : zS B i = ((u % 128 ^ i : Nat) : Int)) : zS B (i + 1) = ((u % 128 ^ (i + 1) : Nat) : Int) := by
 have h1 : d < 128 := by omega
 have h2 : d * 128 ^ i <= u := by
   have k1 : d <= u / 128 ^ i := by rw [hdu]; exact Nat.mod_le _ _
   have k2 := Nat.mul_le_mul_right (128 ^ i) k1
   have k3 := Nat.div_mul_le_self u (128 ^ i)
   omega
 have h3 : u % 128 ^ i < 128 ^ i := Nat.mod_lt _ (Nat.pow_pos (by decide))
 have h4 : u % 128 ^ i <= u := Nat.mod_le _ _
 show arZ .or .u64 (zS B i) (arZ .shl .u64 (IntKind.u64.wrap (arZ .rem .u8 ((B[i]?).getD 0) 128)) (7 * (i : Int))) = _
 rw [arZ_eq, arZ_eq, arZ_eq, hz]
 show bits .or .u64 _ (IntKind.u64.wrap (IntKind.u64.wrap (((B[i]?).getD 0).tmod 128) * 2 ^ (min (7 * (i : Int)).toNat IntKind.u64.bits))) = _
 have e1 : min (7 * (i : Int)).toNat IntKind.u64.bits = 7 * i := by
   have : IntKind.u64.bits = 64 := rfl
   rw [this]; omega
 have e2 : IntKind.u64.wrap (((B[i]?).getD 0).tmod 128) = (d : Int) := by rw [hd, IntKind.wrap_u64]; omega
 have e3 : (d : Int) * 2 ^ (7 * i) = ((d * 128 ^ i : Nat) : Int) := by
   have : (2 : Int) ^ (7 * i) = ((128 ^ i : Nat) : Int) := by rw [<- pow128, Int.natCast_pow]; rfl
   rw [this, Int.natCast_mul]
 have e4 : IntKind.u64.wrap ((d * 128 ^ i : Nat) : Int) = ((d * 128 ^ i : Nat) : Int) := by rw [IntKind.wrap_u64]; omega
 rw [e1, e2, e3, e4, u64_or_nat _ _ (by omega) (by omega)]
 have hj := nat_join (7 * i) (d * 128 ^ i) (u % 128 ^ i) (by rw [pow128]; exact Nat.mul_mod_left _ _) (by rw [pow128]; exact h3)
 rw [Nat.or_comm, hj, Nat.pow_succ, Nat.mod_mul, <- hdu, Nat.mul_comm (128 ^ i) d, Nat.add_comm]
theorem zS_all {u : Nat} (hu : u < 18446744073709551616) (R : List Int) : ∀ j, j <= grN u + 1 -> zS (vbL u ++ R) j = ((u % 128 ^ j : Nat) : Int)
 | 0, _ => by rw [Nat.pow_zero, Nat.mod_one]; rfl
 | i + 1, hi => by
   have hg := gr_lt u hu
   have h0 := gr_stop hu
   refine zS_step (d := u / 128 ^ i % 128) hu (by omega) ?_ rfl (zS_all hu R i (by omega))
   by_cases h : i < grN u
   . rw [vbR_get R h, Int.tmod_eq_emod_of_nonneg (by omega)]; omega
   . obtain rfl : i = grN u := by omega
     rw [vbR_last, Int.tmod_eq_emod_of_nonneg (Int.natCast_nonneg _)]
     generalize u / 128 ^ grN u = q at *
     omega
theorem unz_zg {x : Int} (hx : inI x = true) : unzZ ((zgN x : Nat) : Int) = x := by
 have h : -9223372036854775808 <= x /\ x <= 9223372036854775807 := of_decide_eq_true hx
 rw [unzZ_eq, arZ_eq, arZ_eq, arZ_eq]
 simp only [arF]
 unfold zgN
 by_cases hn : x < 0
 . rw [if_pos hn]
   have e1 : (((2 * (-(x + 1)) + 1).toNat : Nat) : Int) = 2 * (-(x + 1)) + 1 := by omega
   rw [e1, Int.tmod_eq_emod_of_nonneg (by omega), show ((2 * (-(x + 1)) + 1) % 2 == 1) = true by rw [beq_iff_eq]; omega]
   simp only [cond_true]
   rw [Int.tdiv_eq_ediv_of_nonneg (by omega), show (2 * (-(x + 1)) + 1) / 2 = -(x + 1) by omega]
   rw [IntKind.wrap_u64, IntKind.wrap_i64, IntKind.wrap_i64, IntKind.wrap_i64]
   omega
 . rw [if_neg hn]
   have e1 : (((2 * x).toNat : Nat) : Int) = 2 * x := by omega
   rw [e1, Int.tmod_eq_emod_of_nonneg (by omega), show (2 * x % 2 == 1) = false by rw [beq_eq_false_iff_ne]; omega]
   simp only [cond_false]
   rw [Int.tdiv_eq_ediv_of_nonneg (by omega), show 2 * x / 2 = x by omega]
   rw [IntKind.wrap_u64, IntKind.wrap_i64]
   omega
theorem num_read {x : Int} (hx : inI x = true) (R : List Int) (b : Bool) : numO (vbL (zgN x) ++ R) b = (x, R, b) := by
 have hu := zg_lt hx
 have h0 := gr_stop hu
 have hlen : (vbL (zgN x)).length = grN (zgN x) + 1 := by unfold vbL; simp [grB_len]
 rw [numO_eq]
 unfold numF
 rw [vbR_stop hu, if_pos (by rw [List.length_append]; omega), zS_all hu R _ (Nat.le_refl _)]
 have e : zgN x % 128 ^ (grN (zgN x) + 1) = zgN x := by
   refine Nat.mod_eq_of_lt ?_
   rw [Nat.pow_succ]
   have := Nat.div_lt_iff_lt_mul (x := zgN x) (y := 128) (k := 128 ^ grN (zgN x)) (Nat.pow_pos (by decide))
   rw [Nat.mul_comm]
   exact this.mp h0
 rw [e, unz_zg hx, List.drop_append_of_le_length (by omega), <- hlen, List.drop_length]
 rfl
end Go.Proofs.Ytmaffamhjmlonaa
