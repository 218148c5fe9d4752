/- The laws of layer 7, put together out of their ways. -/
import Derived.Test.YtcofdcpadbpmnaaLaw07
import Derived.OpenShut
namespace Go.Proofs.Ytcofdcpadbpmnaa
open Go.RowKit Sim S2
set_option linter.unusedVariables false
set_option linter.unusedSimpArgs false

theorem ob_refl (x : Int) : (x == x) = true := by simp
theorem ob_reflB (x : Bool) : (x == x) = true := by simp
theorem i64_wf {a : Int} (h : (Lit.int .i64 a).wf = true) : i64C a = true := by
  have := bounds_i64 h
  exact i64C_iff.2 ⟨by omega, by omega⟩
theorem hafZ_rng (a : Int) : -2147483648 ≤ hafZ a ∧ hafZ a ≤ 2147483647 := by rw [hafZ_eq]; unfold wrap32; omega
theorem huZ_rng (a : Int) : 0 ≤ huZ a ∧ huZ a < 4294967296 := by rw [huZ_eq]; omega
theorem ob_ii {a b : Int} (ha : -9223372036854775808 ≤ a ∧ a ≤ 9223372036854775807) (hb : -9223372036854775808 ≤ b ∧ b ≤ 9223372036854775807) : pre (i64C a && i64C b) = true := by unfold pre; rw [i64C_iff.2 ha, i64C_iff.2 hb]; rfl
theorem ob_mv {n x wd : Int} (h : 0 ≤ n ∧ n ≤ 63 ∧ 0 ≤ x ∧ x ≤ 1 ∧ 0 ≤ wd ∧ wd ≤ 64) : pre (mvC n x wd) = true := decide_eq_true h
theorem btZ_rng (v i : Int) : 0 ≤ btZ v i ∧ btZ v i ≤ 1 := by rw [btZ_eq]; have := bitN_le v.toNat i.toNat; omega
theorem rem_lo (a : Int) : arZ .rem .u64 (IntKind.u64.wrap a) 4294967296 = a % 4294967296 := by
  rw [remU (wrapU_rng a).1 (by omega), wrapU]; omega
theorem hu_lo (a : Int) : IntKind.u64.wrap (huZ a) = a % 4294967296 := by rw [huZ_eq, wrapU]; omega
theorem btZ_wrap (a : Int) (i : Nat) : btZ (IntKind.u64.wrap a) i = (bitN (u64N a) i : Nat) := by rw [btZ_eq, u64N_eq, Int.toNat_natCast, Int.toNat_natCast]
theorem and_ge63 (b : Int) : pre (decide (0 ≤ arZ .and .i64 b 63)) = true := decide_eq_true (by rw [and63]; omega)
theorem and_ge31 (b : Int) : pre (decide (0 ≤ arZ .and .i64 b 31)) = true := decide_eq_true (by rw [and31]; omega)
theorem ev_sll (a b : Int) : (arZ .shl .i64 a (arZ .and .i64 b 63) == movZ a (IntKind.i64.wrap (arZ .rem .u64 (IntKind.u64.wrap b) 64)) true 0 64) = true := by
  rw [show IntKind.i64.wrap (arZ .rem .u64 (IntKind.u64.wrap b) 64) = ((b % 64).toNat : Int) from rem_w b 64 (.inl rfl), and63, movZ_eq, Int.toNat_natCast, shift_up64 a _ (by omega)]
  exact ob_refl _
theorem ev_srl (a b : Int) : (IntKind.i64.wrap (arZ .shr .u64 (IntKind.u64.wrap a) (arZ .and .i64 b 63)) == movZ a (IntKind.i64.wrap (arZ .rem .u64 (IntKind.u64.wrap b) 64)) false 0 64) = true := by
  rw [show IntKind.i64.wrap (arZ .rem .u64 (IntKind.u64.wrap b) 64) = ((b % 64).toNat : Int) from rem_w b 64 (.inl rfl), and63, movZ_eq, Int.toNat_natCast, wrapI, shr_u _ _ (by omega), shift_down64 a _ (by omega)]
  exact ob_refl _
theorem ev_sra (a b : Int) (h : -9223372036854775808 ≤ a ∧ a ≤ 9223372036854775807) : (arZ .shr .i64 a (arZ .and .i64 b 63) == movZ a (IntKind.i64.wrap (arZ .rem .u64 (IntKind.u64.wrap b) 64)) false (btZ (IntKind.u64.wrap a) 63) 64) = true := by
  rw [show IntKind.i64.wrap (arZ .rem .u64 (IntKind.u64.wrap b) 64) = ((b % 64).toNat : Int) from rem_w b 64 (.inl rfl), and63, movZ_eq, Int.toNat_natCast, show btZ (IntKind.u64.wrap a) 63 = (bitN (u64N a) 63 : Nat) from btZ_wrap a 63, Int.toNat_natCast, shr_i _ _ (by omega), shift_sign64 a h _ (by omega)]
  exact ob_refl _
theorem ev_sllw (a b : Int) : (hafZ (arZ .shl .i64 a (arZ .and .i64 b 31)) == hafZ (movZ a (IntKind.i64.wrap (arZ .rem .u64 (IntKind.u64.wrap b) 32)) true 0 32)) = true := by
  rw [show IntKind.i64.wrap (arZ .rem .u64 (IntKind.u64.wrap b) 32) = ((b % 32).toNat : Int) from rem_w b 32 (.inr rfl), and31, movZ_eq, Int.toNat_natCast, hafZ_eq, hafZ_eq, shift_up32 a _ (by omega)]
  exact ob_refl _
theorem ev_srlw (a b : Int) : (hafZ (arZ .shr .i64 (huZ a) (arZ .and .i64 b 31)) == hafZ (movZ a (IntKind.i64.wrap (arZ .rem .u64 (IntKind.u64.wrap b) 32)) false 0 32)) = true := by
  rw [show IntKind.i64.wrap (arZ .rem .u64 (IntKind.u64.wrap b) 32) = ((b % 32).toNat : Int) from rem_w b 32 (.inr rfl), and31, movZ_eq, Int.toNat_natCast, hafZ_eq, hafZ_eq, huZ_eq, shr_i _ _ (by omega), shift_down32 a _ (by omega)]
  exact ob_refl _
theorem ev_sraw (a b : Int) : (hafZ (arZ .shr .i64 (hafZ a) (arZ .and .i64 b 31)) == hafZ (movZ a (IntKind.i64.wrap (arZ .rem .u64 (IntKind.u64.wrap b) 32)) false (btZ (IntKind.u64.wrap a) 31) 32)) = true := by
  rw [show IntKind.i64.wrap (arZ .rem .u64 (IntKind.u64.wrap b) 32) = ((b % 32).toNat : Int) from rem_w b 32 (.inr rfl), and31, movZ_eq, Int.toNat_natCast, show btZ (IntKind.u64.wrap a) 31 = (bitN (u64N a) 31 : Nat) from btZ_wrap a 31, Int.toNat_natCast, hafZ_eq, hafZ_eq, hafZ_eq, shr_i _ _ (by omega), shift_sign32 a _ (by omega)]
  exact ob_refl _
theorem ev_mul (a b : Int) : (arZ .mul .i64 a b == IntKind.i64.wrap (mulP (IntKind.u64.wrap a) (IntKind.u64.wrap b))) = true := by
  have e : arZ .mul .i64 a b = wrap64 (a * b) := by rw [arZ_eq, ← wrapI]; rfl
  have h : wrap64 (IntKind.u64.wrap a * IntKind.u64.wrap b % 18446744073709551616) = wrap64 (a * b) := by
    rw [wrapU, wrapU, ← Int.mul_emod]
    unfold wrap64; omega
  rw [e, mulP_eq, wrapI, h]
  exact ob_refl _
theorem ev_divuw (a b : Int) : (hafZ (dvuQ (IntKind.u64.wrap (huZ a)) (IntKind.u64.wrap (huZ b))) == hafZ (dvuQ (arZ .rem .u64 (IntKind.u64.wrap a) 4294967296) (arZ .rem .u64 (IntKind.u64.wrap b) 4294967296))) = true := by
  rw [hu_lo, hu_lo, rem_lo, rem_lo]; exact ob_refl _
theorem ev_remuw (a b : Int) : (hafZ (dvuR (IntKind.u64.wrap (huZ a)) (IntKind.u64.wrap (huZ b))) == hafZ (dvuR (arZ .rem .u64 (IntKind.u64.wrap a) 4294967296) (arZ .rem .u64 (IntKind.u64.wrap b) 4294967296))) = true := by
  rw [hu_lo, hu_lo, rem_lo, rem_lo]; exact ob_refl _
theorem aluEvals_at (k : Nat) (hk : k < 41) (a b : Int) (ha : i64C a = true) (hb : i64C b = true) (w : World) : Ret Try.prog 3 #[.int .i64 (22 + (k : Nat) : Int), .int .i64 a, .int .i64 b] (.bool true) w := by
  have ha' := i64C_iff.1 ha
  have hb' := i64C_iff.1 hb
  have F1 := ob_w a b
  have F2 : pre (u64C (arZ .rem .u64 (IntKind.u64.wrap a) 4294967296) && u64C (arZ .rem .u64 (IntKind.u64.wrap b) 4294967296)) = true := by
    rw [rem_lo, rem_lo]; exact ob_uu (by omega) (by omega)
  have h1 := hafZ_rng a
  have h2 := hafZ_rng b
  have h3 := huZ_rng a
  have h4 := huZ_rng b
  have F3 : pre (i64C (hafZ a) && i64C (hafZ b)) = true := ob_ii (by omega) (by omega)
  have F4 : pre (i64C a && i64C b) = true := ob_ii ha' hb'
  have F5 : pre (i64C (huZ a) && i64C (huZ b)) = true := ob_ii (by omega) (by omega)
  have F6 := and_ge63 b
  have F7 := and_ge31 b
  have e64 : IntKind.i64.wrap (arZ .rem .u64 (IntKind.u64.wrap b) 64) = ((b % 64).toNat : Int) := rem_w b 64 (.inl rfl)
  have e32 : IntKind.i64.wrap (arZ .rem .u64 (IntKind.u64.wrap b) 32) = ((b % 32).toNat : Int) := rem_w b 32 (.inr rfl)
  have t1 := btZ_rng (IntKind.u64.wrap a) 63
  have t2 := btZ_rng (IntKind.u64.wrap a) 31
  have F8 : pre (mvC (IntKind.i64.wrap (arZ .rem .u64 (IntKind.u64.wrap b) 64)) 0 64) = true := ob_mv (by rw [e64]; omega)
  have F9 : pre (mvC (IntKind.i64.wrap (arZ .rem .u64 (IntKind.u64.wrap b) 32)) 0 32) = true := ob_mv (by rw [e32]; omega)
  have F10 : pre (mvC (IntKind.i64.wrap (arZ .rem .u64 (IntKind.u64.wrap b) 64)) (btZ (IntKind.u64.wrap a) 63) 64) = true := ob_mv (by rw [e64]; omega)
  have F11 : pre (mvC (IntKind.i64.wrap (arZ .rem .u64 (IntKind.u64.wrap b) 32)) (btZ (IntKind.u64.wrap a) 31) 32) = true := ob_mv (by rw [e32]; omega)
  have F12 : pre (u64C (IntKind.u64.wrap a) && decide ((0 : Int) ≤ 63 ∧ (63 : Int) ≤ 64)) = true := by unfold pre; rw [u64C_wrap]; rfl
  have F13 : pre (u64C (IntKind.u64.wrap a) && decide ((0 : Int) ≤ 31 ∧ (31 : Int) ≤ 64)) = true := by unfold pre; rw [u64C_wrap]; rfl
  have E1 := ev_sll a b
  have E2 := ev_srl a b
  have E3 := ev_sra a b ha'
  have E4 := ev_sllw a b
  have E5 := ev_srlw a b
  have E6 := ev_sraw a b
  have E7 := ev_mul a b
  have E8 := ev_divuw a b
  have E9 := ev_remuw a b
  clear h1 h2 h3 h4 e64 e32 t1 t2
  match k, hk with
  | 0, _ => exact ret7 envE_ok _ _ (evals_sim_22 a b) (by (repeat' (first | exact all_nil | refine all_cons ?_ ?_)) <;> first | (with_reducible rfl) | assumption | exact ob_refl _ | exact ob_reflB _) Try.func3 w [.int .i64 22, .int .i64 a, .int .i64 b] (GlobOk.none w) ⟨rfl, rfl, rfl, trivial⟩
  | 1, _ =>
    by_cases hc : a < b
    · exact ret7 envE_ok _ _ (evals_sim_23y a b) (all_cons (ob_yes hc) <| all_cons (ob_yes hc) all_nil) Try.func3 w [.int .i64 23, .int .i64 a, .int .i64 b] (GlobOk.none w) ⟨rfl, rfl, rfl, trivial⟩
    · exact ret7 envE_ok _ _ (evals_sim_23n a b) (all_cons (ob_no hc) <| all_cons (ob_no hc) all_nil) Try.func3 w [.int .i64 23, .int .i64 a, .int .i64 b] (GlobOk.none w) ⟨rfl, rfl, rfl, trivial⟩
  | 2, _ =>
    by_cases hc : IntKind.u64.wrap a < IntKind.u64.wrap b
    · exact ret7 envE_ok _ _ (evals_sim_24y a b) (all_cons (ob_yes hc) <| all_cons (ob_yes hc) all_nil) Try.func3 w [.int .i64 24, .int .i64 a, .int .i64 b] (GlobOk.none w) ⟨rfl, rfl, rfl, trivial⟩
    · exact ret7 envE_ok _ _ (evals_sim_24n a b) (all_cons (ob_no hc) <| all_cons (ob_no hc) all_nil) Try.func3 w [.int .i64 24, .int .i64 a, .int .i64 b] (GlobOk.none w) ⟨rfl, rfl, rfl, trivial⟩
  | 3, _ => exact ret7 envE_ok _ _ (evals_sim_25 a b) (by (repeat' (first | exact all_nil | refine all_cons ?_ ?_)) <;> first | (with_reducible rfl) | assumption | exact ob_refl _ | exact ob_reflB _) Try.func3 w [.int .i64 25, .int .i64 a, .int .i64 b] (GlobOk.none w) ⟨rfl, rfl, rfl, trivial⟩
  | 4, _ => exact ret7 envE_ok _ _ (evals_sim_26 a b) (by (repeat' (first | exact all_nil | refine all_cons ?_ ?_)) <;> first | (with_reducible rfl) | assumption | exact ob_refl _ | exact ob_reflB _) Try.func3 w [.int .i64 26, .int .i64 a, .int .i64 b] (GlobOk.none w) ⟨rfl, rfl, rfl, trivial⟩
  | 5, _ => exact ret7 envE_ok _ _ (evals_sim_27 a b) (by (repeat' (first | exact all_nil | refine all_cons ?_ ?_)) <;> first | (with_reducible rfl) | assumption | exact ob_refl _ | exact ob_reflB _) Try.func3 w [.int .i64 27, .int .i64 a, .int .i64 b] (GlobOk.none w) ⟨rfl, rfl, rfl, trivial⟩
  | 6, _ => exact ret7 envE_ok _ _ (evals_sim_28 a b) (by (repeat' (first | exact all_nil | refine all_cons ?_ ?_)) <;> first | (with_reducible rfl) | assumption | exact ob_refl _ | exact ob_reflB _) Try.func3 w [.int .i64 28, .int .i64 a, .int .i64 b] (GlobOk.none w) ⟨rfl, rfl, rfl, trivial⟩
  | 7, _ => exact ret7 envE_ok _ _ (evals_sim_29 a b) (by (repeat' (first | exact all_nil | refine all_cons ?_ ?_)) <;> first | (with_reducible rfl) | assumption | exact ob_refl _ | exact ob_reflB _) Try.func3 w [.int .i64 29, .int .i64 a, .int .i64 b] (GlobOk.none w) ⟨rfl, rfl, rfl, trivial⟩
  | 8, _ => exact ret7 envE_ok _ _ (evals_sim_30 a b) (by (repeat' (first | exact all_nil | refine all_cons ?_ ?_)) <;> first | (with_reducible rfl) | assumption | exact ob_refl _ | exact ob_reflB _) Try.func3 w [.int .i64 30, .int .i64 a, .int .i64 b] (GlobOk.none w) ⟨rfl, rfl, rfl, trivial⟩
  | 9, _ => exact ret7 envE_ok _ _ (evals_sim_31 a b) (by (repeat' (first | exact all_nil | refine all_cons ?_ ?_)) <;> first | (with_reducible rfl) | assumption | exact ob_refl _ | exact ob_reflB _) Try.func3 w [.int .i64 31, .int .i64 a, .int .i64 b] (GlobOk.none w) ⟨rfl, rfl, rfl, trivial⟩
  | 10, _ => exact ret7 envE_ok _ _ (evals_sim_32 a b) (by (repeat' (first | exact all_nil | refine all_cons ?_ ?_)) <;> first | (with_reducible rfl) | assumption | exact ob_refl _ | exact ob_reflB _) Try.func3 w [.int .i64 32, .int .i64 a, .int .i64 b] (GlobOk.none w) ⟨rfl, rfl, rfl, trivial⟩
  | 11, _ => exact ret7 envE_ok _ _ (evals_sim_33 a b) (by (repeat' (first | exact all_nil | refine all_cons ?_ ?_)) <;> first | (with_reducible rfl) | assumption | exact ob_refl _ | exact ob_reflB _) Try.func3 w [.int .i64 33, .int .i64 a, .int .i64 b] (GlobOk.none w) ⟨rfl, rfl, rfl, trivial⟩
  | 12, _ => exact ret7 envE_ok _ _ (evals_sim_34 a b) (by (repeat' (first | exact all_nil | refine all_cons ?_ ?_)) <;> first | (with_reducible rfl) | assumption | exact ob_refl _ | exact ob_reflB _) Try.func3 w [.int .i64 34, .int .i64 a, .int .i64 b] (GlobOk.none w) ⟨rfl, rfl, rfl, trivial⟩
  | 13, _ => exact ret7 envE_ok _ _ (evals_sim_35 a b) (by (repeat' (first | exact all_nil | refine all_cons ?_ ?_)) <;> first | (with_reducible rfl) | assumption | exact ob_refl _ | exact ob_reflB _) Try.func3 w [.int .i64 35, .int .i64 a, .int .i64 b] (GlobOk.none w) ⟨rfl, rfl, rfl, trivial⟩
  | 14, _ => exact ret7 envE_ok _ _ (evals_sim_36 a b) (by (repeat' (first | exact all_nil | refine all_cons ?_ ?_)) <;> first | (with_reducible rfl) | assumption | exact ob_refl _ | exact ob_reflB _) Try.func3 w [.int .i64 36, .int .i64 a, .int .i64 b] (GlobOk.none w) ⟨rfl, rfl, rfl, trivial⟩
  | 15, _ => exact ret7 envE_ok _ _ (evals_sim_37 a b) (by (repeat' (first | exact all_nil | refine all_cons ?_ ?_)) <;> first | (with_reducible rfl) | assumption | exact ob_refl _ | exact ob_reflB _) Try.func3 w [.int .i64 37, .int .i64 a, .int .i64 b] (GlobOk.none w) ⟨rfl, rfl, rfl, trivial⟩
  | 16, _ =>
    by_cases hc : a < b
    · exact ret7 envE_ok _ _ (evals_sim_38y a b) (all_cons (ob_yes hc) <| all_cons (ob_yes hc) all_nil) Try.func3 w [.int .i64 38, .int .i64 a, .int .i64 b] (GlobOk.none w) ⟨rfl, rfl, rfl, trivial⟩
    · exact ret7 envE_ok _ _ (evals_sim_38n a b) (all_cons (ob_no hc) <| all_cons (ob_no hc) all_nil) Try.func3 w [.int .i64 38, .int .i64 a, .int .i64 b] (GlobOk.none w) ⟨rfl, rfl, rfl, trivial⟩
  | 17, _ =>
    by_cases hc : IntKind.u64.wrap a < IntKind.u64.wrap b
    · exact ret7 envE_ok _ _ (evals_sim_39y a b) (all_cons (ob_yes hc) <| all_cons (ob_yes hc) all_nil) Try.func3 w [.int .i64 39, .int .i64 a, .int .i64 b] (GlobOk.none w) ⟨rfl, rfl, rfl, trivial⟩
    · exact ret7 envE_ok _ _ (evals_sim_39n a b) (all_cons (ob_no hc) <| all_cons (ob_no hc) all_nil) Try.func3 w [.int .i64 39, .int .i64 a, .int .i64 b] (GlobOk.none w) ⟨rfl, rfl, rfl, trivial⟩
  | 18, _ => exact ret7 envE_ok _ _ (evals_sim_40 a b) (by (repeat' (first | exact all_nil | refine all_cons ?_ ?_)) <;> first | (with_reducible rfl) | assumption | exact ob_refl _ | exact ob_reflB _) Try.func3 w [.int .i64 40, .int .i64 a, .int .i64 b] (GlobOk.none w) ⟨rfl, rfl, rfl, trivial⟩
  | 19, _ => exact ret7 envE_ok _ _ (evals_sim_41 a b) (by (repeat' (first | exact all_nil | refine all_cons ?_ ?_)) <;> first | (with_reducible rfl) | assumption | exact ob_refl _ | exact ob_reflB _) Try.func3 w [.int .i64 41, .int .i64 a, .int .i64 b] (GlobOk.none w) ⟨rfl, rfl, rfl, trivial⟩
  | 20, _ => exact ret7 envE_ok _ _ (evals_sim_42 a b) (by (repeat' (first | exact all_nil | refine all_cons ?_ ?_)) <;> first | (with_reducible rfl) | assumption | exact ob_refl _ | exact ob_reflB _) Try.func3 w [.int .i64 42, .int .i64 a, .int .i64 b] (GlobOk.none w) ⟨rfl, rfl, rfl, trivial⟩
  | 21, _ => exact ret7 envE_ok _ _ (evals_sim_43 a b) (by (repeat' (first | exact all_nil | refine all_cons ?_ ?_)) <;> first | (with_reducible rfl) | assumption | exact ob_refl _ | exact ob_reflB _) Try.func3 w [.int .i64 43, .int .i64 a, .int .i64 b] (GlobOk.none w) ⟨rfl, rfl, rfl, trivial⟩
  | 22, _ => exact ret7 envE_ok _ _ (evals_sim_44 a b) (by (repeat' (first | exact all_nil | refine all_cons ?_ ?_)) <;> first | (with_reducible rfl) | assumption | exact ob_refl _ | exact ob_reflB _) Try.func3 w [.int .i64 44, .int .i64 a, .int .i64 b] (GlobOk.none w) ⟨rfl, rfl, rfl, trivial⟩
  | 23, _ => exact ret7 envE_ok _ _ (evals_sim_45 a b) (by (repeat' (first | exact all_nil | refine all_cons ?_ ?_)) <;> first | (with_reducible rfl) | assumption | exact ob_refl _ | exact ob_reflB _) Try.func3 w [.int .i64 45, .int .i64 a, .int .i64 b] (GlobOk.none w) ⟨rfl, rfl, rfl, trivial⟩
  | 24, _ => exact ret7 envE_ok _ _ (evals_sim_46 a b) (by (repeat' (first | exact all_nil | refine all_cons ?_ ?_)) <;> first | (with_reducible rfl) | assumption | exact ob_refl _ | exact ob_reflB _) Try.func3 w [.int .i64 46, .int .i64 a, .int .i64 b] (GlobOk.none w) ⟨rfl, rfl, rfl, trivial⟩
  | 25, _ => exact ret7 envE_ok _ _ (evals_sim_47 a b) (by (repeat' (first | exact all_nil | refine all_cons ?_ ?_)) <;> first | (with_reducible rfl) | assumption | exact ob_refl _ | exact ob_reflB _) Try.func3 w [.int .i64 47, .int .i64 a, .int .i64 b] (GlobOk.none w) ⟨rfl, rfl, rfl, trivial⟩
  | 26, _ => exact ret7 envE_ok _ _ (evals_sim_48 a b) (by (repeat' (first | exact all_nil | refine all_cons ?_ ?_)) <;> first | (with_reducible rfl) | assumption | exact ob_refl _ | exact ob_reflB _) Try.func3 w [.int .i64 48, .int .i64 a, .int .i64 b] (GlobOk.none w) ⟨rfl, rfl, rfl, trivial⟩
  | 27, _ => exact ret7 envE_ok _ _ (evals_sim_49 a b) (by (repeat' (first | exact all_nil | refine all_cons ?_ ?_)) <;> first | (with_reducible rfl) | assumption | exact ob_refl _ | exact ob_reflB _) Try.func3 w [.int .i64 49, .int .i64 a, .int .i64 b] (GlobOk.none w) ⟨rfl, rfl, rfl, trivial⟩
  | 28, _ => exact ret7 envE_ok _ _ (evals_sim_50 a b) (by (repeat' (first | exact all_nil | refine all_cons ?_ ?_)) <;> first | (with_reducible rfl) | assumption | exact ob_refl _ | exact ob_reflB _) Try.func3 w [.int .i64 50, .int .i64 a, .int .i64 b] (GlobOk.none w) ⟨rfl, rfl, rfl, trivial⟩
  | 29, _ => exact ret7 envE_ok _ _ (evals_sim_51 a b) (by (repeat' (first | exact all_nil | refine all_cons ?_ ?_)) <;> first | (with_reducible rfl) | assumption | exact ob_refl _ | exact ob_reflB _) Try.func3 w [.int .i64 51, .int .i64 a, .int .i64 b] (GlobOk.none w) ⟨rfl, rfl, rfl, trivial⟩
  | 30, _ => exact ret7 envE_ok _ _ (evals_sim_52 a b) (by (repeat' (first | exact all_nil | refine all_cons ?_ ?_)) <;> first | (with_reducible rfl) | assumption | exact ob_refl _ | exact ob_reflB _) Try.func3 w [.int .i64 52, .int .i64 a, .int .i64 b] (GlobOk.none w) ⟨rfl, rfl, rfl, trivial⟩
  | 31, _ => exact ret7 envE_ok _ _ (evals_sim_53 a b) (by (repeat' (first | exact all_nil | refine all_cons ?_ ?_)) <;> first | (with_reducible rfl) | assumption | exact ob_refl _ | exact ob_reflB _) Try.func3 w [.int .i64 53, .int .i64 a, .int .i64 b] (GlobOk.none w) ⟨rfl, rfl, rfl, trivial⟩
  | 32, _ => exact ret7 envE_ok _ _ (evals_sim_54 a b) (by (repeat' (first | exact all_nil | refine all_cons ?_ ?_)) <;> first | (with_reducible rfl) | assumption | exact ob_refl _ | exact ob_reflB _) Try.func3 w [.int .i64 54, .int .i64 a, .int .i64 b] (GlobOk.none w) ⟨rfl, rfl, rfl, trivial⟩
  | 33, _ => exact ret7 envE_ok _ _ (evals_sim_55 a b) (by (repeat' (first | exact all_nil | refine all_cons ?_ ?_)) <;> first | (with_reducible rfl) | assumption | exact ob_refl _ | exact ob_reflB _) Try.func3 w [.int .i64 55, .int .i64 a, .int .i64 b] (GlobOk.none w) ⟨rfl, rfl, rfl, trivial⟩
  | 34, _ => exact ret7 envE_ok _ _ (evals_sim_56 a b) (by (repeat' (first | exact all_nil | refine all_cons ?_ ?_)) <;> first | (with_reducible rfl) | assumption | exact ob_refl _ | exact ob_reflB _) Try.func3 w [.int .i64 56, .int .i64 a, .int .i64 b] (GlobOk.none w) ⟨rfl, rfl, rfl, trivial⟩
  | 35, _ => exact ret7 envE_ok _ _ (evals_sim_57 a b) (by (repeat' (first | exact all_nil | refine all_cons ?_ ?_)) <;> first | (with_reducible rfl) | assumption | exact ob_refl _ | exact ob_reflB _) Try.func3 w [.int .i64 57, .int .i64 a, .int .i64 b] (GlobOk.none w) ⟨rfl, rfl, rfl, trivial⟩
  | 36, _ => exact ret7 envE_ok _ _ (evals_sim_58 a b) (by (repeat' (first | exact all_nil | refine all_cons ?_ ?_)) <;> first | (with_reducible rfl) | assumption | exact ob_refl _ | exact ob_reflB _) Try.func3 w [.int .i64 58, .int .i64 a, .int .i64 b] (GlobOk.none w) ⟨rfl, rfl, rfl, trivial⟩
  | 37, _ => exact ret7 envE_ok _ _ (evals_sim_59 a b) (by (repeat' (first | exact all_nil | refine all_cons ?_ ?_)) <;> first | (with_reducible rfl) | assumption | exact ob_refl _ | exact ob_reflB _) Try.func3 w [.int .i64 59, .int .i64 a, .int .i64 b] (GlobOk.none w) ⟨rfl, rfl, rfl, trivial⟩
  | 38, _ => exact ret7 envE_ok _ _ (evals_sim_60 a b) (by (repeat' (first | exact all_nil | refine all_cons ?_ ?_)) <;> first | (with_reducible rfl) | assumption | exact ob_refl _ | exact ob_reflB _) Try.func3 w [.int .i64 60, .int .i64 a, .int .i64 b] (GlobOk.none w) ⟨rfl, rfl, rfl, trivial⟩
  | 39, _ => exact ret7 envE_ok _ _ (evals_sim_61 a b) (by (repeat' (first | exact all_nil | refine all_cons ?_ ?_)) <;> first | (with_reducible rfl) | assumption | exact ob_refl _ | exact ob_reflB _) Try.func3 w [.int .i64 61, .int .i64 a, .int .i64 b] (GlobOk.none w) ⟨rfl, rfl, rfl, trivial⟩
  | 40, _ => exact ret7 envE_ok _ _ (evals_sim_62 a b) (by (repeat' (first | exact all_nil | refine all_cons ?_ ?_)) <;> first | (with_reducible rfl) | assumption | exact ob_refl _ | exact ob_reflB _) Try.func3 w [.int .i64 62, .int .i64 a, .int .i64 b] (GlobOk.none w) ⟨rfl, rfl, rfl, trivial⟩
  | k + 41, hk => exact absurd hk (by omega)
theorem aluEvals_law (op a b : Int) (w : World) (ho : (Lit.int .i64 op).wf = true) (ha : (Lit.int .i64 a).wf = true) (hb : (Lit.int .i64 b).wf = true) : Calls Try.prog 3 #[.int .i64 op, .int .i64 a, .int .i64 b] w (Holds w) := by
  by_cases h1 : op < 22
  · exact ret7 envE_ok _ _ (evalsOut_sim_lo op a b) (by (repeat' (first | exact all_nil | refine all_cons ?_ ?_)) <;> first | exact ob_neq (by omega) | exact ob_yes (by omega) | exact ob_no (by omega) | assumption) Try.func3 w [.int .i64 op, .int .i64 a, .int .i64 b] (GlobOk.none w) ⟨rfl, rfl, rfl, trivial⟩
  · by_cases h2 : op > 62
    · exact ret7 envE_ok _ _ (evalsOut_sim_hi op a b) (by (repeat' (first | exact all_nil | refine all_cons ?_ ?_)) <;> first | exact ob_neq (by omega) | exact ob_yes (by omega) | exact ob_no (by omega) | assumption) Try.func3 w [.int .i64 op, .int .i64 a, .int .i64 b] (GlobOk.none w) ⟨rfl, rfl, rfl, trivial⟩
    · obtain ⟨k, hk, rfl⟩ : ∃ k : Nat, k < 41 ∧ op = (22 + (k : Nat) : Int) := ⟨(op - 22).toNat, by omega, by omega⟩
      exact aluEvals_at k hk a b (i64_wf ha) (i64_wf hb) w
theorem tk_ne (a b : Int) : ((!(a == b)) == (a != b)) = true := by simp [bne]
theorem tk_ge (a b : Int) : ((!decide (a < b)) == decide (a ≥ b)) = true := by
  by_cases h : a < b
  · have h' : ¬ a ≥ b := by omega
    simp [h]
  · have h' : a ≥ b := by omega
    simp [h, h']
theorem aluTaken_law (op a b : Int) (w : World) (ho : (Lit.int .i64 op).wf = true) (ha : (Lit.int .i64 a).wf = true) (hb : (Lit.int .i64 b).wf = true) : Calls Try.prog 4 #[.int .i64 op, .int .i64 a, .int .i64 b] w (Holds w) := by
  have E1 := tk_ne a b
  have E2 := tk_ge a b
  have E3 := tk_ge (IntKind.u64.wrap a) (IntKind.u64.wrap b)
  by_cases h1 : op < 5
  · exact ret7 envE_ok _ _ (takenOut_sim_lo op a b) (by (repeat' (first | exact all_nil | refine all_cons ?_ ?_)) <;> first | exact ob_neq (by omega) | exact ob_yes (by omega) | exact ob_no (by omega) | assumption) Try.func4 w [.int .i64 op, .int .i64 a, .int .i64 b] (GlobOk.none w) ⟨rfl, rfl, rfl, trivial⟩
  · by_cases h2 : op > 10
    · exact ret7 envE_ok _ _ (takenOut_sim_hi op a b) (by (repeat' (first | exact all_nil | refine all_cons ?_ ?_)) <;> first | exact ob_neq (by omega) | exact ob_yes (by omega) | exact ob_no (by omega) | assumption) Try.func4 w [.int .i64 op, .int .i64 a, .int .i64 b] (GlobOk.none w) ⟨rfl, rfl, rfl, trivial⟩
    · obtain h | h | h | h | h | h : op = 5 ∨ op = 6 ∨ op = 7 ∨ op = 8 ∨ op = 9 ∨ op = 10 := by omega
      all_goals subst h
      · exact ret7 envE_ok _ _ (taken_sim_5 a b) (by (repeat' (first | exact all_nil | refine all_cons ?_ ?_)) <;> first | (with_reducible rfl) | assumption | exact ob_refl _ | exact ob_reflB _) Try.func4 w [.int .i64 5, .int .i64 a, .int .i64 b] (GlobOk.none w) ⟨rfl, rfl, rfl, trivial⟩
      · exact ret7 envE_ok _ _ (taken_sim_6 a b) (by (repeat' (first | exact all_nil | refine all_cons ?_ ?_)) <;> first | (with_reducible rfl) | assumption | exact ob_refl _ | exact ob_reflB _) Try.func4 w [.int .i64 6, .int .i64 a, .int .i64 b] (GlobOk.none w) ⟨rfl, rfl, rfl, trivial⟩
      · exact ret7 envE_ok _ _ (taken_sim_7 a b) (by (repeat' (first | exact all_nil | refine all_cons ?_ ?_)) <;> first | (with_reducible rfl) | assumption | exact ob_refl _ | exact ob_reflB _) Try.func4 w [.int .i64 7, .int .i64 a, .int .i64 b] (GlobOk.none w) ⟨rfl, rfl, rfl, trivial⟩
      · exact ret7 envE_ok _ _ (taken_sim_8 a b) (by (repeat' (first | exact all_nil | refine all_cons ?_ ?_)) <;> first | (with_reducible rfl) | assumption | exact ob_refl _ | exact ob_reflB _) Try.func4 w [.int .i64 8, .int .i64 a, .int .i64 b] (GlobOk.none w) ⟨rfl, rfl, rfl, trivial⟩
      · exact ret7 envE_ok _ _ (taken_sim_9 a b) (by (repeat' (first | exact all_nil | refine all_cons ?_ ?_)) <;> first | (with_reducible rfl) | assumption | exact ob_refl _ | exact ob_reflB _) Try.func4 w [.int .i64 9, .int .i64 a, .int .i64 b] (GlobOk.none w) ⟨rfl, rfl, rfl, trivial⟩
      · exact ret7 envE_ok _ _ (taken_sim_10 a b) (by (repeat' (first | exact all_nil | refine all_cons ?_ ?_)) <;> first | (with_reducible rfl) | assumption | exact ob_refl _ | exact ob_reflB _) Try.func4 w [.int .i64 10, .int .i64 a, .int .i64 b] (GlobOk.none w) ⟨rfl, rfl, rfl, trivial⟩
theorem amo_up (b : Int) : (arZ .mul .i64 b 4096 != arZ .mul .i64 4096 b) = false := by
  have e : arZ .mul .i64 b 4096 = arZ .mul .i64 4096 b := by
    rw [arZ_eq, arZ_eq]
    show IntKind.i64.wrap (b * 4096) = IntKind.i64.wrap (4096 * b)
    rw [Int.mul_comm]
  rw [e]; simp
theorem aluAmo_law (op a b : Int) (w : World) (ho : (Lit.int .i64 op).wf = true) (ha : (Lit.int .i64 a).wf = true) (hb : (Lit.int .i64 b).wf = true) : Calls Try.prog 5 #[.int .i64 op, .int .i64 a, .int .i64 b] w (Holds w) := by
  have E1 := amo_up b
  by_cases h1 : op < 79
  · exact ret7 envE_ok _ _ (amoOut_sim_lo op a b) (by (repeat' (first | exact all_nil | refine all_cons ?_ ?_)) <;> first | exact ob_neq (by omega) | exact ob_yes (by omega) | exact ob_no (by omega) | assumption) Try.func5 w [.int .i64 op, .int .i64 a, .int .i64 b] (GlobOk.none w) ⟨rfl, rfl, rfl, trivial⟩
  · by_cases h2 : op > 87
    · exact ret7 envE_ok _ _ (amoOut_sim_hi op a b) (by (repeat' (first | exact all_nil | refine all_cons ?_ ?_)) <;> first | exact ob_neq (by omega) | exact ob_yes (by omega) | exact ob_no (by omega) | assumption) Try.func5 w [.int .i64 op, .int .i64 a, .int .i64 b] (GlobOk.none w) ⟨rfl, rfl, rfl, trivial⟩
    · obtain h | h | h | h | h | h | h | h | h : op = 79 ∨ op = 80 ∨ op = 81 ∨ op = 82 ∨ op = 83 ∨ op = 84 ∨ op = 85 ∨ op = 86 ∨ op = 87 := by omega
      all_goals subst h
      · exact ret7 envE_ok _ _ (amo_sim_79 a b) (by (repeat' (first | exact all_nil | refine all_cons ?_ ?_)) <;> first | (with_reducible rfl) | assumption | exact ob_refl _ | exact ob_reflB _) Try.func5 w [.int .i64 79, .int .i64 a, .int .i64 b] (GlobOk.none w) ⟨rfl, rfl, rfl, trivial⟩
      · exact ret7 envE_ok _ _ (amo_sim_80 a b) (by (repeat' (first | exact all_nil | refine all_cons ?_ ?_)) <;> first | (with_reducible rfl) | assumption | exact ob_refl _ | exact ob_reflB _) Try.func5 w [.int .i64 80, .int .i64 a, .int .i64 b] (GlobOk.none w) ⟨rfl, rfl, rfl, trivial⟩
      · exact ret7 envE_ok _ _ (amo_sim_81 a b) (by (repeat' (first | exact all_nil | refine all_cons ?_ ?_)) <;> first | (with_reducible rfl) | assumption | exact ob_refl _ | exact ob_reflB _) Try.func5 w [.int .i64 81, .int .i64 a, .int .i64 b] (GlobOk.none w) ⟨rfl, rfl, rfl, trivial⟩
      · exact ret7 envE_ok _ _ (amo_sim_82 a b) (by (repeat' (first | exact all_nil | refine all_cons ?_ ?_)) <;> first | (with_reducible rfl) | assumption | exact ob_refl _ | exact ob_reflB _) Try.func5 w [.int .i64 82, .int .i64 a, .int .i64 b] (GlobOk.none w) ⟨rfl, rfl, rfl, trivial⟩
      · exact ret7 envE_ok _ _ (amo_sim_83 a b) (by (repeat' (first | exact all_nil | refine all_cons ?_ ?_)) <;> first | (with_reducible rfl) | assumption | exact ob_refl _ | exact ob_reflB _) Try.func5 w [.int .i64 83, .int .i64 a, .int .i64 b] (GlobOk.none w) ⟨rfl, rfl, rfl, trivial⟩
      · by_cases hc : a < b
        · exact ret7 envE_ok _ _ (amo_sim_84y a b) (by (repeat' (first | exact all_nil | refine all_cons ?_ ?_)) <;> first | (with_reducible rfl) | assumption | exact ob_refl _ | exact ob_yes (by omega) | exact ob_no (by omega) | (simp [hc]; done)) Try.func5 w [.int .i64 84, .int .i64 a, .int .i64 b] (GlobOk.none w) ⟨rfl, rfl, rfl, trivial⟩
        · exact ret7 envE_ok _ _ (amo_sim_84n a b) (by (repeat' (first | exact all_nil | refine all_cons ?_ ?_)) <;> first | (with_reducible rfl) | assumption | exact ob_refl _ | exact ob_yes (by omega) | exact ob_no (by omega) | (simp [hc]; done)) Try.func5 w [.int .i64 84, .int .i64 a, .int .i64 b] (GlobOk.none w) ⟨rfl, rfl, rfl, trivial⟩
      · by_cases hc : a < b
        · exact ret7 envE_ok _ _ (amo_sim_85n a b) (by (repeat' (first | exact all_nil | refine all_cons ?_ ?_)) <;> first | (with_reducible rfl) | assumption | exact ob_refl _ | exact ob_yes (by omega) | exact ob_no (by omega) | (simp [hc]; done)) Try.func5 w [.int .i64 85, .int .i64 a, .int .i64 b] (GlobOk.none w) ⟨rfl, rfl, rfl, trivial⟩
        · exact ret7 envE_ok _ _ (amo_sim_85y a b) (by (repeat' (first | exact all_nil | refine all_cons ?_ ?_)) <;> first | (with_reducible rfl) | assumption | exact ob_refl _ | exact ob_yes (by omega) | exact ob_no (by omega) | (simp [hc]; done)) Try.func5 w [.int .i64 85, .int .i64 a, .int .i64 b] (GlobOk.none w) ⟨rfl, rfl, rfl, trivial⟩
      · by_cases hc : IntKind.u64.wrap a < IntKind.u64.wrap b
        · exact ret7 envE_ok _ _ (amo_sim_86y a b) (by (repeat' (first | exact all_nil | refine all_cons ?_ ?_)) <;> first | (with_reducible rfl) | assumption | exact ob_refl _ | exact ob_yes (by omega) | exact ob_no (by omega) | (simp [hc]; done)) Try.func5 w [.int .i64 86, .int .i64 a, .int .i64 b] (GlobOk.none w) ⟨rfl, rfl, rfl, trivial⟩
        · exact ret7 envE_ok _ _ (amo_sim_86n a b) (by (repeat' (first | exact all_nil | refine all_cons ?_ ?_)) <;> first | (with_reducible rfl) | assumption | exact ob_refl _ | exact ob_yes (by omega) | exact ob_no (by omega) | (simp [hc]; done)) Try.func5 w [.int .i64 86, .int .i64 a, .int .i64 b] (GlobOk.none w) ⟨rfl, rfl, rfl, trivial⟩
      · by_cases hc : IntKind.u64.wrap a < IntKind.u64.wrap b
        · exact ret7 envE_ok _ _ (amo_sim_87n a b) (by (repeat' (first | exact all_nil | refine all_cons ?_ ?_)) <;> first | (with_reducible rfl) | assumption | exact ob_refl _ | exact ob_yes (by omega) | exact ob_no (by omega) | (simp [hc]; done)) Try.func5 w [.int .i64 87, .int .i64 a, .int .i64 b] (GlobOk.none w) ⟨rfl, rfl, rfl, trivial⟩
        · exact ret7 envE_ok _ _ (amo_sim_87y a b) (by (repeat' (first | exact all_nil | refine all_cons ?_ ?_)) <;> first | (with_reducible rfl) | assumption | exact ob_refl _ | exact ob_yes (by omega) | exact ob_no (by omega) | (simp [hc]; done)) Try.func5 w [.int .i64 87, .int .i64 a, .int .i64 b] (GlobOk.none w) ⟨rfl, rfl, rfl, trivial⟩
theorem aluParts_law (a b : Int) (w : World) (ha : (Lit.int .i64 a).wf = true) (hb : (Lit.int .i64 b).wf = true) : Calls Try.prog 6 #[.int .i64 a, .int .i64 b] w (Holds w) := by
  have ha' := i64C_iff.1 (i64_wf ha)
  have hb' := i64C_iff.1 (i64_wf hb)
  have F4 : pre (i64C a && i64C b) = true := ob_ii ha' hb'
  have ar : ∀ q b r : Int, arZ .add .i64 (arZ .mul .i64 q b) r = wrap64 (wrap64 (q * b) + r) := fun q b r => by
    have e1 : arZ .mul .i64 q b = wrap64 (q * b) := by rw [arZ_eq, ← wrapI]; rfl
    rw [arZ_eq .add]
    show IntKind.i64.wrap (arZ .mul .i64 q b + r) = _
    rw [wrapI, e1]
  have E1 : (arZ .add .i64 (arZ .mul .i64 (divQ a b) b) (divR a b) == a) = true := by
    rw [ar, parts_signed (divQ_eq a b) (divR_eq a b) ha'.1 ha'.2]; exact ob_refl _
  have uz : u64N b = 0 ↔ b = 0 := by unfold u64N; omega
  have q1 : dvuQ (IntKind.u64.wrap a) (IntKind.u64.wrap b) = if b = 0 then -1 else wrap64 ((u64N a / u64N b : Nat) : Int) := by
    rw [dvuQ_eq, u64N_eq, u64N_eq]
    by_cases h : b = 0
    · rw [if_pos h, if_pos (by rw [uz.2 h]; rfl)]
    · rw [if_neg h, if_neg (by intro h'; exact h (uz.1 (by omega)))]; rfl
  have q2 : dvuR (IntKind.u64.wrap a) (IntKind.u64.wrap b) = if b = 0 then a else wrap64 ((u64N a % u64N b : Nat) : Int) := by
    rw [dvuR_eq, u64N_eq, u64N_eq]
    by_cases h : b = 0
    · rw [if_pos h, if_pos (by rw [uz.2 h]; rfl)]; exact i64N_u64N a ha'.1 ha'.2
    · rw [if_neg h, if_neg (by intro h'; exact h (uz.1 (by omega)))]; rfl
  have E2 : (arZ .add .i64 (arZ .mul .i64 (dvuQ (IntKind.u64.wrap a) (IntKind.u64.wrap b)) b) (dvuR (IntKind.u64.wrap a) (IntKind.u64.wrap b)) == a) = true := by
    rw [ar, parts_plain q1 q2 ha'.1 ha'.2]; exact ob_refl _
  have h1 := hafZ_rng a
  have h2 := hafZ_rng b
  have r1 : hafZ (divR (hafZ a) (hafZ b)) = if hafZ b = 0 then hafZ a else (hafZ a).tmod (hafZ b) := by
    have hr : divR (hafZ a) (hafZ b) = if hafZ b = 0 then hafZ a else (hafZ a).tmod (hafZ b) := divR_eq _ _
    rw [← hr, hafZ_eq (divR _ _)]
    have : -2147483648 ≤ divR (hafZ a) (hafZ b) ∧ divR (hafZ a) (hafZ b) ≤ 2147483647 := by
      rw [hr]
      by_cases h : hafZ b = 0
      · rw [if_pos h]; exact h1
      · rw [if_neg h]
        have hq := (quot_signs (hafZ a) (hafZ b) h).2
        have hm := Nat.mod_le (hafZ a).natAbs (hafZ b).natAbs
        rw [hq]
        generalize (hafZ a).natAbs % (hafZ b).natAbs = m at *
        split <;> omega
    unfold wrap32; omega
  have r2 : hafZ (divQ (hafZ a) (hafZ b)) = if hafZ b = 0 then -1 else wrap32 ((hafZ a).tdiv (hafZ b)) := by
    rw [hafZ_eq (divQ _ _), divQ_eq]
    by_cases h : hafZ b = 0
    · rw [if_pos h, if_pos h]; unfold wrap32; omega
    · rw [if_neg h, if_neg h, wrap32_wrap64]
  have E3 : (hafZ (arZ .add .i64 (arZ .mul .i64 (hafZ (divQ (hafZ a) (hafZ b))) (hafZ b)) (hafZ (divR (hafZ a) (hafZ b)))) == hafZ a) = true := by
    rw [ar, hafZ_eq (wrap64 _), parts_half r2 r1 h1.1 h1.2]; exact ob_refl _
  clear r1 r2 h1 h2 ar
  by_cases h : b = 0
  · have G : (b != 0) = false := by simp [h]
    exact ret7 envE_ok _ _ (parts_sim_z a b) (by (repeat' (first | exact all_nil | refine all_cons ?_ ?_)) <;> first | (with_reducible rfl) | assumption | exact ob_refl _ | exact ob_reflB _) Try.func6 w [.int .i64 a, .int .i64 b] (GlobOk.none w) ⟨rfl, rfl, trivial⟩
  · have G : (b != 0) = true := by simp [h]
    have G2 : decide (IntKind.u64.wrap (dvuR (IntKind.u64.wrap a) (IntKind.u64.wrap b)) ≥ IntKind.u64.wrap b) = false := by
      rw [if_neg h] at q2
      have := rest_less (b := b) (fun e => h (uz.1 e)) q2
      refine decide_eq_false ?_
      generalize dvuR (IntKind.u64.wrap a) (IntKind.u64.wrap b) = D at this ⊢
      rw [u64N_eq D, u64N_eq b]; omega
    exact ret7 envE_ok _ _ (parts_sim_p a b) (by (repeat' (first | exact all_nil | refine all_cons ?_ ?_)) <;> first | (with_reducible rfl) | assumption | exact ob_refl _ | exact ob_reflB _) Try.func6 w [.int .i64 a, .int .i64 b] (GlobOk.none w) ⟨rfl, rfl, trivial⟩
end Go.Proofs.Ytcofdcpadbpmnaa
