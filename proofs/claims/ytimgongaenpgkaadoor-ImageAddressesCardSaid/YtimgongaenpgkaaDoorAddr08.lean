/- The laws of layer 8 on the addresses of an image's words and longs. -/
import Derived.Test.YtimgongaenpgkaaDoorPlace08
namespace Go.Proofs.YtimgongaenpgkaaDoor
open Go.RowKit Sim S2
set_option linter.unusedVariables false
set_option linter.unusedSimpArgs false

noncomputable def pcZ (b s a : Int) : Int := arZ .add .i64 b (arZ .mul .i64 s a)
theorem pcZ_eq (b s a : Int) : pcZ b s a = IntKind.i64.wrap (b + IntKind.i64.wrap (s * a)) := by unfold pcZ; rw [arZ_eq, arZ_eq]; rfl
noncomputable def envPC : S2.Env := { envl Tryd.prog (fun _ => none) noT noP noL (fun _ => none) with nowrap := false }
theorem envPC_ok : CallOk envPC := envl_ok (.none _ _) (.none _ _) (.none _ _) .none
theorem pc_ret (a : Int) (w : World) (vals : List Value) (h : ArgsOk w [.inl (.int .i64 a)] vals) : LRet Tryd.prog 11 vals false [.inl (.int .i64 (pcZ 65536 4 a))] w :=
  fn_ok envPC_ok (fuel := 1000) (d := 30) (plan := []) (orc := []) (fls := [[true]]) (args := [.inl (.int .i64 a)]) (l := []) (tr := []) (by kernel_rfl) all_nil Tryd.func11 w vals (GlobOk.none w) h fun t ht => by cases ht
theorem addr_ret (a : Int) (w : World) (vals : List Value) (h : ArgsOk w [.inl (.int .i64 a)] vals) : LRet Tryd.prog 12 vals false [.inl (.int .i64 (pcZ 16777216 8 a))] w :=
  fn_ok envPC_ok (fuel := 1000) (d := 30) (plan := []) (orc := []) (fls := [[true]]) (args := [.inl (.int .i64 a)]) (l := []) (tr := []) (by kernel_rfl) all_nil Tryd.func12 w vals (GlobOk.none w) h fun t ht => by cases ht
noncomputable def lPC : LTab := orL (lrow 11 fun args => match args with
  | [.inl (.int .i64 a)] => some (false, [.inl (.int .i64 (pcZ 65536 4 a))], true)
  | _ => none) (lrow 12 fun args => match args with
  | [.inl (.int .i64 a)] => some (false, [.inl (.int .i64 (pcZ 16777216 8 a))], true)
  | _ => none)
theorem lPC_ok {gl : Nat → Option (List Value)} : LTabOk Tryd.prog gl lPC := by
  refine .or (.row fun args tup res h w vals hG ha => ?_) (.row fun args tup res h w vals hG ha => ?_)
  · split at h
    · rename_i a
      simp only [Option.some.injEq, Prod.mk.injEq] at h
      obtain ⟨rfl, rfl, _⟩ := h
      exact pc_ret a w vals ha
    · cases h
  · split at h
    · rename_i a
      simp only [Option.some.injEq, Prod.mk.injEq] at h
      obtain ⟨rfl, rfl, _⟩ := h
      exact addr_ret a w vals ha
    · cases h
noncomputable def lAd8 (q r : Bool) (i : Im) : LTab := orL lPC (orL (lfe q i) (lpl r i))
noncomputable def envAd (q r : Bool) (i : Im) : S2.Env := { envl Tryd.prog decGl tAw8 noP (lAd8 q r i) (fun _ => none) with nowrap := false }
theorem envAd_ok (q r : Bool) (i : Im) : CallOk (envAd q r i) := envl_ok tAw8_ok (.none _ _) (lPC_ok.or ((lfe_ok q i).or (lpl_ok r i))) .none
theorem ia_l1 (i : Im) (a : Int) : S2.simF (envAd false false i) 1000 30 [] [true, true] 4 [[], [true]] [imX false i, .inl (.int .i64 a)] = some (false, [.inl (.bool true)], [(decide ((i.n : Int) > 2000), true), (decide ((i.n : Int) > 2000), true)], []) := by kernel_rfl
theorem ia_l2 (i : Im) (a : Int) : S2.simF (envAd false false i) 1000 30 [] [false, true, false, true] 4 [[], [true]] [imX false i, .inl (.int .i64 a)] = some (false, [.inl (.bool true)], [(decide ((i.m : Int) > 5000), true), (decide ((i.n : Int) > 2000), false), (decide ((i.m : Int) > 5000), true), (decide ((i.n : Int) > 2000), false)], []) := by kernel_rfl
theorem ia_l3 (i : Im) (a : Int) : S2.simF (envAd false false i) 1000 30 [] [false, false, true, false, false, true] 4 [[], [true]] [imX false i, .inl (.int .i64 a)] = some (false, [.inl (.bool true)], [(decide ((i.h : Int) > 100), true), (decide ((i.m : Int) > 5000), false), (decide ((i.n : Int) > 2000), false), (decide ((i.h : Int) > 100), true), (decide ((i.m : Int) > 5000), false), (decide ((i.n : Int) > 2000), false)], []) := by kernel_rfl
theorem ia_Att (i : Im) (a : Int) : S2.simF (envAd true true i) 1000 30 [] [false, false, false, false, false, false, false] 4 [[], [true]] [imX false i, .inl (.int .i64 a)] = some (false, [.inl (.bool true)], [(false, false), (decide (a > -1099511627776), false), (pre (propB (isIm i (imC i) ∧ smallIm i ∧ isI (pcZ 16777216 8 a) ∧ hasZ 16777216 8 i.m (pcZ 16777216 8 a))), true), (true, true), (pre (propB (isIm i (imC i) ∧ smallIm i ∧ isI (pcZ 65536 4 a) ∧ hasZ 65536 4 i.n (pcZ 65536 4 a) ∧ c32 i)), true), (true, true), (pcZ 16777216 8 a != pcZ 16777216 8 a, false), (true, true), (pcZ 65536 4 a != pcZ 65536 4 a, false), (true, true), (decide ((i.h : Int) > 100), false), (decide ((i.m : Int) > 5000), false), (decide ((i.n : Int) > 2000), false)], []) := by kernel_rfl
theorem ia_Atf (i : Im) (a : Int) : S2.simF (envAd true false i) 1000 30 [] [false, false, false, false, false, false, true] 4 [[], [true]] [imX false i, .inl (.int .i64 a)] = some (false, [.inl (.bool true)], [(true, true), (decide (a > -1099511627776), false), (pre (propB (isIm i (imC i) ∧ smallIm i ∧ isI (pcZ 16777216 8 a) ∧ ¬ hasZ 16777216 8 i.m (pcZ 16777216 8 a))), true), (true, true), (pre (propB (isIm i (imC i) ∧ smallIm i ∧ isI (pcZ 65536 4 a) ∧ hasZ 65536 4 i.n (pcZ 65536 4 a) ∧ c32 i)), true), (true, true), (pcZ 16777216 8 a != pcZ 16777216 8 a, false), (true, true), (pcZ 65536 4 a != pcZ 65536 4 a, false), (true, true), (decide ((i.h : Int) > 100), false), (decide ((i.m : Int) > 5000), false), (decide ((i.n : Int) > 2000), false)], []) := by kernel_rfl
theorem ia_Aft (i : Im) (a : Int) : S2.simF (envAd false true i) 1000 30 [] [false, false, false, false, false, false, false] 4 [[], [true]] [imX false i, .inl (.int .i64 a)] = some (false, [.inl (.bool true)], [(false, false), (decide (a > -1099511627776), false), (pre (propB (isIm i (imC i) ∧ smallIm i ∧ isI (pcZ 16777216 8 a) ∧ hasZ 16777216 8 i.m (pcZ 16777216 8 a))), true), (true, true), (pre (propB (isIm i (imC i) ∧ smallIm i ∧ isI (pcZ 65536 4 a) ∧ ¬ hasZ 65536 4 i.n (pcZ 65536 4 a))), true), (true, true), (pcZ 16777216 8 a != pcZ 16777216 8 a, false), (true, true), (pcZ 65536 4 a != pcZ 65536 4 a, false), (true, true), (decide ((i.h : Int) > 100), false), (decide ((i.m : Int) > 5000), false), (decide ((i.n : Int) > 2000), false)], []) := by kernel_rfl
theorem ia_Aff (i : Im) (a : Int) : S2.simF (envAd false false i) 1000 30 [] [false, false, false, false, false, false, true] 4 [[], [true]] [imX false i, .inl (.int .i64 a)] = some (false, [.inl (.bool true)], [(true, true), (decide (a > -1099511627776), false), (pre (propB (isIm i (imC i) ∧ smallIm i ∧ isI (pcZ 16777216 8 a) ∧ ¬ hasZ 16777216 8 i.m (pcZ 16777216 8 a))), true), (true, true), (pre (propB (isIm i (imC i) ∧ smallIm i ∧ isI (pcZ 65536 4 a) ∧ ¬ hasZ 65536 4 i.n (pcZ 65536 4 a))), true), (true, true), (pcZ 16777216 8 a != pcZ 16777216 8 a, false), (true, true), (pcZ 65536 4 a != pcZ 65536 4 a, false), (true, true), (decide ((i.h : Int) > 100), false), (decide ((i.m : Int) > 5000), false), (decide ((i.n : Int) > 2000), false)], []) := by kernel_rfl
theorem ia_Btt (i : Im) (a : Int) : S2.simF (envAd true true i) 1000 30 [] [false, false, false, false, false, true, true, true, false, true] 4 [[], [true]] [imX false i, .inl (.int .i64 a)] = some (false, [.inl (.bool true)], [(!decide (a < 1099511627776), true), (false, false), (!decide (a < 1099511627776), true), (!decide (a < 1099511627776), true), (decide (a > -1099511627776), true), (pre (propB (isIm i (imC i) ∧ smallIm i ∧ isI (pcZ 16777216 8 a) ∧ hasZ 16777216 8 i.m (pcZ 16777216 8 a))), true), (true, true), (pre (propB (isIm i (imC i) ∧ smallIm i ∧ isI (pcZ 65536 4 a) ∧ hasZ 65536 4 i.n (pcZ 65536 4 a) ∧ c32 i)), true), (true, true), (pcZ 16777216 8 a != pcZ 16777216 8 a, false), (true, true), (pcZ 65536 4 a != pcZ 65536 4 a, false), (true, true), (decide ((i.h : Int) > 100), false), (decide ((i.m : Int) > 5000), false), (decide ((i.n : Int) > 2000), false)], []) := by kernel_rfl
theorem ia_Btf (i : Im) (a : Int) : S2.simF (envAd true false i) 1000 30 [] [false, false, false, false, false, true, true, true, true] 4 [[], [true]] [imX false i, .inl (.int .i64 a)] = some (false, [.inl (.bool true)], [(true, true), (!decide (a < 1099511627776), true), (!decide (a < 1099511627776), true), (decide (a > -1099511627776), true), (pre (propB (isIm i (imC i) ∧ smallIm i ∧ isI (pcZ 16777216 8 a) ∧ ¬ hasZ 16777216 8 i.m (pcZ 16777216 8 a))), true), (true, true), (pre (propB (isIm i (imC i) ∧ smallIm i ∧ isI (pcZ 65536 4 a) ∧ hasZ 65536 4 i.n (pcZ 65536 4 a) ∧ c32 i)), true), (true, true), (pcZ 16777216 8 a != pcZ 16777216 8 a, false), (true, true), (pcZ 65536 4 a != pcZ 65536 4 a, false), (true, true), (decide ((i.h : Int) > 100), false), (decide ((i.m : Int) > 5000), false), (decide ((i.n : Int) > 2000), false)], []) := by kernel_rfl
theorem ia_Bft (i : Im) (a : Int) : S2.simF (envAd false true i) 1000 30 [] [false, false, false, false, false, true, true, true, false, true] 4 [[], [true]] [imX false i, .inl (.int .i64 a)] = some (false, [.inl (.bool true)], [(!decide (a < 1099511627776), true), (false, false), (!decide (a < 1099511627776), true), (!decide (a < 1099511627776), true), (decide (a > -1099511627776), true), (pre (propB (isIm i (imC i) ∧ smallIm i ∧ isI (pcZ 16777216 8 a) ∧ hasZ 16777216 8 i.m (pcZ 16777216 8 a))), true), (true, true), (pre (propB (isIm i (imC i) ∧ smallIm i ∧ isI (pcZ 65536 4 a) ∧ ¬ hasZ 65536 4 i.n (pcZ 65536 4 a))), true), (true, true), (pcZ 16777216 8 a != pcZ 16777216 8 a, false), (true, true), (pcZ 65536 4 a != pcZ 65536 4 a, false), (true, true), (decide ((i.h : Int) > 100), false), (decide ((i.m : Int) > 5000), false), (decide ((i.n : Int) > 2000), false)], []) := by kernel_rfl
theorem ia_Bff (i : Im) (a : Int) : S2.simF (envAd false false i) 1000 30 [] [false, false, false, false, false, true, true, true, true] 4 [[], [true]] [imX false i, .inl (.int .i64 a)] = some (false, [.inl (.bool true)], [(true, true), (!decide (a < 1099511627776), true), (!decide (a < 1099511627776), true), (decide (a > -1099511627776), true), (pre (propB (isIm i (imC i) ∧ smallIm i ∧ isI (pcZ 16777216 8 a) ∧ ¬ hasZ 16777216 8 i.m (pcZ 16777216 8 a))), true), (true, true), (pre (propB (isIm i (imC i) ∧ smallIm i ∧ isI (pcZ 65536 4 a) ∧ ¬ hasZ 65536 4 i.n (pcZ 65536 4 a))), true), (true, true), (pcZ 16777216 8 a != pcZ 16777216 8 a, false), (true, true), (pcZ 65536 4 a != pcZ 65536 4 a, false), (true, true), (decide ((i.h : Int) > 100), false), (decide ((i.m : Int) > 5000), false), (decide ((i.n : Int) > 2000), false)], []) := by kernel_rfl
theorem ia_Cff (i : Im) (a : Int) : S2.simF (envAd false false i) 1000 30 [] [false, false, false, false, false, true, false, false, true, false, false, true, true] 4 [[], [true]] [imX false i, .inl (.int .i64 a)] = some (false, [.inl (.bool true)], [(true, true), (true, true), (decide (a ≥ 0), false), (!decide (a < 1099511627776), false), (true, true), (decide (a ≥ 0), false), (!decide (a < 1099511627776), false), (decide (a > -1099511627776), true), (pre (propB (isIm i (imC i) ∧ smallIm i ∧ isI (pcZ 16777216 8 a) ∧ ¬ hasZ 16777216 8 i.m (pcZ 16777216 8 a))), true), (true, true), (pre (propB (isIm i (imC i) ∧ smallIm i ∧ isI (pcZ 65536 4 a) ∧ ¬ hasZ 65536 4 i.n (pcZ 65536 4 a))), true), (true, true), (pcZ 16777216 8 a != pcZ 16777216 8 a, false), (true, true), (pcZ 65536 4 a != pcZ 65536 4 a, false), (true, true), (decide ((i.h : Int) > 100), false), (decide ((i.m : Int) > 5000), false), (decide ((i.n : Int) > 2000), false)], []) := by kernel_rfl
theorem ia_Dtt (i : Im) (a : Int) : S2.simF (envAd true true i) 1000 30 [] [false, false, false, false, false, true, false, true, true, false, true, true, false, false, true] 4 [[], [true]] [imX false i, .inl (.int .i64 a)] = some (false, [.inl (.bool true)], [(qZ 16777216 8 (pcZ 16777216 8 a) == a, true), (!decide (a < 1099511627776), false), (false, false), (true == decide (a < (i.m : Int)), true), (decide (a ≥ 0), true), (!decide (a < 1099511627776), false), (true == decide (a < (i.n : Int)), true), (decide (a ≥ 0), true), (!decide (a < 1099511627776), false), (decide (a > -1099511627776), true), (pre (propB (isIm i (imC i) ∧ smallIm i ∧ isI (pcZ 16777216 8 a) ∧ hasZ 16777216 8 i.m (pcZ 16777216 8 a))), true), (true, true), (pre (propB (isIm i (imC i) ∧ smallIm i ∧ isI (pcZ 65536 4 a) ∧ hasZ 65536 4 i.n (pcZ 65536 4 a) ∧ c32 i)), true), (true, true), (pcZ 16777216 8 a != pcZ 16777216 8 a, false), (true, true), (pcZ 65536 4 a != pcZ 65536 4 a, false), (true, true), (decide ((i.h : Int) > 100), false), (decide ((i.m : Int) > 5000), false), (decide ((i.n : Int) > 2000), false)], []) := by kernel_rfl
theorem ia_Dtf (i : Im) (a : Int) : S2.simF (envAd true false i) 1000 30 [] [false, false, false, false, false, true, false, true, true, false, true, true, true] 4 [[], [true]] [imX false i, .inl (.int .i64 a)] = some (false, [.inl (.bool true)], [(true, true), (false == decide (a < (i.m : Int)), true), (decide (a ≥ 0), true), (!decide (a < 1099511627776), false), (true == decide (a < (i.n : Int)), true), (decide (a ≥ 0), true), (!decide (a < 1099511627776), false), (decide (a > -1099511627776), true), (pre (propB (isIm i (imC i) ∧ smallIm i ∧ isI (pcZ 16777216 8 a) ∧ ¬ hasZ 16777216 8 i.m (pcZ 16777216 8 a))), true), (true, true), (pre (propB (isIm i (imC i) ∧ smallIm i ∧ isI (pcZ 65536 4 a) ∧ hasZ 65536 4 i.n (pcZ 65536 4 a) ∧ c32 i)), true), (true, true), (pcZ 16777216 8 a != pcZ 16777216 8 a, false), (true, true), (pcZ 65536 4 a != pcZ 65536 4 a, false), (true, true), (decide ((i.h : Int) > 100), false), (decide ((i.m : Int) > 5000), false), (decide ((i.n : Int) > 2000), false)], []) := by kernel_rfl
theorem ia_Dft (i : Im) (a : Int) : S2.simF (envAd false true i) 1000 30 [] [false, false, false, false, false, true, false, true, true, false, true, true, false, false, true] 4 [[], [true]] [imX false i, .inl (.int .i64 a)] = some (false, [.inl (.bool true)], [(qZ 16777216 8 (pcZ 16777216 8 a) == a, true), (!decide (a < 1099511627776), false), (false, false), (true == decide (a < (i.m : Int)), true), (decide (a ≥ 0), true), (!decide (a < 1099511627776), false), (false == decide (a < (i.n : Int)), true), (decide (a ≥ 0), true), (!decide (a < 1099511627776), false), (decide (a > -1099511627776), true), (pre (propB (isIm i (imC i) ∧ smallIm i ∧ isI (pcZ 16777216 8 a) ∧ hasZ 16777216 8 i.m (pcZ 16777216 8 a))), true), (true, true), (pre (propB (isIm i (imC i) ∧ smallIm i ∧ isI (pcZ 65536 4 a) ∧ ¬ hasZ 65536 4 i.n (pcZ 65536 4 a))), true), (true, true), (pcZ 16777216 8 a != pcZ 16777216 8 a, false), (true, true), (pcZ 65536 4 a != pcZ 65536 4 a, false), (true, true), (decide ((i.h : Int) > 100), false), (decide ((i.m : Int) > 5000), false), (decide ((i.n : Int) > 2000), false)], []) := by kernel_rfl
theorem ia_Dff (i : Im) (a : Int) : S2.simF (envAd false false i) 1000 30 [] [false, false, false, false, false, true, false, true, true, false, true, true, true] 4 [[], [true]] [imX false i, .inl (.int .i64 a)] = some (false, [.inl (.bool true)], [(true, true), (false == decide (a < (i.m : Int)), true), (decide (a ≥ 0), true), (!decide (a < 1099511627776), false), (false == decide (a < (i.n : Int)), true), (decide (a ≥ 0), true), (!decide (a < 1099511627776), false), (decide (a > -1099511627776), true), (pre (propB (isIm i (imC i) ∧ smallIm i ∧ isI (pcZ 16777216 8 a) ∧ ¬ hasZ 16777216 8 i.m (pcZ 16777216 8 a))), true), (true, true), (pre (propB (isIm i (imC i) ∧ smallIm i ∧ isI (pcZ 65536 4 a) ∧ ¬ hasZ 65536 4 i.n (pcZ 65536 4 a))), true), (true, true), (pcZ 16777216 8 a != pcZ 16777216 8 a, false), (true, true), (pcZ 65536 4 a != pcZ 65536 4 a, false), (true, true), (decide ((i.h : Int) > 100), false), (decide ((i.m : Int) > 5000), false), (decide ((i.n : Int) > 2000), false)], []) := by kernel_rfl
theorem pc_isI (b s a : Int) : isI (pcZ b s a) := by
  rw [pcZ_eq, IntKind.wrap_i64]
  unfold isI
  omega
theorem pc_small {b s a : Int} (h1 : -9223372036854775808 ≤ s * a) (h2 : s * a ≤ 9223372036854775807) (h3 : -9223372036854775808 ≤ b + s * a) (h4 : b + s * a ≤ 9223372036854775807) : pcZ b s a = b + s * a := by
  rw [pcZ_eq, IntKind.wrap_i64, IntKind.wrap_i64]
  omega
theorem has_small {b s a : Int} {n : Nat} (hs : 0 < s) (h1 : -9223372036854775808 ≤ s * a) (h2 : s * a ≤ 9223372036854775807) (h3 : -9223372036854775808 ≤ b + s * a) (h4 : b + s * a ≤ 9223372036854775807) : hasZ b s n (pcZ b s a) ↔ 0 ≤ a ∧ a < (n : Int) := by
  rw [pc_small h1 h2 h3 h4]
  unfold hasZ
  have e : b + s * a - b = s * a := by omega
  rw [e, Int.mul_ediv_cancel_left _ (by omega), Int.mul_emod_right]
  refine ⟨fun h => ⟨?_, h.2.2⟩, fun h => ⟨?_, rfl, h.2⟩⟩
  · by_cases h0 : 0 ≤ a
    · exact h0
    · have : s * a < 0 := Int.mul_neg_of_pos_of_neg hs (by omega)
      have := h.1
      omega
  · have : 0 ≤ s * a := Int.mul_nonneg (by omega) h.1
    omega
theorem beqYes {c : Bool} {p : Prop} [Decidable p] (h : c = true ↔ p) : (c == decide p) = true := by
  cases c
  · have : decide p = false := decide_eq_false (fun hp => by simpa using h.mpr hp)
    rw [this]; rfl
  · have : decide p = true := decide_eq_true (h.mp rfl)
    rw [this]; rfl
theorem imageAddresses_walk (i : Im) (v : Value) (a : Int) (w : World) (hG : GlobOk decGl w) (hw : wfIm i) (ha : ∀ o, ArgsOk w [imX o i] [v]) (h64w : (Lit.int .i64 a).wf = true) : Ret Tryd.prog 4 #[v, .int .i64 a] (.bool true) w := by
  have h64 : isI a := bounds_i64 h64w
  have F := Tryd.func4
  have hv : ArgsOk w [imX false i, .inl (.int .i64 a)] [v, .int .i64 a] := ⟨(ha false).1, rfl, trivial⟩
  refine LRet.plain ?_
  by_cases l1 : i.n > 2000
  · exact fn_ok (envAd_ok false false i) (ia_l1 i a) (all_cons (ob_yes (by omega)) <| all_cons (ob_yes (by omega)) all_nil) F w [v, .int .i64 a] hG hv fun t ht => by cases ht
  by_cases l2 : i.m > 5000
  · exact fn_ok (envAd_ok false false i) (ia_l2 i a) (all_cons (ob_yes (by omega)) <| all_cons (ob_no (by omega)) <| all_cons (ob_yes (by omega)) <| all_cons (ob_no (by omega)) all_nil) F w [v, .int .i64 a] hG hv fun t ht => by cases ht
  by_cases l3 : i.h > 100
  · exact fn_ok (envAd_ok false false i) (ia_l3 i a) (all_cons (ob_yes (by omega)) <| all_cons (ob_no (by omega)) <| all_cons (ob_no (by omega)) <| all_cons (ob_yes (by omega)) <| all_cons (ob_no (by omega)) <| all_cons (ob_no (by omega)) all_nil) F w [v, .int .i64 a] hG hv fun t ht => by cases ht
  have hs : smallIm i := ⟨by omega, by omega, by omega⟩
  have o1 : decide ((i.n : Int) > 2000) = false := ob_no (by omega)
  have o2 : decide ((i.m : Int) > 5000) = false := ob_no (by omega)
  have o3 : decide ((i.h : Int) > 100) = false := ob_no (by omega)
  have b1 := bneF (rfl : pcZ 65536 4 a = pcZ 65536 4 a)
  have b2 := bneF (rfl : pcZ 16777216 8 a = pcZ 16777216 8 a)
  have i1 := pc_isI 65536 4 a
  have i2 := pc_isI 16777216 8 a
  by_cases c1 : a > -1099511627776
  · by_cases c2 : a < 1099511627776
    · have ng : (!decide (a < 1099511627776)) = false := by rw [ob_yes c2]; rfl
      have e1 : hasZ 65536 4 i.n (pcZ 65536 4 a) ↔ _ := has_small (by decide) (by omega) (by omega) (by omega) (by omega)
      have e2 : hasZ 16777216 8 i.m (pcZ 16777216 8 a) ↔ _ := has_small (by decide) (by omega) (by omega) (by omega) (by omega)
      by_cases c3 : a ≥ 0
      · have qe : (qZ 16777216 8 (pcZ 16777216 8 a) == a) = true := by
          rw [pc_small (by omega) (by omega) (by omega) (by omega), qZ_eq (by decide) (by decide) (by omega) (by unfold isI; omega), show (16777216 + 8 * a - 16777216 : Int) = 8 * a by omega, Int.mul_ediv_cancel_left _ (by decide)]
          exact beq_self_eq_true _
        by_cases hf : hasZ 65536 4 i.n (pcZ 65536 4 a)
        · by_cases hp : hasZ 16777216 8 i.m (pcZ 16777216 8 a)
          · have f1 : (0 ≤ a ∧ a < (i.n : Int)) := e1.mp hf
            have f2 : (0 ≤ a ∧ a < (i.m : Int)) := e2.mp hp
            exact fn_ok (envAd_ok true true i) (ia_Dtt i a) (all_cons qe <| all_cons ng <| all_cons rfl <| all_cons (beqYes (by simp; omega)) <| all_cons (ob_yes (by omega)) <| all_cons ng <| all_cons (beqYes (by simp; omega)) <| all_cons (ob_yes (by omega)) <| all_cons ng <| all_cons (ob_yes (by omega)) <| all_cons (propB_ok.mpr ⟨imC_im i, hs, i2, hp⟩) <| all_cons rfl <| all_cons (propB_ok.mpr ⟨imC_im i, hs, i1, hf, hw.c⟩) <| all_cons rfl <| all_cons b2 <| all_cons rfl <| all_cons b1 <| all_cons rfl <| all_cons o3 <| all_cons o2 <| all_cons o1 all_nil) F w [v, .int .i64 a] hG hv fun t ht => by cases ht
          · have f1 : (0 ≤ a ∧ a < (i.n : Int)) := e1.mp hf
            have f2 : ¬ (0 ≤ a ∧ a < (i.m : Int)) := fun h => hp (e2.mpr h)
            exact fn_ok (envAd_ok true false i) (ia_Dtf i a) (all_cons rfl <| all_cons (beqYes (by simp; omega)) <| all_cons (ob_yes (by omega)) <| all_cons ng <| all_cons (beqYes (by simp; omega)) <| all_cons (ob_yes (by omega)) <| all_cons ng <| all_cons (ob_yes (by omega)) <| all_cons (propB_ok.mpr ⟨imC_im i, hs, i2, hp⟩) <| all_cons rfl <| all_cons (propB_ok.mpr ⟨imC_im i, hs, i1, hf, hw.c⟩) <| all_cons rfl <| all_cons b2 <| all_cons rfl <| all_cons b1 <| all_cons rfl <| all_cons o3 <| all_cons o2 <| all_cons o1 all_nil) F w [v, .int .i64 a] hG hv fun t ht => by cases ht
        · by_cases hp : hasZ 16777216 8 i.m (pcZ 16777216 8 a)
          · have f1 : ¬ (0 ≤ a ∧ a < (i.n : Int)) := fun h => hf (e1.mpr h)
            have f2 : (0 ≤ a ∧ a < (i.m : Int)) := e2.mp hp
            exact fn_ok (envAd_ok false true i) (ia_Dft i a) (all_cons qe <| all_cons ng <| all_cons rfl <| all_cons (beqYes (by simp; omega)) <| all_cons (ob_yes (by omega)) <| all_cons ng <| all_cons (beqYes (by simp; omega)) <| all_cons (ob_yes (by omega)) <| all_cons ng <| all_cons (ob_yes (by omega)) <| all_cons (propB_ok.mpr ⟨imC_im i, hs, i2, hp⟩) <| all_cons rfl <| all_cons (propB_ok.mpr ⟨imC_im i, hs, i1, hf⟩) <| all_cons rfl <| all_cons b2 <| all_cons rfl <| all_cons b1 <| all_cons rfl <| all_cons o3 <| all_cons o2 <| all_cons o1 all_nil) F w [v, .int .i64 a] hG hv fun t ht => by cases ht
          · have f1 : ¬ (0 ≤ a ∧ a < (i.n : Int)) := fun h => hf (e1.mpr h)
            have f2 : ¬ (0 ≤ a ∧ a < (i.m : Int)) := fun h => hp (e2.mpr h)
            exact fn_ok (envAd_ok false false i) (ia_Dff i a) (all_cons rfl <| all_cons (beqYes (by simp; omega)) <| all_cons (ob_yes (by omega)) <| all_cons ng <| all_cons (beqYes (by simp; omega)) <| all_cons (ob_yes (by omega)) <| all_cons ng <| all_cons (ob_yes (by omega)) <| all_cons (propB_ok.mpr ⟨imC_im i, hs, i2, hp⟩) <| all_cons rfl <| all_cons (propB_ok.mpr ⟨imC_im i, hs, i1, hf⟩) <| all_cons rfl <| all_cons b2 <| all_cons rfl <| all_cons b1 <| all_cons rfl <| all_cons o3 <| all_cons o2 <| all_cons o1 all_nil) F w [v, .int .i64 a] hG hv fun t ht => by cases ht
      · by_cases hf : hasZ 65536 4 i.n (pcZ 65536 4 a)
        · by_cases hp : hasZ 16777216 8 i.m (pcZ 16777216 8 a)
          · exact absurd ((e1.mp hf).1) (by omega)
          · exact absurd ((e1.mp hf).1) (by omega)
        · by_cases hp : hasZ 16777216 8 i.m (pcZ 16777216 8 a)
          · exact absurd ((e2.mp hp).1) (by omega)
          · exact fn_ok (envAd_ok false false i) (ia_Cff i a) (all_cons rfl <| all_cons rfl <| all_cons (ob_no (by omega)) <| all_cons ng <| all_cons rfl <| all_cons (ob_no (by omega)) <| all_cons ng <| all_cons (ob_yes (by omega)) <| all_cons (propB_ok.mpr ⟨imC_im i, hs, i2, hp⟩) <| all_cons rfl <| all_cons (propB_ok.mpr ⟨imC_im i, hs, i1, hf⟩) <| all_cons rfl <| all_cons b2 <| all_cons rfl <| all_cons b1 <| all_cons rfl <| all_cons o3 <| all_cons o2 <| all_cons o1 all_nil) F w [v, .int .i64 a] hG hv fun t ht => by cases ht
    · have ng : (!decide (a < 1099511627776)) = true := by rw [ob_no c2]; rfl
      by_cases hf : hasZ 65536 4 i.n (pcZ 65536 4 a)
      · by_cases hp : hasZ 16777216 8 i.m (pcZ 16777216 8 a)
        · exact fn_ok (envAd_ok true true i) (ia_Btt i a) (all_cons ng <| all_cons rfl <| all_cons ng <| all_cons ng <| all_cons (ob_yes (by omega)) <| all_cons (propB_ok.mpr ⟨imC_im i, hs, i2, hp⟩) <| all_cons rfl <| all_cons (propB_ok.mpr ⟨imC_im i, hs, i1, hf, hw.c⟩) <| all_cons rfl <| all_cons b2 <| all_cons rfl <| all_cons b1 <| all_cons rfl <| all_cons o3 <| all_cons o2 <| all_cons o1 all_nil) F w [v, .int .i64 a] hG hv fun t ht => by cases ht
        · exact fn_ok (envAd_ok true false i) (ia_Btf i a) (all_cons rfl <| all_cons ng <| all_cons ng <| all_cons (ob_yes (by omega)) <| all_cons (propB_ok.mpr ⟨imC_im i, hs, i2, hp⟩) <| all_cons rfl <| all_cons (propB_ok.mpr ⟨imC_im i, hs, i1, hf, hw.c⟩) <| all_cons rfl <| all_cons b2 <| all_cons rfl <| all_cons b1 <| all_cons rfl <| all_cons o3 <| all_cons o2 <| all_cons o1 all_nil) F w [v, .int .i64 a] hG hv fun t ht => by cases ht
      · by_cases hp : hasZ 16777216 8 i.m (pcZ 16777216 8 a)
        · exact fn_ok (envAd_ok false true i) (ia_Bft i a) (all_cons ng <| all_cons rfl <| all_cons ng <| all_cons ng <| all_cons (ob_yes (by omega)) <| all_cons (propB_ok.mpr ⟨imC_im i, hs, i2, hp⟩) <| all_cons rfl <| all_cons (propB_ok.mpr ⟨imC_im i, hs, i1, hf⟩) <| all_cons rfl <| all_cons b2 <| all_cons rfl <| all_cons b1 <| all_cons rfl <| all_cons o3 <| all_cons o2 <| all_cons o1 all_nil) F w [v, .int .i64 a] hG hv fun t ht => by cases ht
        · exact fn_ok (envAd_ok false false i) (ia_Bff i a) (all_cons rfl <| all_cons ng <| all_cons ng <| all_cons (ob_yes (by omega)) <| all_cons (propB_ok.mpr ⟨imC_im i, hs, i2, hp⟩) <| all_cons rfl <| all_cons (propB_ok.mpr ⟨imC_im i, hs, i1, hf⟩) <| all_cons rfl <| all_cons b2 <| all_cons rfl <| all_cons b1 <| all_cons rfl <| all_cons o3 <| all_cons o2 <| all_cons o1 all_nil) F w [v, .int .i64 a] hG hv fun t ht => by cases ht
  · by_cases hf : hasZ 65536 4 i.n (pcZ 65536 4 a)
    · by_cases hp : hasZ 16777216 8 i.m (pcZ 16777216 8 a)
      · exact fn_ok (envAd_ok true true i) (ia_Att i a) (all_cons rfl <| all_cons (ob_no (by omega)) <| all_cons (propB_ok.mpr ⟨imC_im i, hs, i2, hp⟩) <| all_cons rfl <| all_cons (propB_ok.mpr ⟨imC_im i, hs, i1, hf, hw.c⟩) <| all_cons rfl <| all_cons b2 <| all_cons rfl <| all_cons b1 <| all_cons rfl <| all_cons o3 <| all_cons o2 <| all_cons o1 all_nil) F w [v, .int .i64 a] hG hv fun t ht => by cases ht
      · exact fn_ok (envAd_ok true false i) (ia_Atf i a) (all_cons rfl <| all_cons (ob_no (by omega)) <| all_cons (propB_ok.mpr ⟨imC_im i, hs, i2, hp⟩) <| all_cons rfl <| all_cons (propB_ok.mpr ⟨imC_im i, hs, i1, hf, hw.c⟩) <| all_cons rfl <| all_cons b2 <| all_cons rfl <| all_cons b1 <| all_cons rfl <| all_cons o3 <| all_cons o2 <| all_cons o1 all_nil) F w [v, .int .i64 a] hG hv fun t ht => by cases ht
    · by_cases hp : hasZ 16777216 8 i.m (pcZ 16777216 8 a)
      · exact fn_ok (envAd_ok false true i) (ia_Aft i a) (all_cons rfl <| all_cons (ob_no (by omega)) <| all_cons (propB_ok.mpr ⟨imC_im i, hs, i2, hp⟩) <| all_cons rfl <| all_cons (propB_ok.mpr ⟨imC_im i, hs, i1, hf⟩) <| all_cons rfl <| all_cons b2 <| all_cons rfl <| all_cons b1 <| all_cons rfl <| all_cons o3 <| all_cons o2 <| all_cons o1 all_nil) F w [v, .int .i64 a] hG hv fun t ht => by cases ht
      · exact fn_ok (envAd_ok false false i) (ia_Aff i a) (all_cons rfl <| all_cons (ob_no (by omega)) <| all_cons (propB_ok.mpr ⟨imC_im i, hs, i2, hp⟩) <| all_cons rfl <| all_cons (propB_ok.mpr ⟨imC_im i, hs, i1, hf⟩) <| all_cons rfl <| all_cons b2 <| all_cons rfl <| all_cons b1 <| all_cons rfl <| all_cons o3 <| all_cons o2 <| all_cons o1 all_nil) F w [v, .int .i64 a] hG hv fun t ht => by cases ht
end Go.Proofs.YtimgongaenpgkaaDoor
