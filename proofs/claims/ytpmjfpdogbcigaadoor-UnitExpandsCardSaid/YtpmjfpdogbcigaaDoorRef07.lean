/- Contracts of the answers by definition for layer 7: quotients, upper words, halves. -/
import Derived.Test.YtpmjfpdogbcigaaDoorMul07
import Derived.Test.YtpmjfpdogbcigaaDoorRef03
namespace Go.Proofs.YtpmjfpdogbcigaaDoor
open Go.RowKit Sim S2
set_option linter.unusedVariables false
set_option linter.unusedSimpArgs false

theorem wrapU (x : Int) : IntKind.u64.wrap x = x % 18446744073709551616 := rfl
theorem wrapI (x : Int) : IntKind.i64.wrap x = wrap64 x := by rw [IntKind.wrap_i64]; unfold wrap64; omega
theorem absZ_ex : ∃ f : Int → Int, ∀ a, f a = (a.natAbs : Nat) := ⟨_, fun _ => rfl⟩
noncomputable def absZ : Int → Int := Classical.choose absZ_ex
theorem absZ_eq (a : Int) : absZ a = (a.natAbs : Nat) := Classical.choose_spec absZ_ex a
--@s2 refAbs_sim "(a : Int)" "simF env7 1000 10 [] $O 70 [[true]] [.inl (.int .i64 a)]" n:t p:f
theorem refAbs_sim_n (a : Int) : simF env7 1000 10 [] [true] 70 [[true]] [.inl (.int .i64 a)] = some (false, [.inl (Value.int IntKind.u64 (IntKind.u64.wrap (0 - IntKind.u64.wrap a)))], [(decide (a < 0), true)], []) := by kernel_rfl
theorem refAbs_sim_p (a : Int) : simF env7 1000 10 [] [false] 70 [[true]] [.inl (.int .i64 a)] = some (false, [.inl (Value.int IntKind.u64 (IntKind.u64.wrap a))], [(decide (a < 0), false)], []) := by kernel_rfl
--@s2end
theorem refAbs_ret (a : Int) (ha : i64C a = true) (w : World) : Ret Tryd.prog 70 #[.int .i64 a] (.int .u64 (absZ a)) w := by
  rw [i64C_iff] at ha
  by_cases h0 : a < 0
  · refine (ret7 env7_ok _ _ (refAbs_sim_n a) (all_cons (ob_yes h0) all_nil) Tryd.func70 w [.int .i64 a] (GlobOk.none w) ⟨rfl, trivial⟩).of_eq ?_
    rw [absZ_eq, wrapU, wrapU]
    congr 1; omega
  · refine (ret7 env7_ok _ _ (refAbs_sim_p a) (all_cons (ob_no h0) all_nil) Tryd.func70 w [.int .i64 a] (GlobOk.none w) ⟨rfl, trivial⟩).of_eq ?_
    rw [absZ_eq, wrapU]
    congr 1; omega
noncomputable def decI7 (g : Int → Value) : List Value → Option (Value × Bool)
  | [.int .i64 a] => some (g a, pre (i64C a))
  | _ => none
theorem rowI7 {gl : Nat → Option (List Value)} {k : FuncId} {g : Int → Value} (h : ∀ a, i64C a = true → ∀ w, GlobOk gl w → Ret Tryd.prog k #[.int .i64 a] (g a) w) : PTabOk Tryd.prog gl (prowD k (decI7 g)) := .rowD fun args u hd w hG => by
  unfold decI7 at hd
  split at hd
  · rename_i a
    simp only [Option.some.injEq, Prod.mk.injEq, pre] at hd
    obtain ⟨rfl, h1⟩ := hd
    exact h a h1 w hG
  · cases hd
noncomputable def decII7 (g : Int → Int → Value) : List Value → Option (Value × Bool)
  | [.int .i64 a, .int .i64 b] => some (g a b, pre (i64C a && i64C b))
  | _ => none
theorem rowII7 {gl : Nat → Option (List Value)} {k : FuncId} {g : Int → Int → Value} (h : ∀ a b, i64C a = true → i64C b = true → ∀ w, GlobOk gl w → Ret Tryd.prog k #[.int .i64 a, .int .i64 b] (g a b) w) : PTabOk Tryd.prog gl (prowD k (decII7 g)) := .rowD fun args u hd w hG => by
  unfold decII7 at hd
  split at hd
  · rename_i a b
    simp only [Option.some.injEq, Prod.mk.injEq, pre, Bool.and_eq_true] at hd
    obtain ⟨rfl, h1, h2⟩ := hd
    exact h a b h1 h2 w hG
  · cases hd
noncomputable def pRefAbs : PTab := prowD 70 (decI7 fun a => .int .u64 (absZ a))
theorem pRefAbs_ok {gl : Nat → Option (List Value)} : PTabOk Tryd.prog gl pRefAbs := rowI7 fun a ha w _ => refAbs_ret a ha w
theorem ob_i64 {a : Int} (h : -9223372036854775808 ≤ a ∧ a ≤ 9223372036854775807) : pre (i64C a) = true := i64C_iff.2 h
theorem ob_ne {a b : Int} (h : a ≠ b) : pre (decide (a ≠ b)) = true := decide_eq_true h
theorem ob_eq {a b : Int} (h : a = b) : (a == b) = true := by simp [h]
theorem ob_neq {a b : Int} (h : a ≠ b) : (a == b) = false := by simp [h]
--@s2 refDivU_sim "(a b : Int)" "simF env7 1000 10 [] $O 63 [[true], [true]] [.inl (.int .u64 a), .inl (.int .u64 b)]" z:t p:f
theorem refDivU_sim_z (a b : Int) : simF env7 1000 10 [] [true] 63 [[true], [true]] [.inl (.int .u64 a), .inl (.int .u64 b)] = some (false, [.inl (Value.tuple { toList := [Value.int IntKind.i64 (-1), Value.int IntKind.i64 (IntKind.i64.wrap a)] })], [(b == 0, true)], []) := by kernel_rfl
theorem refDivU_sim_p (a b : Int) : simF env7 1000 10 [] [false] 63 [[true], [true]] [.inl (.int .u64 a), .inl (.int .u64 b)] = some (false, [.inl (Value.tuple { toList := [Value.int IntKind.i64 (IntKind.i64.wrap (arZ BinOp.quo IntKind.u64 a b)), Value.int IntKind.i64 (IntKind.i64.wrap (arZ BinOp.rem IntKind.u64 a b))] })], [(pre (decide (b ≠ 0)), true), (pre (decide (b ≠ 0)), true), (b == 0, false)], []) := by kernel_rfl
--@s2end
theorem dvuQ_ex : ∃ f : Int → Int → Int, ∀ a b, f a b = if b = 0 then -1 else wrap64 (a / b) := ⟨_, fun _ _ => rfl⟩
noncomputable def dvuQ : Int → Int → Int := Classical.choose dvuQ_ex
theorem dvuQ_eq (a b : Int) : dvuQ a b = if b = 0 then -1 else wrap64 (a / b) := Classical.choose_spec dvuQ_ex a b
theorem dvuR_ex : ∃ f : Int → Int → Int, ∀ a b, f a b = if b = 0 then wrap64 a else wrap64 (a % b) := ⟨_, fun _ _ => rfl⟩
noncomputable def dvuR : Int → Int → Int := Classical.choose dvuR_ex
theorem dvuR_eq (a b : Int) : dvuR a b = if b = 0 then wrap64 a else wrap64 (a % b) := Classical.choose_spec dvuR_ex a b
theorem divQ_ex : ∃ f : Int → Int → Int, ∀ a b, f a b = if b = 0 then -1 else wrap64 (a.tdiv b) := ⟨_, fun _ _ => rfl⟩
noncomputable def divQ : Int → Int → Int := Classical.choose divQ_ex
theorem divQ_eq (a b : Int) : divQ a b = if b = 0 then -1 else wrap64 (a.tdiv b) := Classical.choose_spec divQ_ex a b
theorem divR_ex : ∃ f : Int → Int → Int, ∀ a b, f a b = if b = 0 then a else a.tmod b := ⟨_, fun _ _ => rfl⟩
noncomputable def divR : Int → Int → Int := Classical.choose divR_ex
theorem divR_eq (a b : Int) : divR a b = if b = 0 then a else a.tmod b := Classical.choose_spec divR_ex a b
theorem quoU {a b : Int} (ha : 0 ≤ a ∧ a < 18446744073709551616) (hb : 0 ≤ b) : arZ .quo .u64 a b = a / b := by
  obtain ⟨a, rfl⟩ := Int.eq_ofNat_of_zero_le ha.1
  obtain ⟨b, rfl⟩ := Int.eq_ofNat_of_zero_le hb
  exact up_n rfl b (by omega)
theorem remU {a b : Int} (ha : 0 ≤ a) (hb : 0 ≤ b) : arZ .rem .u64 a b = a % b := by
  obtain ⟨a, rfl⟩ := Int.eq_ofNat_of_zero_le ha
  obtain ⟨b, rfl⟩ := Int.eq_ofNat_of_zero_le hb
  exact lo_n rfl b
theorem refDivU_ret (a b : Int) (ha : u64C a = true) (hb : u64C b = true) (w : World) : Ret Tryd.prog 63 #[.int .u64 a, .int .u64 b] (.tuple #[.int .i64 (dvuQ a b), .int .i64 (dvuR a b)]) w := by
  rw [u64C_iff] at ha hb
  by_cases h0 : b = 0
  · refine (ret7 env7_ok _ _ (refDivU_sim_z a b) (all_cons (ob_eq h0) all_nil) Tryd.func63 w [.int .u64 a, .int .u64 b] (GlobOk.none w) ⟨rfl, rfl, trivial⟩).of_eq ?_
    rw [dvuQ_eq, dvuR_eq, if_pos h0, if_pos h0, wrapI]
  · refine (ret7 env7_ok _ _ (refDivU_sim_p a b) (all_cons (ob_ne h0) <| all_cons (ob_ne h0) <| all_cons (ob_neq h0) all_nil) Tryd.func63 w [.int .u64 a, .int .u64 b] (GlobOk.none w) ⟨rfl, rfl, trivial⟩).of_eq ?_
    rw [dvuQ_eq, dvuR_eq, if_neg h0, if_neg h0, wrapI, wrapI, quoU ha hb.1, remU ha.1 hb.1]
noncomputable def pRefDivU : PTab := prowD 63 (decUU fun a b => .tuple #[.int .i64 (dvuQ a b), .int .i64 (dvuR a b)])
theorem pRefDivU_ok {gl : Nat → Option (List Value)} : PTabOk Tryd.prog gl pRefDivU := rowUU fun a b ha hb w _ => refDivU_ret a b ha hb w
noncomputable def env7d : S2.Env := envq Tryd.prog (fun _ => none) noT (orP pRefAbs pRefMul) noL
theorem env7d_ok : CallOk env7d := envq_ok (.none _ _) (pRefAbs_ok.or pRefMul_ok) (.none _ _)
--@s2 refDiv_sim "(a b : Int)" "simF env7d 1000 10 [] $O 61 [[true], [true]] [.inl (.int .i64 a), .inl (.int .i64 b)]" z:t nx:ftt px:fft nn:fft xn:ftf xp:fff
theorem refDiv_sim_z (a b : Int) : simF env7d 1000 10 [] [true] 61 [[true], [true]] [.inl (.int .i64 a), .inl (.int .i64 b)] = some (false, [.inl (Value.tuple { toList := [Value.int IntKind.i64 (-1), Value.int IntKind.i64 a] })], [(b == 0, true)], []) := by kernel_rfl
theorem refDiv_sim_nx (a b : Int) : simF env7d 1000 10 [] [false, true, true] 61 [[true], [true]] [.inl (.int .i64 a), .inl (.int .i64 b)] = some (false, [.inl (Value.tuple { toList := [Value.int IntKind.i64 (IntKind.i64.wrap (IntKind.u64.wrap (0 - arZ BinOp.quo IntKind.u64 (absZ a) (absZ b)))), Value.int IntKind.i64 (IntKind.i64.wrap (IntKind.u64.wrap (0 - arZ BinOp.rem IntKind.u64 (absZ a) (absZ b))))] })], [(decide (a < 0), true), (!decide (a < 0) == decide (b < 0), true), (pre (decide (absZ b ≠ 0)), true), (pre (i64C b), true), (pre (i64C a), true), (pre (decide (absZ b ≠ 0)), true), (pre (i64C b), true), (pre (i64C a), true), (b == 0, false)], []) := by kernel_rfl
theorem refDiv_sim_px (a b : Int) : simF env7d 1000 10 [] [false, false, true] 61 [[true], [true]] [.inl (.int .i64 a), .inl (.int .i64 b)] = some (false, [.inl (Value.tuple { toList := [Value.int IntKind.i64 (IntKind.i64.wrap (arZ BinOp.quo IntKind.u64 (absZ a) (absZ b))), Value.int IntKind.i64 (IntKind.i64.wrap (IntKind.u64.wrap (0 - arZ BinOp.rem IntKind.u64 (absZ a) (absZ b))))] })], [(decide (a < 0), true), (!decide (a < 0) == decide (b < 0), false), (pre (decide (absZ b ≠ 0)), true), (pre (i64C b), true), (pre (i64C a), true), (pre (decide (absZ b ≠ 0)), true), (pre (i64C b), true), (pre (i64C a), true), (b == 0, false)], []) := by kernel_rfl
theorem refDiv_sim_nn (a b : Int) : simF env7d 1000 10 [] [false, false, true] 61 [[true], [true]] [.inl (.int .i64 a), .inl (.int .i64 b)] = some (false, [.inl (Value.tuple { toList := [Value.int IntKind.i64 (IntKind.i64.wrap (arZ BinOp.quo IntKind.u64 (absZ a) (absZ b))), Value.int IntKind.i64 (IntKind.i64.wrap (IntKind.u64.wrap (0 - arZ BinOp.rem IntKind.u64 (absZ a) (absZ b))))] })], [(decide (a < 0), true), (!decide (a < 0) == decide (b < 0), false), (pre (decide (absZ b ≠ 0)), true), (pre (i64C b), true), (pre (i64C a), true), (pre (decide (absZ b ≠ 0)), true), (pre (i64C b), true), (pre (i64C a), true), (b == 0, false)], []) := by kernel_rfl
theorem refDiv_sim_xn (a b : Int) : simF env7d 1000 10 [] [false, true, false] 61 [[true], [true]] [.inl (.int .i64 a), .inl (.int .i64 b)] = some (false, [.inl (Value.tuple { toList := [Value.int IntKind.i64 (IntKind.i64.wrap (IntKind.u64.wrap (0 - arZ BinOp.quo IntKind.u64 (absZ a) (absZ b)))), Value.int IntKind.i64 (IntKind.i64.wrap (arZ BinOp.rem IntKind.u64 (absZ a) (absZ b)))] })], [(decide (a < 0), false), (!decide (a < 0) == decide (b < 0), true), (pre (decide (absZ b ≠ 0)), true), (pre (i64C b), true), (pre (i64C a), true), (pre (decide (absZ b ≠ 0)), true), (pre (i64C b), true), (pre (i64C a), true), (b == 0, false)], []) := by kernel_rfl
theorem refDiv_sim_xp (a b : Int) : simF env7d 1000 10 [] [false, false, false] 61 [[true], [true]] [.inl (.int .i64 a), .inl (.int .i64 b)] = some (false, [.inl (Value.tuple { toList := [Value.int IntKind.i64 (IntKind.i64.wrap (arZ BinOp.quo IntKind.u64 (absZ a) (absZ b))), Value.int IntKind.i64 (IntKind.i64.wrap (arZ BinOp.rem IntKind.u64 (absZ a) (absZ b)))] })], [(decide (a < 0), false), (!decide (a < 0) == decide (b < 0), false), (pre (decide (absZ b ≠ 0)), true), (pre (i64C b), true), (pre (i64C a), true), (pre (decide (absZ b ≠ 0)), true), (pre (i64C b), true), (pre (i64C a), true), (b == 0, false)], []) := by kernel_rfl
--@s2end
theorem wrapIU (x : Int) : IntKind.i64.wrap (IntKind.u64.wrap (0 - x)) = wrap64 (-x) := by rw [wrapI, wrapU]; unfold wrap64; omega
theorem abs_parts {a b : Int} (hb : b ≠ 0) (h0 : -9223372036854775808 ≤ a ∧ a ≤ 9223372036854775807) (h1 : -9223372036854775808 ≤ b ∧ b ≤ 9223372036854775807) :
    ∃ q r : Int, arZ .quo .u64 (absZ a) (absZ b) = q ∧ arZ .rem .u64 (absZ a) (absZ b) = r ∧ 0 ≤ r ∧ r ≤ 9223372036854775807 ∧
      (((a < 0) ≠ (b < 0)) → divQ a b = wrap64 (-q)) ∧ (¬ ((a < 0) ≠ (b < 0)) → divQ a b = wrap64 q) ∧ (a < 0 → divR a b = -r) ∧ (¬ a < 0 → divR a b = r) := by
  refine ⟨((a.natAbs / b.natAbs : Nat) : Int), ((a.natAbs % b.natAbs : Nat) : Int), ?_, ?_, ?_, ?_, ?_⟩
  · rw [absZ_eq, absZ_eq]; exact up_n rfl _ (by omega)
  · rw [absZ_eq, absZ_eq]; exact lo_n rfl _
  · omega
  · have := Nat.mod_lt a.natAbs (show 0 < b.natAbs by omega)
    generalize a.natAbs % b.natAbs = r at *
    omega
  · obtain ⟨e1, e2⟩ := quot_signs a b hb
    rw [divQ_eq, divR_eq, if_neg hb, if_neg hb, e1, e2]
    exact ⟨fun h => by rw [if_pos h], fun h => by rw [if_neg h], fun h => by rw [if_pos h], fun h => by rw [if_neg h]⟩
theorem ob_ne2 {a b : Int} (h : (a < 0) ≠ (b < 0)) : (!(decide (a < 0) == decide (b < 0))) = true := by
  by_cases h1 : a < 0 <;> by_cases h2 : b < 0 <;> simp_all
theorem ob_eq2 {a b : Int} (h : ¬ (a < 0) ≠ (b < 0)) : (!(decide (a < 0) == decide (b < 0))) = false := by
  by_cases h1 : a < 0 <;> by_cases h2 : b < 0 <;> first | (simp [h1, h2]; done) | exact absurd (by simp [h1, h2]) h
theorem wrap64_in {x : Int} (h0 : -9223372036854775808 ≤ x) (h1 : x ≤ 9223372036854775807) : wrap64 x = x := by unfold wrap64; omega
theorem refDiv_ret (a b : Int) (ha : i64C a = true) (hb : i64C b = true) (w : World) : Ret Tryd.prog 61 #[.int .i64 a, .int .i64 b] (.tuple #[.int .i64 (divQ a b), .int .i64 (divR a b)]) w := by
  have ha' := i64C_iff.1 ha
  have hb' := i64C_iff.1 hb
  by_cases h0 : b = 0
  · refine (ret7 env7d_ok _ _ (refDiv_sim_z a b) (all_cons (ob_eq h0) all_nil) Tryd.func61 w [.int .i64 a, .int .i64 b] (GlobOk.none w) ⟨rfl, rfl, trivial⟩).of_eq ?_
    rw [divQ_eq, divR_eq, if_pos h0, if_pos h0]
  · have hB : absZ b ≠ 0 := by rw [absZ_eq]; omega
    obtain ⟨q, r, hq, hr, r0, r1, k1, k2, k3, k4⟩ := abs_parts h0 ha' hb'
    have T := all_cons (ob_ne hB) <| all_cons (ob_i64 hb') <| all_cons (ob_i64 ha') <| all_cons (ob_ne hB) <| all_cons (ob_i64 hb') <| all_cons (ob_i64 ha') <| all_cons (ob_neq h0) all_nil
    by_cases hx : (a < 0) ≠ (b < 0) <;> by_cases hn : a < 0
    · refine (ret7 env7d_ok _ _ (refDiv_sim_nx a b) (all_cons (ob_yes hn) <| all_cons (ob_ne2 hx) T) Tryd.func61 w [.int .i64 a, .int .i64 b] (GlobOk.none w) ⟨rfl, rfl, trivial⟩).of_eq ?_
      rw [hq, hr, k1 hx, k3 hn, wrapIU, wrapIU, wrap64_in (x := -r) (by omega) (by omega)]
    · refine (ret7 env7d_ok _ _ (refDiv_sim_xn a b) (all_cons (ob_no hn) <| all_cons (ob_ne2 hx) T) Tryd.func61 w [.int .i64 a, .int .i64 b] (GlobOk.none w) ⟨rfl, rfl, trivial⟩).of_eq ?_
      rw [hq, hr, k1 hx, k4 hn, wrapIU, wrapI, wrap64_in (x := r) (by omega) (by omega)]
    · refine (ret7 env7d_ok _ _ (refDiv_sim_px a b) (all_cons (ob_yes hn) <| all_cons (ob_eq2 hx) T) Tryd.func61 w [.int .i64 a, .int .i64 b] (GlobOk.none w) ⟨rfl, rfl, trivial⟩).of_eq ?_
      rw [hq, hr, k2 hx, k3 hn, wrapI, wrapIU, wrap64_in (x := -r) (by omega) (by omega)]
    · refine (ret7 env7d_ok _ _ (refDiv_sim_xp a b) (all_cons (ob_no hn) <| all_cons (ob_eq2 hx) T) Tryd.func61 w [.int .i64 a, .int .i64 b] (GlobOk.none w) ⟨rfl, rfl, trivial⟩).of_eq ?_
      rw [hq, hr, k2 hx, k4 hn, wrapI, wrapI, wrap64_in (x := r) (by omega) (by omega)]
noncomputable def pRefDiv : PTab := prowD 61 (decII7 fun a b => .tuple #[.int .i64 (divQ a b), .int .i64 (divR a b)])
theorem pRefDiv_ok {gl : Nat → Option (List Value)} : PTabOk Tryd.prog gl pRefDiv := rowII7 fun a b ha hb w _ => refDiv_ret a b ha hb w
--@s2 refUpSS_sim "(a b : Int)" "simF env7d 1000 10 [] $O 65 [[true], [true], [], []] [.inl (.int .i64 a), .inl (.int .i64 b), .inl (.bool true), .inl (.bool true)]" nn:tt npz:tft npn:tff pnz:ftt pnn:ftf pp:ff
theorem refUpSS_sim_nn (a b : Int) : simF env7d 1000 10 [] [true, true] 65 [[true], [true], [], []] [.inl (.int .i64 a), .inl (.int .i64 b), .inl (.bool true), .inl (.bool true)] = some (false, [.inl (Value.int IntKind.i64 (IntKind.i64.wrap (mulQ (absZ a) (absZ b))))], [(pre (u64C (absZ a) && u64C (absZ b)), true), (pre (i64C b), true), (decide (b < 0), true), (pre (i64C a), true), (decide (a < 0), true)], []) := by kernel_rfl
theorem refUpSS_sim_npz (a b : Int) : simF env7d 1000 10 [] [true, false, true] 65 [[true], [true], [], []] [.inl (.int .i64 a), .inl (.int .i64 b), .inl (.bool true), .inl (.bool true)] = some (false, [.inl (Value.int IntKind.i64 (IntKind.i64.wrap (arZ BinOp.add IntKind.u64 (IntKind.u64.wrap ↑(BitVec.ofInt 64 18446744073709551615 ^^^ BitVec.ofInt 64 (mulQ (absZ a) (IntKind.u64.wrap b))).toNat) 1)))], [(mulP (absZ a) (IntKind.u64.wrap b) == 0, true), (pre (u64C (absZ a) && u64C (IntKind.u64.wrap b)), true), (decide (b < 0), false), (pre (i64C a), true), (decide (a < 0), true)], []) := by kernel_rfl
theorem refUpSS_sim_npn (a b : Int) : simF env7d 1000 10 [] [true, false, false] 65 [[true], [true], [], []] [.inl (.int .i64 a), .inl (.int .i64 b), .inl (.bool true), .inl (.bool true)] = some (false, [.inl (Value.int IntKind.i64 (IntKind.i64.wrap (IntKind.u64.wrap ↑(BitVec.ofInt 64 18446744073709551615 ^^^ BitVec.ofInt 64 (mulQ (absZ a) (IntKind.u64.wrap b))).toNat)))], [(mulP (absZ a) (IntKind.u64.wrap b) == 0, false), (pre (u64C (absZ a) && u64C (IntKind.u64.wrap b)), true), (decide (b < 0), false), (pre (i64C a), true), (decide (a < 0), true)], []) := by kernel_rfl
theorem refUpSS_sim_pnz (a b : Int) : simF env7d 1000 10 [] [false, true, true] 65 [[true], [true], [], []] [.inl (.int .i64 a), .inl (.int .i64 b), .inl (.bool true), .inl (.bool true)] = some (false, [.inl (Value.int IntKind.i64 (IntKind.i64.wrap (arZ BinOp.add IntKind.u64 (IntKind.u64.wrap ↑(BitVec.ofInt 64 18446744073709551615 ^^^ BitVec.ofInt 64 (mulQ (IntKind.u64.wrap a) (absZ b))).toNat) 1)))], [(mulP (IntKind.u64.wrap a) (absZ b) == 0, true), (pre (u64C (IntKind.u64.wrap a) && u64C (absZ b)), true), (pre (i64C b), true), (decide (b < 0), true), (decide (a < 0), false)], []) := by kernel_rfl
theorem refUpSS_sim_pnn (a b : Int) : simF env7d 1000 10 [] [false, true, false] 65 [[true], [true], [], []] [.inl (.int .i64 a), .inl (.int .i64 b), .inl (.bool true), .inl (.bool true)] = some (false, [.inl (Value.int IntKind.i64 (IntKind.i64.wrap (IntKind.u64.wrap ↑(BitVec.ofInt 64 18446744073709551615 ^^^ BitVec.ofInt 64 (mulQ (IntKind.u64.wrap a) (absZ b))).toNat)))], [(mulP (IntKind.u64.wrap a) (absZ b) == 0, false), (pre (u64C (IntKind.u64.wrap a) && u64C (absZ b)), true), (pre (i64C b), true), (decide (b < 0), true), (decide (a < 0), false)], []) := by kernel_rfl
theorem refUpSS_sim_pp (a b : Int) : simF env7d 1000 10 [] [false, false] 65 [[true], [true], [], []] [.inl (.int .i64 a), .inl (.int .i64 b), .inl (.bool true), .inl (.bool true)] = some (false, [.inl (Value.int IntKind.i64 (IntKind.i64.wrap (mulQ (IntKind.u64.wrap a) (IntKind.u64.wrap b))))], [(pre (u64C (IntKind.u64.wrap a) && u64C (IntKind.u64.wrap b)), true), (decide (b < 0), false), (decide (a < 0), false)], []) := by kernel_rfl
--@s2end
--@s2 refUpSU_sim "(a b : Int)" "simF env7d 1000 10 [] $O 65 [[true], [true], [], []] [.inl (.int .i64 a), .inl (.int .i64 b), .inl (.bool true), .inl (.bool false)]" nz:tt nn:tf p:f
theorem refUpSU_sim_nz (a b : Int) : simF env7d 1000 10 [] [true, true] 65 [[true], [true], [], []] [.inl (.int .i64 a), .inl (.int .i64 b), .inl (.bool true), .inl (.bool false)] = some (false, [.inl (Value.int IntKind.i64 (IntKind.i64.wrap (arZ BinOp.add IntKind.u64 (IntKind.u64.wrap ↑(BitVec.ofInt 64 18446744073709551615 ^^^ BitVec.ofInt 64 (mulQ (absZ a) (IntKind.u64.wrap b))).toNat) 1)))], [(mulP (absZ a) (IntKind.u64.wrap b) == 0, true), (pre (u64C (absZ a) && u64C (IntKind.u64.wrap b)), true), (pre (i64C a), true), (decide (a < 0), true)], []) := by kernel_rfl
theorem refUpSU_sim_nn (a b : Int) : simF env7d 1000 10 [] [true, false] 65 [[true], [true], [], []] [.inl (.int .i64 a), .inl (.int .i64 b), .inl (.bool true), .inl (.bool false)] = some (false, [.inl (Value.int IntKind.i64 (IntKind.i64.wrap (IntKind.u64.wrap ↑(BitVec.ofInt 64 18446744073709551615 ^^^ BitVec.ofInt 64 (mulQ (absZ a) (IntKind.u64.wrap b))).toNat)))], [(mulP (absZ a) (IntKind.u64.wrap b) == 0, false), (pre (u64C (absZ a) && u64C (IntKind.u64.wrap b)), true), (pre (i64C a), true), (decide (a < 0), true)], []) := by kernel_rfl
theorem refUpSU_sim_p (a b : Int) : simF env7d 1000 10 [] [false] 65 [[true], [true], [], []] [.inl (.int .i64 a), .inl (.int .i64 b), .inl (.bool true), .inl (.bool false)] = some (false, [.inl (Value.int IntKind.i64 (IntKind.i64.wrap (mulQ (IntKind.u64.wrap a) (IntKind.u64.wrap b))))], [(pre (u64C (IntKind.u64.wrap a) && u64C (IntKind.u64.wrap b)), true), (decide (a < 0), false)], []) := by kernel_rfl
--@s2end
--@s2 refUpUU_sim "(a b : Int)" "simF env7d 1000 10 [] $O 65 [[true], [true], [], []] [.inl (.int .i64 a), .inl (.int .i64 b), .inl (.bool false), .inl (.bool false)]" p:
theorem refUpUU_sim_p (a b : Int) : simF env7d 1000 10 [] [] 65 [[true], [true], [], []] [.inl (.int .i64 a), .inl (.int .i64 b), .inl (.bool false), .inl (.bool false)] = some (false, [.inl (Value.int IntKind.i64 (IntKind.i64.wrap (mulQ (IntKind.u64.wrap a) (IntKind.u64.wrap b))))], [(pre (u64C (IntKind.u64.wrap a) && u64C (IntKind.u64.wrap b)), true)], []) := by kernel_rfl
--@s2end
theorem uppSS_ex : ∃ f : Int → Int → Int, ∀ a b, f a b = wrap64 (a * b / 18446744073709551616) := ⟨_, fun _ _ => rfl⟩
/-- The upper 64 bits of a product, both with a sign. -/
noncomputable def uppSS : Int → Int → Int := Classical.choose uppSS_ex
theorem uppSS_eq (a b : Int) : uppSS a b = wrap64 (a * b / 18446744073709551616) := Classical.choose_spec uppSS_ex a b
theorem uppSU_ex : ∃ f : Int → Int → Int, ∀ a b, f a b = wrap64 (a * (b % 18446744073709551616) / 18446744073709551616) := ⟨_, fun _ _ => rfl⟩
/-- .. the first with a sign. -/
noncomputable def uppSU : Int → Int → Int := Classical.choose uppSU_ex
theorem uppSU_eq (a b : Int) : uppSU a b = wrap64 (a * (b % 18446744073709551616) / 18446744073709551616) := Classical.choose_spec uppSU_ex a b
theorem uppUU_ex : ∃ f : Int → Int → Int, ∀ a b, f a b = wrap64 (a % 18446744073709551616 * (b % 18446744073709551616) / 18446744073709551616) := ⟨_, fun _ _ => rfl⟩
/-- .. both without. -/
noncomputable def uppUU : Int → Int → Int := Classical.choose uppUU_ex
theorem uppUU_eq (a b : Int) : uppUU a b = wrap64 (a % 18446744073709551616 * (b % 18446744073709551616) / 18446744073709551616) := Classical.choose_spec uppUU_ex a b
theorem not_u (h : Int) (h0 : 0 ≤ h) (h1 : h < 18446744073709551616) : ((BitVec.ofInt 64 18446744073709551615 ^^^ BitVec.ofInt 64 h).toNat : Int) = 18446744073709551615 - h := by
  obtain ⟨n, rfl⟩ := Int.eq_ofNat_of_zero_le h0
  have e : BitVec.ofInt 64 18446744073709551615 = BitVec.allOnes 64 := by decide
  rw [e, BitVec.xor_comm, BitVec.xor_allOnes, BitVec.toNat_not, BitVec.ofInt_natCast, BitVec.toNat_ofNat]
  have : n % 2 ^ 64 = n := Nat.mod_eq_of_lt (by omega)
  rw [this]
  omega
theorem up_turn {P : Int} (h0 : 0 ≤ P) (h1 : P / 18446744073709551616 < 18446744073709551616) :
    (P % 18446744073709551616 ≠ 0 → IntKind.i64.wrap (IntKind.u64.wrap ((BitVec.ofInt 64 18446744073709551615 ^^^ BitVec.ofInt 64 (P / 18446744073709551616)).toNat : Int)) = wrap64 (-P / 18446744073709551616)) ∧
    (P % 18446744073709551616 = 0 → IntKind.i64.wrap (arZ BinOp.add IntKind.u64 (IntKind.u64.wrap ((BitVec.ofInt 64 18446744073709551615 ^^^ BitVec.ofInt 64 (P / 18446744073709551616)).toNat : Int)) 1) = wrap64 (-P / 18446744073709551616)) := by
  rw [not_u _ (by omega) h1, arZ_eq, wrapI, wrapI, wrapU]
  constructor <;> intro h
  · unfold wrap64; omega
  · show wrap64 (((18446744073709551615 - P / 18446744073709551616) % 18446744073709551616 + 1) % 18446744073709551616) = _
    unfold wrap64; omega
theorem mul_lt {x y : Int} (x0 : 0 ≤ x) (x1 : x < 18446744073709551616) (y0 : 0 ≤ y) (y1 : y < 18446744073709551616) : 0 ≤ x * y ∧ x * y / 18446744073709551616 < 18446744073709551616 := by
  obtain ⟨x, rfl⟩ := Int.eq_ofNat_of_zero_le x0
  obtain ⟨y, rfl⟩ := Int.eq_ofNat_of_zero_le y0
  have := Nat.mul_lt_mul'' (show x < 18446744073709551616 by omega) (show y < 18446744073709551616 by omega)
  rw [← Int.natCast_mul]
  generalize x * y = p at *
  omega
theorem absZ_rng {a : Int} (h : -9223372036854775808 ≤ a ∧ a ≤ 9223372036854775807) : 0 ≤ absZ a ∧ absZ a < 18446744073709551616 := by rw [absZ_eq]; omega
theorem wrapU_rng (a : Int) : 0 ≤ IntKind.u64.wrap a ∧ IntKind.u64.wrap a < 18446744073709551616 := by rw [wrapU]; omega
theorem ob_uu {x y : Int} (hx : 0 ≤ x ∧ x < 18446744073709551616) (hy : 0 ≤ y ∧ y < 18446744073709551616) : pre (u64C x && u64C y) = true := by unfold pre; rw [u64C_iff.2 hx, u64C_iff.2 hy]; rfl
theorem refUpSS_ret (a b : Int) (ha : i64C a = true) (hb : i64C b = true) (w : World) : Ret Tryd.prog 65 #[.int .i64 a, .int .i64 b, .bool true, .bool true] (.int .i64 (uppSS a b)) w := by
  have ha' := i64C_iff.1 ha
  have hb' := i64C_iff.1 hb
  rw [uppSS_eq]
  by_cases hn : a < 0 <;> by_cases hm : b < 0
  · refine (ret7 env7d_ok _ _ (refUpSS_sim_nn a b) (all_cons (ob_uu (absZ_rng ha') (absZ_rng hb')) <| all_cons (ob_i64 hb') <| all_cons (ob_yes hm) <| all_cons (ob_i64 ha') <| all_cons (ob_yes hn) all_nil) Tryd.func65 w [.int .i64 a, .int .i64 b, .bool true, .bool true] (GlobOk.none w) ⟨rfl, rfl, rfl, rfl, trivial⟩).of_eq ?_
    rw [mulQ_eq, wrapI, absZ_eq, absZ_eq, show ((a.natAbs : Nat) : Int) = -a by omega, show ((b.natAbs : Nat) : Int) = -b by omega, Int.neg_mul_neg]
  · obtain ⟨g0, g1⟩ := mul_lt (absZ_rng ha').1 (absZ_rng ha').2 (wrapU_rng b).1 (wrapU_rng b).2
    obtain ⟨t1, t2⟩ := up_turn g0 g1
    have e : -(absZ a * IntKind.u64.wrap b) = a * b := by
      rw [absZ_eq, show ((a.natAbs : Nat) : Int) = -a by omega, wrapU, show b % 18446744073709551616 = b by omega, Int.neg_mul, Int.neg_neg]
    rw [e] at t1 t2
    have T := all_cons (ob_uu (absZ_rng ha') (wrapU_rng b)) <| all_cons (ob_no hm) <| all_cons (ob_i64 ha') <| all_cons (ob_yes hn) all_nil
    by_cases hz : absZ a * IntKind.u64.wrap b % 18446744073709551616 = 0
    · refine (ret7 env7d_ok _ _ (refUpSS_sim_npz a b) (all_cons (ob_eq (by rw [mulP_eq]; exact hz)) T) Tryd.func65 w [.int .i64 a, .int .i64 b, .bool true, .bool true] (GlobOk.none w) ⟨rfl, rfl, rfl, rfl, trivial⟩).of_eq ?_
      rw [mulQ_eq, t2 hz]
    · refine (ret7 env7d_ok _ _ (refUpSS_sim_npn a b) (all_cons (ob_neq (by rw [mulP_eq]; exact hz)) T) Tryd.func65 w [.int .i64 a, .int .i64 b, .bool true, .bool true] (GlobOk.none w) ⟨rfl, rfl, rfl, rfl, trivial⟩).of_eq ?_
      rw [mulQ_eq, t1 hz]
  · obtain ⟨g0, g1⟩ := mul_lt (wrapU_rng a).1 (wrapU_rng a).2 (absZ_rng hb').1 (absZ_rng hb').2
    obtain ⟨t1, t2⟩ := up_turn g0 g1
    have e : -(IntKind.u64.wrap a * absZ b) = a * b := by
      rw [absZ_eq, show ((b.natAbs : Nat) : Int) = -b by omega, wrapU, show a % 18446744073709551616 = a by omega, Int.mul_neg, Int.neg_neg]
    rw [e] at t1 t2
    have T := all_cons (ob_uu (wrapU_rng a) (absZ_rng hb')) <| all_cons (ob_i64 hb') <| all_cons (ob_yes hm) <| all_cons (ob_no hn) all_nil
    by_cases hz : IntKind.u64.wrap a * absZ b % 18446744073709551616 = 0
    · refine (ret7 env7d_ok _ _ (refUpSS_sim_pnz a b) (all_cons (ob_eq (by rw [mulP_eq]; exact hz)) T) Tryd.func65 w [.int .i64 a, .int .i64 b, .bool true, .bool true] (GlobOk.none w) ⟨rfl, rfl, rfl, rfl, trivial⟩).of_eq ?_
      rw [mulQ_eq, t2 hz]
    · refine (ret7 env7d_ok _ _ (refUpSS_sim_pnn a b) (all_cons (ob_neq (by rw [mulP_eq]; exact hz)) T) Tryd.func65 w [.int .i64 a, .int .i64 b, .bool true, .bool true] (GlobOk.none w) ⟨rfl, rfl, rfl, rfl, trivial⟩).of_eq ?_
      rw [mulQ_eq, t1 hz]
  · refine (ret7 env7d_ok _ _ (refUpSS_sim_pp a b) (all_cons (ob_uu (wrapU_rng a) (wrapU_rng b)) <| all_cons (ob_no hm) <| all_cons (ob_no hn) all_nil) Tryd.func65 w [.int .i64 a, .int .i64 b, .bool true, .bool true] (GlobOk.none w) ⟨rfl, rfl, rfl, rfl, trivial⟩).of_eq ?_
    rw [mulQ_eq, wrapI, wrapU, wrapU, show a % 18446744073709551616 = a by omega, show b % 18446744073709551616 = b by omega]
theorem refUpSU_ret (a b : Int) (ha : i64C a = true) (hb : i64C b = true) (w : World) : Ret Tryd.prog 65 #[.int .i64 a, .int .i64 b, .bool true, .bool false] (.int .i64 (uppSU a b)) w := by
  have ha' := i64C_iff.1 ha
  rw [uppSU_eq]
  by_cases hn : a < 0
  · obtain ⟨g0, g1⟩ := mul_lt (absZ_rng ha').1 (absZ_rng ha').2 (wrapU_rng b).1 (wrapU_rng b).2
    obtain ⟨t1, t2⟩ := up_turn g0 g1
    have e : -(absZ a * IntKind.u64.wrap b) = a * (b % 18446744073709551616) := by
      rw [absZ_eq, show ((a.natAbs : Nat) : Int) = -a by omega, wrapU, Int.neg_mul, Int.neg_neg]
    rw [e] at t1 t2
    have T := all_cons (ob_uu (absZ_rng ha') (wrapU_rng b)) <| all_cons (ob_i64 ha') <| all_cons (ob_yes hn) all_nil
    by_cases hz : absZ a * IntKind.u64.wrap b % 18446744073709551616 = 0
    · refine (ret7 env7d_ok _ _ (refUpSU_sim_nz a b) (all_cons (ob_eq (by rw [mulP_eq]; exact hz)) T) Tryd.func65 w [.int .i64 a, .int .i64 b, .bool true, .bool false] (GlobOk.none w) ⟨rfl, rfl, rfl, rfl, trivial⟩).of_eq ?_
      rw [mulQ_eq, t2 hz]
    · refine (ret7 env7d_ok _ _ (refUpSU_sim_nn a b) (all_cons (ob_neq (by rw [mulP_eq]; exact hz)) T) Tryd.func65 w [.int .i64 a, .int .i64 b, .bool true, .bool false] (GlobOk.none w) ⟨rfl, rfl, rfl, rfl, trivial⟩).of_eq ?_
      rw [mulQ_eq, t1 hz]
  · refine (ret7 env7d_ok _ _ (refUpSU_sim_p a b) (all_cons (ob_uu (wrapU_rng a) (wrapU_rng b)) <| all_cons (ob_no hn) all_nil) Tryd.func65 w [.int .i64 a, .int .i64 b, .bool true, .bool false] (GlobOk.none w) ⟨rfl, rfl, rfl, rfl, trivial⟩).of_eq ?_
    rw [mulQ_eq, wrapI, wrapU, wrapU, show a % 18446744073709551616 = a by omega]
theorem refUpUU_ret (a b : Int) (w : World) : Ret Tryd.prog 65 #[.int .i64 a, .int .i64 b, .bool false, .bool false] (.int .i64 (uppUU a b)) w := by
  refine (ret7 env7d_ok _ _ (refUpUU_sim_p a b) (all_cons (ob_uu (wrapU_rng a) (wrapU_rng b)) all_nil) Tryd.func65 w [.int .i64 a, .int .i64 b, .bool false, .bool false] (GlobOk.none w) ⟨rfl, rfl, rfl, rfl, trivial⟩).of_eq ?_
  rw [uppUU_eq, mulQ_eq, wrapI, wrapU, wrapU]
noncomputable def decUpp : List Value → Option (Value × Bool)
  | [.int .i64 a, .int .i64 b, .bool true, .bool true] => some (.int .i64 (uppSS a b), pre (i64C a && i64C b))
  | [.int .i64 a, .int .i64 b, .bool true, .bool false] => some (.int .i64 (uppSU a b), pre (i64C a && i64C b))
  | [.int .i64 a, .int .i64 b, .bool false, .bool false] => some (.int .i64 (uppUU a b), pre (i64C a && i64C b))
  | _ => none
noncomputable def pRefUpper : PTab := prowD 65 decUpp
theorem pRefUpper_ok {gl : Nat → Option (List Value)} : PTabOk Tryd.prog gl pRefUpper := .rowD fun args u hd w hG => by
  unfold decUpp at hd
  split at hd <;> first | (cases hd; done) | skip
  all_goals
    simp only [Option.some.injEq, Prod.mk.injEq, pre, Bool.and_eq_true] at hd
    obtain ⟨rfl, h1, h2⟩ := hd
  · exact refUpSS_ret _ _ h1 h2 w
  · exact refUpSU_ret _ _ h1 h2 w
  · exact refUpUU_ret _ _ w
end Go.Proofs.YtpmjfpdogbcigaaDoor
