/- Contracts of package alu (layer 7). -/
import Derived.Test.YtcofdcpadbpmnaaEval07
namespace Go.Proofs.Ytcofdcpadbpmnaa
open Go.RowKit Sim S2
set_option linter.unusedVariables false
set_option linter.unusedSimpArgs false

/-- An environment in which sums are cut as the machine cuts them. -/
noncomputable def envw (P : Program) (gl : Nat → Option (List Value)) (c : Tab) (pc : PTab) (lc : LTab) : S2.Env := { envq P gl c pc lc with nowrap := false }
theorem envw_ok {P : Program} {gl : Nat → Option (List Value)} {c : Tab} {pc : PTab} {lc : LTab} (h1 : TabOk P gl c) (h2 : PTabOk P gl pc) (h3 : LTabOk P gl lc) : CallOk (envw P gl c pc lc) := envq_ok h1 h2 h3
noncomputable def env7w : S2.Env := envw Try.prog (fun _ => none) noT noP noL
theorem env7w_ok : CallOk env7w := envw_ok (.none _ _) (.none _ _) (.none _ _)
theorem huZ_ex : ∃ f : Int → Int, ∀ v, f v = v % 4294967296 := ⟨_, fun _ => rfl⟩
noncomputable def huZ : Int → Int := Classical.choose huZ_ex
theorem huZ_eq (v : Int) : huZ v = v % 4294967296 := Classical.choose_spec huZ_ex v
theorem wrap32_eq7 (v : Int) : IntKind.i32.wrap v = wrap32 v := by rw [IntKind.wrap_i32]; unfold wrap32; omega
--@s2 aHalf_sim "(v : Int)" "simF env7w 1000 10 [] $O 38 [[true]] [.inl (.int .i64 v)]" p:
theorem aHalf_sim_p (v : Int) : simF env7w 1000 10 [] [] 38 [[true]] [.inl (.int .i64 v)] = some (false, [Sum.inl (Value.int IntKind.i64 (IntKind.i64.wrap (IntKind.i32.wrap v)))], [], []) := by kernel_rfl
--@s2end
noncomputable def tHalf7 : Tab := row 38 decI fun x => .int .i64 (hafZ x)
theorem tHalf7_ok {gl : Nat → Option (List Value)} : TabOk Try.prog gl tHalf7 := tabI fun v w _ => by
  refine (ret7 env7w_ok _ _ (aHalf_sim_p v) all_nil Try.func38 w [.int .i64 v] (GlobOk.none w) ⟨rfl, trivial⟩).of_eq ?_
  rw [hafZ_eq, wrapI, wrap32_eq7]
  congr 1
  unfold wrap64 wrap32; omega
--@s2 aHalfU_sim "(v : Int)" "simF env7w 1000 10 [] $O 37 [[true]] [.inl (.int .i64 v)]" p:
theorem aHalfU_sim_p (v : Int) : simF env7w 1000 10 [] [] 37 [[true]] [.inl (.int .i64 v)] = some (false, [Sum.inl (Value.int IntKind.i64 (IntKind.i64.wrap (IntKind.u32.wrap v)))], [], []) := by kernel_rfl
--@s2end
noncomputable def tHalfU7 : Tab := row 37 decI fun x => .int .i64 (huZ x)
theorem tHalfU7_ok {gl : Nat → Option (List Value)} : TabOk Try.prog gl tHalfU7 := tabI fun v w _ => by
  refine (ret7 env7w_ok _ _ (aHalfU_sim_p v) all_nil Try.func37 w [.int .i64 v] (GlobOk.none w) ⟨rfl, trivial⟩).of_eq ?_
  rw [huZ_eq, wrapI, show IntKind.u32.wrap v = v % 4294967296 from rfl]
  congr 1
  unfold wrap64; omega
--@s2 aQuo_sim "(a b : Int)" "simF env7w 1000 10 [] $O 33 [[true], [true]] [.inl (.int .i64 a), .inl (.int .i64 b)]" z:t p:f
theorem aQuo_sim_z (a b : Int) : simF env7w 1000 10 [] [true] 33 [[true], [true]] [.inl (.int .i64 a), .inl (.int .i64 b)] = some (false, [Sum.inl (Value.int IntKind.i64 (-1))], [(b == 0, true)], []) := by kernel_rfl
theorem aQuo_sim_p (a b : Int) : simF env7w 1000 10 [] [false] 33 [[true], [true]] [.inl (.int .i64 a), .inl (.int .i64 b)] = some (false, [Sum.inl (Value.int IntKind.i64 (arZ BinOp.quo IntKind.i64 a b))], [(pre (decide (b ≠ 0)), true), (b == 0, false)], []) := by kernel_rfl
--@s2end
noncomputable def tQuo7 : Tab := row 33 decII fun x => .int .i64 (divQ x.1 x.2)
theorem tQuo7_ok {gl : Nat → Option (List Value)} : TabOk Try.prog gl tQuo7 := tabII fun a b w _ => by
  by_cases h0 : b = 0
  · refine (ret7 env7w_ok _ _ (aQuo_sim_z a b) (all_cons (ob_eq h0) all_nil) Try.func33 w [.int .i64 a, .int .i64 b] (GlobOk.none w) ⟨rfl, rfl, trivial⟩).of_eq ?_
    rw [divQ_eq, if_pos h0]
  · refine (ret7 env7w_ok _ _ (aQuo_sim_p a b) (all_cons (ob_ne h0) <| all_cons (ob_neq h0) all_nil) Try.func33 w [.int .i64 a, .int .i64 b] (GlobOk.none w) ⟨rfl, rfl, trivial⟩).of_eq ?_
    rw [divQ_eq, if_neg h0, arZ_eq, ← wrapI]; rfl
--@s2 aRem_sim "(a b : Int)" "simF env7w 1000 10 [] $O 35 [[true], [true]] [.inl (.int .i64 a), .inl (.int .i64 b)]" z:t p:f
theorem aRem_sim_z (a b : Int) : simF env7w 1000 10 [] [true] 35 [[true], [true]] [.inl (.int .i64 a), .inl (.int .i64 b)] = some (false, [Sum.inl (Value.int IntKind.i64 a)], [(b == 0, true)], []) := by kernel_rfl
theorem aRem_sim_p (a b : Int) : simF env7w 1000 10 [] [false] 35 [[true], [true]] [.inl (.int .i64 a), .inl (.int .i64 b)] = some (false, [Sum.inl (Value.int IntKind.i64 (arZ BinOp.rem IntKind.i64 a b))], [(pre (decide (b ≠ 0)), true), (b == 0, false)], []) := by kernel_rfl
--@s2end
noncomputable def tRem7 : Tab := row 35 decII fun x => .int .i64 (divR x.1 x.2)
theorem tRem7_ok {gl : Nat → Option (List Value)} : TabOk Try.prog gl tRem7 := tabII fun a b w _ => by
  by_cases h0 : b = 0
  · refine (ret7 env7w_ok _ _ (aRem_sim_z a b) (all_cons (ob_eq h0) all_nil) Try.func35 w [.int .i64 a, .int .i64 b] (GlobOk.none w) ⟨rfl, rfl, trivial⟩).of_eq ?_
    rw [divR_eq, if_pos h0]
  · refine (ret7 env7w_ok _ _ (aRem_sim_p a b) (all_cons (ob_ne h0) <| all_cons (ob_neq h0) all_nil) Try.func35 w [.int .i64 a, .int .i64 b] (GlobOk.none w) ⟨rfl, rfl, trivial⟩).of_eq ?_
    rw [divR_eq, if_neg h0, arZ_eq]; rfl
--@s2 aQuoU_sim "(a b : Int)" "simF env7w 1000 10 [] $O 34 [[true], [true]] [.inl (.int .i64 a), .inl (.int .i64 b)]" z:t p:f
theorem aQuoU_sim_z (a b : Int) : simF env7w 1000 10 [] [true] 34 [[true], [true]] [.inl (.int .i64 a), .inl (.int .i64 b)] = some (false, [Sum.inl (Value.int IntKind.i64 (-1))], [(b == 0, true)], []) := by kernel_rfl
theorem aQuoU_sim_p (a b : Int) : simF env7w 1000 10 [] [false] 34 [[true], [true]] [.inl (.int .i64 a), .inl (.int .i64 b)] = some (false, [Sum.inl (Value.int IntKind.i64 (IntKind.i64.wrap (arZ BinOp.quo IntKind.u64 (IntKind.u64.wrap a) (IntKind.u64.wrap b))))], [(pre (decide (IntKind.u64.wrap b ≠ 0)), true), (b == 0, false)], []) := by kernel_rfl
--@s2end
noncomputable def pQuoU7 : PTab := prowD 34 (decII7 fun a b => .int .i64 (dvuQ (IntKind.u64.wrap a) (IntKind.u64.wrap b)))
theorem wrapU_zero {b : Int} (hb : -9223372036854775808 ≤ b ∧ b ≤ 9223372036854775807) : IntKind.u64.wrap b = 0 ↔ b = 0 := by rw [wrapU]; omega
theorem pQuoU7_ok {gl : Nat → Option (List Value)} : PTabOk Try.prog gl pQuoU7 := rowII7 fun a b ha hb w _ => by
  have hz := wrapU_zero (i64C_iff.1 hb)
  by_cases h0 : b = 0
  · refine (ret7 env7w_ok _ _ (aQuoU_sim_z a b) (all_cons (ob_eq h0) all_nil) Try.func34 w [.int .i64 a, .int .i64 b] (GlobOk.none w) ⟨rfl, rfl, trivial⟩).of_eq ?_
    rw [dvuQ_eq, if_pos (hz.2 h0)]
  · have h1 : IntKind.u64.wrap b ≠ 0 := fun h => h0 (hz.1 h)
    refine (ret7 env7w_ok _ _ (aQuoU_sim_p a b) (all_cons (ob_ne h1) <| all_cons (ob_neq h0) all_nil) Try.func34 w [.int .i64 a, .int .i64 b] (GlobOk.none w) ⟨rfl, rfl, trivial⟩).of_eq ?_
    rw [dvuQ_eq, if_neg h1, quoU (wrapU_rng a) (wrapU_rng b).1, wrapI]
--@s2 aRemU_sim "(a b : Int)" "simF env7w 1000 10 [] $O 36 [[true], [true]] [.inl (.int .i64 a), .inl (.int .i64 b)]" z:t p:f
theorem aRemU_sim_z (a b : Int) : simF env7w 1000 10 [] [true] 36 [[true], [true]] [.inl (.int .i64 a), .inl (.int .i64 b)] = some (false, [Sum.inl (Value.int IntKind.i64 a)], [(b == 0, true)], []) := by kernel_rfl
theorem aRemU_sim_p (a b : Int) : simF env7w 1000 10 [] [false] 36 [[true], [true]] [.inl (.int .i64 a), .inl (.int .i64 b)] = some (false, [Sum.inl (Value.int IntKind.i64 (IntKind.i64.wrap (arZ BinOp.rem IntKind.u64 (IntKind.u64.wrap a) (IntKind.u64.wrap b))))], [(pre (decide (IntKind.u64.wrap b ≠ 0)), true), (b == 0, false)], []) := by kernel_rfl
--@s2end
noncomputable def pRemU7 : PTab := prowD 36 (decII7 fun a b => .int .i64 (dvuR (IntKind.u64.wrap a) (IntKind.u64.wrap b)))
theorem pRemU7_ok {gl : Nat → Option (List Value)} : PTabOk Try.prog gl pRemU7 := rowII7 fun a b ha hb w _ => by
  have ha' := i64C_iff.1 ha
  have hz := wrapU_zero (i64C_iff.1 hb)
  by_cases h0 : b = 0
  · refine (ret7 env7w_ok _ _ (aRemU_sim_z a b) (all_cons (ob_eq h0) all_nil) Try.func36 w [.int .i64 a, .int .i64 b] (GlobOk.none w) ⟨rfl, rfl, trivial⟩).of_eq ?_
    rw [dvuR_eq, if_pos (hz.2 h0), wrapU]
    congr 1
    unfold wrap64; omega
  · have h1 : IntKind.u64.wrap b ≠ 0 := fun h => h0 (hz.1 h)
    refine (ret7 env7w_ok _ _ (aRemU_sim_p a b) (all_cons (ob_ne h1) <| all_cons (ob_neq h0) all_nil) Try.func36 w [.int .i64 a, .int .i64 b] (GlobOk.none w) ⟨rfl, rfl, trivial⟩).of_eq ?_
    rw [dvuR_eq, if_neg h1, remU (wrapU_rng a).1 (wrapU_rng b).1, wrapI]
--@s2 mul64_sim "(a b : Int)" "simF env7w 1000 10 [] $O 49 [[true], [true]] [.inl (.int .u64 a), .inl (.int .u64 b)]" p:
theorem mul64_sim_p (a b : Int) : simF env7w 1000 10 [] [] 49 [[true], [true]] [.inl (.int .u64 a), .inl (.int .u64 b)] = some (false, [Sum.inl (Value.tuple { toList := [Value.int IntKind.u64 (arZ BinOp.add IntKind.u64 (arZ BinOp.add IntKind.u64 (arZ BinOp.mul IntKind.u64 (arZ BinOp.shr IntKind.u64 a 32) (arZ BinOp.shr IntKind.u64 b 32)) (arZ BinOp.shr IntKind.u64 (arZ BinOp.add IntKind.u64 (arZ BinOp.mul IntKind.u64 (arZ BinOp.shr IntKind.u64 a 32) (arZ BinOp.and IntKind.u64 b 4294967295)) (arZ BinOp.shr IntKind.u64 (arZ BinOp.mul IntKind.u64 (arZ BinOp.and IntKind.u64 a 4294967295) (arZ BinOp.and IntKind.u64 b 4294967295)) 32)) 32)) (arZ BinOp.shr IntKind.u64 (arZ BinOp.add IntKind.u64 (arZ BinOp.and IntKind.u64 (arZ BinOp.add IntKind.u64 (arZ BinOp.mul IntKind.u64 (arZ BinOp.shr IntKind.u64 a 32) (arZ BinOp.and IntKind.u64 b 4294967295)) (arZ BinOp.shr IntKind.u64 (arZ BinOp.mul IntKind.u64 (arZ BinOp.and IntKind.u64 a 4294967295) (arZ BinOp.and IntKind.u64 b 4294967295)) 32)) 4294967295) (arZ BinOp.mul IntKind.u64 (arZ BinOp.and IntKind.u64 a 4294967295) (arZ BinOp.shr IntKind.u64 b 32))) 32)), Value.int IntKind.u64 (arZ BinOp.mul IntKind.u64 a b)] })], [], []) := by kernel_rfl
--@s2end
theorem and_lo (n : Nat) (h : n < 18446744073709551616) : arZ .and .u64 n 4294967295 = ((n % 4294967296 : Nat) : Int) := by
  rw [arZ_eq]
  show bits .and .u64 (n : Int) ((4294967295 : Nat) : Int) = _
  rw [u64_and_nat n 4294967295 h (by omega), show (4294967295 : Nat) = 2 ^ 32 - 1 from rfl, Nat.and_two_pow_sub_one_eq_mod]
theorem shr_lo {z : Int} {n : Nat} (h : z = n) : arZ .shr .u64 z 32 = ((n / 4294967296 : Nat) : Int) := by
  rw [h, arZ_eq]
  show (n : Int).fdiv (2 ^ (min (32 : Int).toNat 64)) = _
  rw [show (2 : Int) ^ (min (32 : Int).toNat 64) = 4294967296 from rfl, Int.fdiv_eq_ediv_of_nonneg _ (by omega)]
  omega
theorem mul64_z (a b : Nat) (ha : a < 18446744073709551616) (hb : b < 18446744073709551616) :
    arZ .add .u64 (arZ .add .u64 (arZ .mul .u64 (arZ .shr .u64 a 32) (arZ .shr .u64 b 32)) (arZ .shr .u64 (arZ .add .u64 (arZ .mul .u64 (arZ .shr .u64 a 32) (arZ .and .u64 b 4294967295)) (arZ .shr .u64 (arZ .mul .u64 (arZ .and .u64 a 4294967295) (arZ .and .u64 b 4294967295)) 32)) 32))
      (arZ .shr .u64 (arZ .add .u64 (arZ .and .u64 (arZ .add .u64 (arZ .mul .u64 (arZ .shr .u64 a 32) (arZ .and .u64 b 4294967295)) (arZ .shr .u64 (arZ .mul .u64 (arZ .and .u64 a 4294967295) (arZ .and .u64 b 4294967295)) 32)) 4294967295) (arZ .mul .u64 (arZ .and .u64 a 4294967295) (arZ .shr .u64 b 32))) 32)
      = ((a * b / 18446744073709551616 : Nat) : Int) := by
  have lt : ∀ x y : Nat, x < 4294967296 → y < 4294967296 → x * y < 18446744073709551616 := fun x y hx hy => Nat.mul_lt_mul'' hx hy
  obtain ⟨x0, ex0⟩ : ∃ n, n = a % 4294967296 := ⟨_, rfl⟩
  obtain ⟨x1, ex1⟩ : ∃ n, n = a / 4294967296 := ⟨_, rfl⟩
  obtain ⟨y0, ey0⟩ : ∃ n, n = b % 4294967296 := ⟨_, rfl⟩
  obtain ⟨y1, ey1⟩ : ∃ n, n = b / 4294967296 := ⟨_, rfl⟩
  have bx0 : x0 < 4294967296 := by omega
  have bx1 : x1 < 4294967296 := by omega
  have by0 : y0 < 4294967296 := by omega
  have by1 : y1 < 4294967296 := by omega
  obtain ⟨h1, h2, h3, h4, h5⟩ := halves ha hb ex0 ex1 ey0 ey1 rfl rfl rfl rfl
  rw [and_lo a ha, and_lo b hb, shr_lo (z := a) rfl, shr_lo (z := b) rfl, ← ex0, ← ex1, ← ey0, ← ey1]
  rw [mm_n (z := x0) (y := y0) rfl rfl (lt _ _ bx0 by0), mm_n (z := x1) (y := y0) rfl rfl (lt _ _ bx1 by0), mm_n (z := x1) (y := y1) rfl rfl (lt _ _ bx1 by1), mm_n (z := x0) (y := y1) rfl rfl (lt _ _ bx0 by1), shr_lo (z := ((x0 * y0 : Nat) : Int)) rfl,
    ad_n (z := ((x1 * y0 : Nat) : Int)) (y := ((x0 * y0 / 4294967296 : Nat) : Int)) rfl rfl h3]
  rw [and_lo _ h3, shr_lo (z := ((x1 * y0 + x0 * y0 / 4294967296 : Nat) : Int)) rfl, ad_n (z := (((x1 * y0 + x0 * y0 / 4294967296) % 4294967296 : Nat) : Int)) (y := ((x0 * y1 : Nat) : Int)) rfl rfl h4]
  rw [shr_lo (z := (((x1 * y0 + x0 * y0 / 4294967296) % 4294967296 + x0 * y1 : Nat) : Int)) rfl]
  rw [ad_n (z := ((x1 * y1 : Nat) : Int)) rfl rfl (by omega), ad_n rfl rfl h5, h1]
theorem mul64_ret (a b : Int) (ha : u64C a = true) (hb : u64C b = true) (w : World) : Ret Try.prog 49 #[.int .u64 a, .int .u64 b] (.tuple #[.int .u64 (mulQ a b), .int .u64 (mulP a b)]) w := by
  refine (ret7 env7w_ok _ _ (mul64_sim_p a b) all_nil Try.func49 w [.int .u64 a, .int .u64 b] (GlobOk.none w) ⟨rfl, rfl, trivial⟩).of_eq ?_
  rw [u64C_iff] at ha hb
  obtain ⟨a, rfl⟩ := Int.eq_ofNat_of_zero_le ha.1
  obtain ⟨b, rfl⟩ := Int.eq_ofNat_of_zero_le hb.1
  have h1 := mul64_z a b (by omega) (by omega)
  have h2 : arZ .mul .u64 (a : Int) b = mulP a b := by rw [mulP_eq, arZ_eq]; rfl
  have h3 : ((a * b / 18446744073709551616 : Nat) : Int) = mulQ a b := by rw [mulQ_eq, ← Int.natCast_mul]; exact (cast_md _).2
  rw [h3] at h1
  show Value.tuple #[.int .u64 _, .int .u64 _] = _
  rw [h1, h2]
noncomputable def pMul64 : PTab := prowD 49 (decUU fun a b => .tuple #[.int .u64 (mulQ a b), .int .u64 (mulP a b)])
theorem pMul64_ok {gl : Nat → Option (List Value)} : PTabOk Try.prog gl pMul64 := rowUU fun a b ha hb w _ => mul64_ret a b ha hb w
noncomputable def env7m : S2.Env := envw Try.prog (fun _ => none) noT pMul64 noL
theorem env7m_ok : CallOk env7m := envw_ok (.none _ _) pMul64_ok (.none _ _)
--@s2 aHighSS_sim "(a b : Int)" "simF env7m 1000 10 [] $O 32 [[true], [true], [], []] [.inl (.int .i64 a), .inl (.int .i64 b), .inl (.bool true), .inl (.bool true)]" nn:tt np:tf pn:ft pp:ff
theorem aHighSS_sim_nn (a b : Int) : simF env7m 1000 10 [] [true, true] 32 [[true], [true], [], []] [.inl (.int .i64 a), .inl (.int .i64 b), .inl (.bool true), .inl (.bool true)] = some (false, [Sum.inl (Value.int IntKind.i64 (arZ BinOp.sub IntKind.i64 (arZ BinOp.sub IntKind.i64 (IntKind.i64.wrap (mulQ (IntKind.u64.wrap a) (IntKind.u64.wrap b))) b) a))], [(decide (b < 0), true), (decide (a < 0), true), (pre (u64C (IntKind.u64.wrap a) && u64C (IntKind.u64.wrap b)), true)], []) := by kernel_rfl
theorem aHighSS_sim_np (a b : Int) : simF env7m 1000 10 [] [true, false] 32 [[true], [true], [], []] [.inl (.int .i64 a), .inl (.int .i64 b), .inl (.bool true), .inl (.bool true)] = some (false, [Sum.inl (Value.int IntKind.i64 (arZ BinOp.sub IntKind.i64 (IntKind.i64.wrap (mulQ (IntKind.u64.wrap a) (IntKind.u64.wrap b))) b))], [(decide (b < 0), false), (decide (a < 0), true), (pre (u64C (IntKind.u64.wrap a) && u64C (IntKind.u64.wrap b)), true)], []) := by kernel_rfl
theorem aHighSS_sim_pn (a b : Int) : simF env7m 1000 10 [] [false, true] 32 [[true], [true], [], []] [.inl (.int .i64 a), .inl (.int .i64 b), .inl (.bool true), .inl (.bool true)] = some (false, [Sum.inl (Value.int IntKind.i64 (arZ BinOp.sub IntKind.i64 (IntKind.i64.wrap (mulQ (IntKind.u64.wrap a) (IntKind.u64.wrap b))) a))], [(decide (b < 0), true), (decide (a < 0), false), (pre (u64C (IntKind.u64.wrap a) && u64C (IntKind.u64.wrap b)), true)], []) := by kernel_rfl
theorem aHighSS_sim_pp (a b : Int) : simF env7m 1000 10 [] [false, false] 32 [[true], [true], [], []] [.inl (.int .i64 a), .inl (.int .i64 b), .inl (.bool true), .inl (.bool true)] = some (false, [Sum.inl (Value.int IntKind.i64 (IntKind.i64.wrap (mulQ (IntKind.u64.wrap a) (IntKind.u64.wrap b))))], [(decide (b < 0), false), (decide (a < 0), false), (pre (u64C (IntKind.u64.wrap a) && u64C (IntKind.u64.wrap b)), true)], []) := by kernel_rfl
--@s2end
--@s2 aHighSU_sim "(a b : Int)" "simF env7m 1000 10 [] $O 32 [[true], [true], [], []] [.inl (.int .i64 a), .inl (.int .i64 b), .inl (.bool true), .inl (.bool false)]" n:t p:f
theorem aHighSU_sim_n (a b : Int) : simF env7m 1000 10 [] [true] 32 [[true], [true], [], []] [.inl (.int .i64 a), .inl (.int .i64 b), .inl (.bool true), .inl (.bool false)] = some (false, [Sum.inl (Value.int IntKind.i64 (arZ BinOp.sub IntKind.i64 (IntKind.i64.wrap (mulQ (IntKind.u64.wrap a) (IntKind.u64.wrap b))) b))], [(decide (a < 0), true), (pre (u64C (IntKind.u64.wrap a) && u64C (IntKind.u64.wrap b)), true)], []) := by kernel_rfl
theorem aHighSU_sim_p (a b : Int) : simF env7m 1000 10 [] [false] 32 [[true], [true], [], []] [.inl (.int .i64 a), .inl (.int .i64 b), .inl (.bool true), .inl (.bool false)] = some (false, [Sum.inl (Value.int IntKind.i64 (IntKind.i64.wrap (mulQ (IntKind.u64.wrap a) (IntKind.u64.wrap b))))], [(decide (a < 0), false), (pre (u64C (IntKind.u64.wrap a) && u64C (IntKind.u64.wrap b)), true)], []) := by kernel_rfl
--@s2end
--@s2 aHighUU_sim "(a b : Int)" "simF env7m 1000 10 [] $O 32 [[true], [true], [], []] [.inl (.int .i64 a), .inl (.int .i64 b), .inl (.bool false), .inl (.bool false)]" p:
theorem aHighUU_sim_p (a b : Int) : simF env7m 1000 10 [] [] 32 [[true], [true], [], []] [.inl (.int .i64 a), .inl (.int .i64 b), .inl (.bool false), .inl (.bool false)] = some (false, [Sum.inl (Value.int IntKind.i64 (IntKind.i64.wrap (mulQ (IntKind.u64.wrap a) (IntKind.u64.wrap b))))], [(pre (u64C (IntKind.u64.wrap a) && u64C (IntKind.u64.wrap b)), true)], []) := by kernel_rfl
--@s2end
theorem sub_w (x y : Int) : arZ .sub .i64 x y = wrap64 (x - y) := by rw [arZ_eq, ← wrapI]; rfl
theorem ob_w (a b : Int) : pre (u64C (IntKind.u64.wrap a) && u64C (IntKind.u64.wrap b)) = true := ob_uu (wrapU_rng a) (wrapU_rng b)
theorem up_nn (a b : Int) : (a + 18446744073709551616) * (b + 18446744073709551616) / 18446744073709551616 = a * b / 18446744073709551616 + a + b + 18446744073709551616 := by
  have h : (a + 18446744073709551616) * (b + 18446744073709551616) = a * b + 18446744073709551616 * (a + b + 18446744073709551616) := by grind
  rw [h]; generalize a * b = p; omega
theorem up_np (a b : Int) : (a + 18446744073709551616) * b / 18446744073709551616 = a * b / 18446744073709551616 + b := by
  have h : (a + 18446744073709551616) * b = a * b + 18446744073709551616 * b := by grind
  rw [h]; generalize a * b = p; omega
theorem up_pn (a b : Int) : a * (b + 18446744073709551616) / 18446744073709551616 = a * b / 18446744073709551616 + a := by
  have h : a * (b + 18446744073709551616) = a * b + 18446744073709551616 * a := by grind
  rw [h]; generalize a * b = p; omega
theorem aHighSS_ret (a b : Int) (ha : i64C a = true) (hb : i64C b = true) (w : World) : Ret Try.prog 32 #[.int .i64 a, .int .i64 b, .bool true, .bool true] (.int .i64 (uppSS a b)) w := by
  have ha' := i64C_iff.1 ha
  have hb' := i64C_iff.1 hb
  by_cases hn : a < 0 <;> by_cases hm : b < 0
  · refine (ret7 env7m_ok _ _ (aHighSS_sim_nn a b) (all_cons (ob_yes hm) <| all_cons (ob_yes hn) <| all_cons (ob_w a b) all_nil) Try.func32 w [.int .i64 a, .int .i64 b, .bool true, .bool true] (GlobOk.none w) ⟨rfl, rfl, rfl, rfl, trivial⟩).of_eq ?_
    rw [uppSS_eq, mulQ_eq, wrapI, sub_w, sub_w, wrapU, wrapU, show a % 18446744073709551616 = a + 18446744073709551616 by omega, show b % 18446744073709551616 = b + 18446744073709551616 by omega, up_nn]
    congr 1; unfold wrap64; omega
  · refine (ret7 env7m_ok _ _ (aHighSS_sim_np a b) (all_cons (ob_no hm) <| all_cons (ob_yes hn) <| all_cons (ob_w a b) all_nil) Try.func32 w [.int .i64 a, .int .i64 b, .bool true, .bool true] (GlobOk.none w) ⟨rfl, rfl, rfl, rfl, trivial⟩).of_eq ?_
    rw [uppSS_eq, mulQ_eq, wrapI, sub_w, wrapU, wrapU, show a % 18446744073709551616 = a + 18446744073709551616 by omega, show b % 18446744073709551616 = b by omega, up_np]
    congr 1; unfold wrap64; omega
  · refine (ret7 env7m_ok _ _ (aHighSS_sim_pn a b) (all_cons (ob_yes hm) <| all_cons (ob_no hn) <| all_cons (ob_w a b) all_nil) Try.func32 w [.int .i64 a, .int .i64 b, .bool true, .bool true] (GlobOk.none w) ⟨rfl, rfl, rfl, rfl, trivial⟩).of_eq ?_
    rw [uppSS_eq, mulQ_eq, wrapI, sub_w, wrapU, wrapU, show a % 18446744073709551616 = a by omega, show b % 18446744073709551616 = b + 18446744073709551616 by omega, up_pn]
    congr 1; unfold wrap64; omega
  · refine (ret7 env7m_ok _ _ (aHighSS_sim_pp a b) (all_cons (ob_no hm) <| all_cons (ob_no hn) <| all_cons (ob_w a b) all_nil) Try.func32 w [.int .i64 a, .int .i64 b, .bool true, .bool true] (GlobOk.none w) ⟨rfl, rfl, rfl, rfl, trivial⟩).of_eq ?_
    rw [uppSS_eq, mulQ_eq, wrapI, wrapU, wrapU, show a % 18446744073709551616 = a by omega, show b % 18446744073709551616 = b by omega]
theorem aHighSU_ret (a b : Int) (ha : i64C a = true) (hb : i64C b = true) (w : World) : Ret Try.prog 32 #[.int .i64 a, .int .i64 b, .bool true, .bool false] (.int .i64 (uppSU a b)) w := by
  have ha' := i64C_iff.1 ha
  have hb' := i64C_iff.1 hb
  by_cases hn : a < 0
  · refine (ret7 env7m_ok _ _ (aHighSU_sim_n a b) (all_cons (ob_yes hn) <| all_cons (ob_w a b) all_nil) Try.func32 w [.int .i64 a, .int .i64 b, .bool true, .bool false] (GlobOk.none w) ⟨rfl, rfl, rfl, rfl, trivial⟩).of_eq ?_
    rw [uppSU_eq, mulQ_eq, wrapI, sub_w, wrapU, wrapU, show a % 18446744073709551616 = a + 18446744073709551616 by omega, up_np]
    congr 1; unfold wrap64; omega
  · refine (ret7 env7m_ok _ _ (aHighSU_sim_p a b) (all_cons (ob_no hn) <| all_cons (ob_w a b) all_nil) Try.func32 w [.int .i64 a, .int .i64 b, .bool true, .bool false] (GlobOk.none w) ⟨rfl, rfl, rfl, rfl, trivial⟩).of_eq ?_
    rw [uppSU_eq, mulQ_eq, wrapI, wrapU, wrapU, show a % 18446744073709551616 = a by omega]
theorem aHighUU_ret (a b : Int) (w : World) : Ret Try.prog 32 #[.int .i64 a, .int .i64 b, .bool false, .bool false] (.int .i64 (uppUU a b)) w := by
  refine (ret7 env7m_ok _ _ (aHighUU_sim_p a b) (all_cons (ob_w a b) all_nil) Try.func32 w [.int .i64 a, .int .i64 b, .bool false, .bool false] (GlobOk.none w) ⟨rfl, rfl, rfl, rfl, trivial⟩).of_eq ?_
  rw [uppUU_eq, mulQ_eq, wrapI, wrapU, wrapU]
noncomputable def pHigh7 : PTab := prowD 32 decUpp
theorem pHigh7_ok {gl : Nat → Option (List Value)} : PTabOk Try.prog gl pHigh7 := .rowD fun args u hd w hG => by
  unfold decUpp at hd
  split at hd <;> first | (cases hd; done) | skip
  all_goals
    simp only [Option.some.injEq, Prod.mk.injEq, pre, Bool.and_eq_true] at hd
    obtain ⟨rfl, h1, h2⟩ := hd
  · exact aHighSS_ret _ _ h1 h2 w
  · exact aHighSU_ret _ _ h1 h2 w
  · exact aHighUU_ret _ _ w
end Go.Proofs.Ytcofdcpadbpmnaa
