/- Contracts of package text (layer 6), the side that reads: registers, numbers, one operand. -/
import Derived.Test.YtgcglmnbkilfhaaGreatDoorRead06
namespace Go.Proofs.YtgcglmnbkilfhaaGreatDoor
open Go.RowKit Sim S2
set_option linter.unusedVariables false
set_option linter.unusedSimpArgs false

/-! ### Registers -/
theorem rpN_ex : ∃ g : ByteArray → Nat, ∀ s, (∃ r, r < 32 ∧ isNameB s r = true ∧ (∀ i, i < r → isNameB s i = false) ∧ g s = r) ∨ ((∀ i, i < 32 → isNameB s i = false) ∧ g s = 0) := by
  classical
  refine ⟨fun s => if h : ∃ r, r < 32 ∧ isNameB s r = true ∧ (∀ i, i < r → isNameB s i = false) then Classical.choose h else 0, fun s => ?_⟩
  by_cases h : ∃ r, r < 32 ∧ isNameB s r = true ∧ (∀ i, i < r → isNameB s i = false)
  · simp only [dif_pos h]
    obtain ⟨h1, h2, h3⟩ := Classical.choose_spec h
    exact .inl ⟨_, h1, h2, h3, rfl⟩
  · simp only [dif_neg h]
    refine .inr ⟨?_, trivial⟩
    intro i
    induction i using Nat.strongRecOn with
    | _ i ih =>
      intro hi
      cases hb : isNameB s i
      · rfl
      · exact absurd ⟨i, hi, hb, fun j hj => ih j hj (by omega)⟩ h
noncomputable def rpN : ByteArray → Nat := Classical.choose rpN_ex
theorem rpN_spec (s : ByteArray) : (∃ r, r < 32 ∧ isNameB s r = true ∧ (∀ i, i < r → isNameB s i = false) ∧ rpN s = r) ∨ ((∀ i, i < 32 → isNameB s i = false) ∧ rpN s = 0) := Classical.choose_spec rpN_ex s
theorem rpN_at {s : ByteArray} {r : Nat} (h1 : r < 32) (h2 : isNameB s r = true) (h3 : ∀ i, i < r → isNameB s i = false) : rpN s = r := by
  rcases rpN_spec s with ⟨q, k1, k2, k3, k4⟩ | ⟨k1, _⟩
  · rw [k4]
    rcases Nat.lt_trichotomy q r with h | h | h
    · rw [h3 q h] at k2; cases k2
    · exact h
    · rw [k3 r h] at h2; cases h2
  · rw [k1 r h1] at h2; cases h2
theorem rpOk_ex : ∃ g : ByteArray → Bool, ∀ s, ((∃ r, r < 32 ∧ isNameB s r = true) → g s = true) ∧ ((∀ i, i < 32 → isNameB s i = false) → g s = false) := by
  refine ⟨fun s => @decide _ (Classical.propDecidable (∃ r, r < 32 ∧ isNameB s r = true)), fun s => ⟨fun h => @decide_eq_true _ (Classical.propDecidable _) h, fun h => @decide_eq_false _ (Classical.propDecidable _) fun hx => ?_⟩⟩
  obtain ⟨r, h1, h2⟩ := hx
  rw [h r h1] at h2; cases h2
noncomputable def rpOk : ByteArray → Bool := Classical.choose rpOk_ex
theorem name_own : ∀ r : Fin 32, isNameB (numS r.val) r.val = true ∧ ∀ i : Fin 32, i.val < r.val → isNameB (numS r.val) i.val = false := by decide +kernel
theorem rpN_reg {x : ByteArray} {r : Int} (h0 : 0 ≤ r) (h1 : r ≤ 31) (h : toL x = regL r) : ((rpN x : Nat) : Int) = r := by
  obtain ⟨r, rfl⟩ := Int.eq_ofNat_of_zero_le h0
  have e : x = numS r := toL_inj h
  obtain ⟨k1, k2⟩ := name_own ⟨r, by omega⟩
  rw [e, rpN_at (by omega) k1 fun i hi => k2 ⟨i, by omega⟩ hi]
noncomputable def tRegP : Tab := row 58 Sim.decS fun x => .tuple #[.int .i64 (rpN x : Nat), .bool (rpOk x)]
theorem tRegP_ok {es er : Value} : TabOk Tryz.prog (gl6 es er) tRegP := tabS fun x w hG => (regParse_any x w (abiIs_of hG)).mono fun e w' ⟨hw, hp⟩ => by
  have hx := Classical.choose_spec rpOk_ex x
  refine ⟨?_, hw ▸ Below.refl _ _⟩
  rcases hp with ⟨r, h1, h2, h3, he⟩ | ⟨h1, he⟩
  · rw [he, rpN_at h1 h2 h3, show rpOk x = true from hx.1 ⟨r, h1, h2⟩]
  · rw [he, show rpOk x = false from hx.2 h1]
    rcases rpN_spec x with ⟨q, k1, k2, _⟩ | ⟨_, k⟩
    · rw [h1 q k1] at k2; cases k2
    · rw [k]; rfl
/-! ### Numbers -/
theorem atZ_ex : ∃ g : ByteArray → Int, ∀ s, g s = match Lib.atoiAll (toL s) with | .ok v => v | .range => Lib.atoiSat (toL s) | _ => 0 := ⟨_, fun _ => rfl⟩
noncomputable def atZ6 : ByteArray → Int := Classical.choose atZ_ex
theorem atZ6_eq (s : ByteArray) : atZ6 s = match Lib.atoiAll (toL s) with | .ok v => v | .range => Lib.atoiSat (toL s) | _ => 0 := Classical.choose_spec atZ_ex s
theorem valF_from : ∀ (l : List UInt8) (acc : Nat), (∀ c ∈ l, 48 ≤ c.toNat ∧ c.toNat ≤ 57) → l.foldl (fun v c => 10 * v + (c.toNat - 48)) acc < 1000000000000000000 → Lib.parseUint10 acc l = .ok (l.foldl (fun v c => 10 * v + (c.toNat - 48)) acc)
  | [], acc, _, _ => rfl
  | c :: r, acc, h, hb => by
    have hc := h c List.mem_cons_self
    have mono : ∀ (l : List UInt8) (a : Nat), a ≤ l.foldl (fun v c => 10 * v + (c.toNat - 48)) a := by
      intro l
      induction l with
      | nil => intro a; exact Nat.le_refl _
      | cons c r ih => intro a; exact Nat.le_trans (by omega) (ih (10 * a + (c.toNat - 48)))
    have hb' : r.foldl (fun v c => 10 * v + (c.toNat - 48)) (10 * acc + (c.toNat - 48)) < 1000000000000000000 := hb
    have hm := mono r (10 * acc + (c.toNat - 48))
    unfold Lib.parseUint10
    rw [if_pos hc, if_neg (by omega), if_neg (by omega), Nat.mul_comm acc 10]
    exact valF_from r _ (fun x hx => h x (List.mem_cons_of_mem _ hx)) hb'
theorem atoi_digL {v : Int} (h : -1048576 ≤ v ∧ v < 1048576) : Lib.atoiAll (digL v) = .ok v := by
  have h20 : (10 : Nat) ^ 20 = 100000000000000000000 := by decide
  have key : ∀ n : Nat, n ≤ 1048576 → Lib.parseMag (decF 20 n) = .ok n := fun n hn => by
    have hv := decF_val 20 n (by omega)
    unfold valL at hv
    have hne : decF 20 n ≠ [] := by
      intro e
      unfold decF at e
      split at e <;> simp at e
    unfold Lib.parseMag
    rw [if_neg hne, valF_from _ _ (decF_chr 20 n) (by rw [hv]; omega), hv]
  unfold digL
  by_cases h0 : 0 ≤ v
  · rw [if_pos h0]
    have hk := key v.toNat (by omega)
    have hc := decF_chr 20 v.toNat
    cases hl : decF 20 v.toNat with
    | nil =>
      exfalso
      unfold decF at hl
      split at hl <;> simp at hl
    | cons c r =>
      rw [hl] at hk hc
      have := hc c List.mem_cons_self
      unfold Lib.atoiAll
      simp only
      rw [if_neg (by omega), hk]
      simp only
      rw [if_neg (by omega), if_neg (by omega), if_neg (by omega)]
      congr 1; omega
  · rw [if_neg h0]
    have hk := key (-v).toNat (by omega)
    unfold Lib.atoiAll
    simp only
    rw [if_pos (by right; rfl), hk]
    simp only
    rw [if_neg (by simp), if_neg (by omega), if_pos (show UInt8.toNat 45 = 45 from rfl)]
    congr 1; omega
theorem atZ_dig {x : ByteArray} {v : Int} (hv : -1048576 ≤ v ∧ v < 1048576) (h : toL x = digL v) : atZ6 x = v := by rw [atZ6_eq, h, atoi_digL hv]
/-- What an error's cell holds. -/
def isErr (e : Value) : Prop := e = .nilIface ∨ ∃ te pe, e = .iface te pe
noncomputable def aAtoi : FuncId → List Value → Option (Value × Bool) := fun f args => bif Nat.beq f 59 then (match args with
  | [.string x] => some (.int .i64 (atZ6 x), pre (smallB x))
  | _ => none) else none
theorem aAtoi_ok {es er : Value} (hes : isErr es) (her : isErr er) : ATabOk Tryz.prog (gl6 es er) aAtoi := fun f args v h w hG => by
  unfold aAtoi at h
  cases hb : Nat.beq f 59
  · rw [hb] at h; cases h
  · rw [hb] at h
    simp only [cond_true] at h
    split at h
    · rename_i x
      simp only [Option.some.injEq, Prod.mk.injEq, pre] at h
      obtain ⟨rfl, hc⟩ := h
      simp [smallB] at hc
      rw [Nat.eq_of_beq_eq_true hb, atZ6_eq]
      cases ha : Lib.atoiAll (toL x) with
      | ok v =>
        refine (Any.strconv_Atoi_ok laysC172 x (by omega) v ha w).mono fun r w' ⟨h1, h2⟩ => ⟨⟨_, h1⟩, ?_⟩
        rcases h2 with rfl | ⟨t, rfl⟩
        · exact Below.refl _ _
        · exact Lib.bytesWorld_below _ _ _
      | range =>
        refine (Any.strconv_Atoi_range laysC172 x (by omega) ha er w ?_ her).mono fun r w' ⟨N, h1, _, _, h4⟩ => ⟨⟨_, h1⟩, h4⟩
        exact (hG 4 [er] rfl).1 0 er rfl
      | _ =>
        refine (Any.strconv_Atoi_syntax laysC172 x (by omega) ha es w ?_ hes).mono fun r w' ⟨N, h1, _, _, h4⟩ => ⟨⟨_, h1⟩, h4⟩
        exact (hG 3 [es] rfl).1 0 es rfl
    · cases h
/-! ### One operand -/
noncomputable def rdI (c : Int) (i : In) (x : ByteArray) : In :=
  bif c == 100 then { i with rd := (rpN x : Nat) } else bif c == 97 then { i with a := (rpN x : Nat) } else bif c == 98 then { i with b := (rpN x : Nat) } else bif c == 105 then { i with imm := atZ6 x }
  else bif c == 112 then { i with imm := arZ .or .i64 i.imm (arZ .shl .i64 (rsZ x) 4) } else bif c == 115 then { i with imm := arZ .or .i64 i.imm (rsZ x) } else i
noncomputable def envO (es er : Value) : S2.Env := enva Tryz.prog (gl6 es er) (orT tRegP tRs) noP noL aAtoi
theorem envO_ok {es er : Value} (hes : isErr es) (her : isErr er) : CallOk (envO es er) := enva_ok (tRegP_ok.or tRs_ok) (.none _ _) (.none _ _) (aAtoi_ok hes her)
--@s2 rdd "(es er : Value) (i : In) (x : ByteArray)" "simF (envO es er) 1000 10 [] $O 30 [[true, true, true, true, true, true, true], [], [true]] [.inl (inV i), .inl (.int .i32 100), .inl (.string x)]" y:
theorem rdd_y (es er : Value) (i : In) (x : ByteArray) : simF (envO es er) 1000 10 [] [] 30 [[true, true, true, true, true, true, true], [], [true]] [.inl (inV i), .inl (.int .i32 100), .inl (.string x)] = some (false, [Sum.inl (Value.agg { toList := [Value.int IntKind.i64 i.op, Value.int IntKind.i64 ↑(rpN x), Value.int IntKind.i64 i.a, Value.int IntKind.i64 i.b, Value.int IntKind.i64 i.imm, Value.bool i.aq, Value.bool i.rl] })], [], []) := by kernel_rfl
--@s2end
--@s2 rda "(es er : Value) (i : In) (x : ByteArray)" "simF (envO es er) 1000 10 [] $O 30 [[true, true, true, true, true, true, true], [], [true]] [.inl (inV i), .inl (.int .i32 97), .inl (.string x)]" y:
theorem rda_y (es er : Value) (i : In) (x : ByteArray) : simF (envO es er) 1000 10 [] [] 30 [[true, true, true, true, true, true, true], [], [true]] [.inl (inV i), .inl (.int .i32 97), .inl (.string x)] = some (false, [Sum.inl (Value.agg { toList := [Value.int IntKind.i64 i.op, Value.int IntKind.i64 i.rd, Value.int IntKind.i64 ↑(rpN x), Value.int IntKind.i64 i.b, Value.int IntKind.i64 i.imm, Value.bool i.aq, Value.bool i.rl] })], [], []) := by kernel_rfl
--@s2end
--@s2 rdb "(es er : Value) (i : In) (x : ByteArray)" "simF (envO es er) 1000 10 [] $O 30 [[true, true, true, true, true, true, true], [], [true]] [.inl (inV i), .inl (.int .i32 98), .inl (.string x)]" y:
theorem rdb_y (es er : Value) (i : In) (x : ByteArray) : simF (envO es er) 1000 10 [] [] 30 [[true, true, true, true, true, true, true], [], [true]] [.inl (inV i), .inl (.int .i32 98), .inl (.string x)] = some (false, [Sum.inl (Value.agg { toList := [Value.int IntKind.i64 i.op, Value.int IntKind.i64 i.rd, Value.int IntKind.i64 i.a, Value.int IntKind.i64 ↑(rpN x), Value.int IntKind.i64 i.imm, Value.bool i.aq, Value.bool i.rl] })], [], []) := by kernel_rfl
--@s2end
--@s2 rdi "(es er : Value) (i : In) (x : ByteArray)" "simF (envO es er) 1000 10 [] $O 30 [[true, true, true, true, true, true, true], [], [true]] [.inl (inV i), .inl (.int .i32 105), .inl (.string x)]" y:
theorem rdi_y (es er : Value) (i : In) (x : ByteArray) : simF (envO es er) 1000 10 [] [] 30 [[true, true, true, true, true, true, true], [], [true]] [.inl (inV i), .inl (.int .i32 105), .inl (.string x)] = some (false, [Sum.inl (Value.agg { toList := [Value.int IntKind.i64 i.op, Value.int IntKind.i64 i.rd, Value.int IntKind.i64 i.a, Value.int IntKind.i64 i.b, Value.int IntKind.i64 (atZ6 x), Value.bool i.aq, Value.bool i.rl] })], [(pre (smallB x), true)], []) := by kernel_rfl
--@s2end
--@s2 rdp "(es er : Value) (i : In) (x : ByteArray)" "simF (envO es er) 1000 10 [] $O 30 [[true, true, true, true, true, true, true], [], [true]] [.inl (inV i), .inl (.int .i32 112), .inl (.string x)]" y:
theorem rdp_y (es er : Value) (i : In) (x : ByteArray) : simF (envO es er) 1000 10 [] [] 30 [[true, true, true, true, true, true, true], [], [true]] [.inl (inV i), .inl (.int .i32 112), .inl (.string x)] = some (false, [Sum.inl (Value.agg { toList := [Value.int IntKind.i64 i.op, Value.int IntKind.i64 i.rd, Value.int IntKind.i64 i.a, Value.int IntKind.i64 i.b, Value.int IntKind.i64 (arZ BinOp.or IntKind.i64 i.imm (arZ BinOp.shl IntKind.i64 (rsZ x) 4)), Value.bool i.aq, Value.bool i.rl] })], [], []) := by kernel_rfl
--@s2end
--@s2 rds "(es er : Value) (i : In) (x : ByteArray)" "simF (envO es er) 1000 10 [] $O 30 [[true, true, true, true, true, true, true], [], [true]] [.inl (inV i), .inl (.int .i32 115), .inl (.string x)]" y:
theorem rds_y (es er : Value) (i : In) (x : ByteArray) : simF (envO es er) 1000 10 [] [] 30 [[true, true, true, true, true, true, true], [], [true]] [.inl (inV i), .inl (.int .i32 115), .inl (.string x)] = some (false, [Sum.inl (Value.agg { toList := [Value.int IntKind.i64 i.op, Value.int IntKind.i64 i.rd, Value.int IntKind.i64 i.a, Value.int IntKind.i64 i.b, Value.int IntKind.i64 (arZ BinOp.or IntKind.i64 i.imm (rsZ x)), Value.bool i.aq, Value.bool i.rl] })], [], []) := by kernel_rfl
--@s2end
theorem read_ret {es er : Value} (hes : isErr es) (her : isErr er) (c : Int) (i : In) (x : ByteArray) (hx : pre (smallB x) = true) (hc : c = 100 ∨ c = 97 ∨ c = 98 ∨ c = 105 ∨ c = 112 ∨ c = 115) (w : World) (hG : GlobOk (gl6 es er) w) : Ret Tryz.prog 30 #[inV i, .int .i32 c, .string x] (inV (rdI c i x)) w := by
  rcases hc with rfl | rfl | rfl | rfl | rfl | rfl
  · exact ret6 (envO_ok hes her) _ _ (rdd_y es er i x) all_nil Tryz.func30 w [inV i, .int .i32 100, .string x] hG ⟨rfl, rfl, rfl, trivial⟩
  · exact ret6 (envO_ok hes her) _ _ (rda_y es er i x) all_nil Tryz.func30 w [inV i, .int .i32 97, .string x] hG ⟨rfl, rfl, rfl, trivial⟩
  · exact ret6 (envO_ok hes her) _ _ (rdb_y es er i x) all_nil Tryz.func30 w [inV i, .int .i32 98, .string x] hG ⟨rfl, rfl, rfl, trivial⟩
  · exact ret6 (envO_ok hes her) _ _ (rdi_y es er i x) (all_cons hx all_nil) Tryz.func30 w [inV i, .int .i32 105, .string x] hG ⟨rfl, rfl, rfl, trivial⟩
  · exact ret6 (envO_ok hes her) _ _ (rdp_y es er i x) all_nil Tryz.func30 w [inV i, .int .i32 112, .string x] hG ⟨rfl, rfl, rfl, trivial⟩
  · exact ret6 (envO_ok hes her) _ _ (rds_y es er i x) all_nil Tryz.func30 w [inV i, .int .i32 115, .string x] hG ⟨rfl, rfl, rfl, trivial⟩
end Go.Proofs.YtgcglmnbkilfhaaGreatDoor
