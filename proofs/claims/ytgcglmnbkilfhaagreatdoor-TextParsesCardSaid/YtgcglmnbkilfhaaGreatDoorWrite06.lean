/- Contracts of package text (layer 6): Text. -/
import Derived.Test.YtgcglmnbkilfhaaGreatDoorText06
namespace Go.Proofs.YtgcglmnbkilfhaaGreatDoor
open Go.RowKit Sim S2
set_option linter.unusedVariables false
set_option linter.unusedSimpArgs false

def shut6 : FuncId → Bool := fun f => Nat.beq f 17
noncomputable def envT (es er : Value) (k : Nat) : S2.Env := envb Tryz.prog (gl6 es er) (orT tMay <| orT tName tSfx) (orP pRegName <| orP pItoa <| orP pWset (pLay k)) noL 39 5 bop6 shut6
theorem envT_ok (es er : Value) (k : Nat) : CallOk (envT es er k) := envb_ok (tMay_ok.or (tName6_ok.or tSfx_ok)) (pRegName_ok.or (pItoa_ok.or (pWset_ok.or (pLay_ok k)))) (.none _ _) bop6_ok
--@s2 wt_no "(es er : Value) (i : In)" "simF (envT es er 0) 1000 10 [] $O 7 OIn [.inl (inV i)]" n:t
theorem wt_no_n (es er : Value) (i : In) : simF (envT es er 0) 1000 10 [] [true] 7 OIn [.inl (inV i)] = some (false, [Sum.inl (Value.string (⟨#[]⟩ : ByteArray))], [(!mayB i, true)], []) := by kernel_rfl
--@s2end
--@s2 wt_0 "(es er : Value) (i : In)" "simF (envT es er 0) 1000 10 [] $O 7 OIn [.inl (inV i)]" y:f
theorem wt_0_y (es er : Value) (i : In) : simF (envT es er 0) 1000 10 [] [false] 7 OIn [.inl (inV i)] = some (false, [Sum.inl (Value.string (accB true (accB true ByteArray.empty (some (nameZ i.op))) (some (sfxZ i.aq i.rl))))], [(pre (true && fitB (accB true (accB true ByteArray.empty (some (nameZ i.op))) (some (sfxZ i.aq i.rl))) none), true), (pre (layC i.op == 0), true), (pre (true && fitB (accB true ByteArray.empty (some (nameZ i.op))) (some (sfxZ i.aq i.rl))), true), (pre (true && fitB ByteArray.empty (some (nameZ i.op))), true), (!mayB i, false)], []) := by kernel_rfl
--@s2end
--@s2 wt_1 "(es er : Value) (i : In)" "simF (envT es er 1) 1000 10 [] $O 7 OIn [.inl (inV i)]" y:f
theorem wt_1_y (es er : Value) (i : In) : simF (envT es er 1) 1000 10 [] [false] 7 OIn [.inl (inV i)] = some (false, [Sum.inl (Value.string (accB true (accB true (accB true (accB true (accB true (accB true (accB true ByteArray.empty (some (nameZ i.op))) (some (sfxZ i.aq i.rl))) (some (oneB 32))) (some (numZ i.rd))) (some (Utf8.encode 44))) (some (Utf8.encode 32))) (some (digZ i.imm))))], [(pre (true && fitB (accB true (accB true (accB true (accB true (accB true (accB true (accB true ByteArray.empty (some (nameZ i.op))) (some (sfxZ i.aq i.rl))) (some (oneB 32))) (some (numZ i.rd))) (some (Utf8.encode 44))) (some (Utf8.encode 32))) (some (digZ i.imm))) none), true), (pre (true && fitB (accB true (accB true (accB true (accB true (accB true (accB true ByteArray.empty (some (nameZ i.op))) (some (sfxZ i.aq i.rl))) (some (oneB 32))) (some (numZ i.rd))) (some (Utf8.encode 44))) (some (Utf8.encode 32))) (some (digZ i.imm))), true), (pre (i64B i.imm), true), (pre (true && fitB (accB true (accB true (accB true (accB true (accB true ByteArray.empty (some (nameZ i.op))) (some (sfxZ i.aq i.rl))) (some (oneB 32))) (some (numZ i.rd))) (some (Utf8.encode 44))) (some (Utf8.encode 32))), true), (pre (true && fitB (accB true (accB true (accB true (accB true ByteArray.empty (some (nameZ i.op))) (some (sfxZ i.aq i.rl))) (some (oneB 32))) (some (numZ i.rd))) (some (Utf8.encode 44))), true), (pre (true && fitB (accB true (accB true (accB true ByteArray.empty (some (nameZ i.op))) (some (sfxZ i.aq i.rl))) (some (oneB 32))) (some (numZ i.rd))), true), (pre (rg32B i.rd), true), (pre (decide (0 ≤ 32 ∧ 32 < 256) && fitB (accB true (accB true ByteArray.empty (some (nameZ i.op))) (some (sfxZ i.aq i.rl))) (some (oneB 32))), true), (pre (layC i.op == 1), true), (pre (true && fitB (accB true ByteArray.empty (some (nameZ i.op))) (some (sfxZ i.aq i.rl))), true), (pre (true && fitB ByteArray.empty (some (nameZ i.op))), true), (!mayB i, false)], []) := by kernel_rfl
--@s2end
--@s2 wt_2 "(es er : Value) (i : In)" "simF (envT es er 2) 1000 10 [] $O 7 OIn [.inl (inV i)]" y:f
theorem wt_2_y (es er : Value) (i : In) : simF (envT es er 2) 1000 10 [] [false] 7 OIn [.inl (inV i)] = some (false, [Sum.inl (Value.string (accB true (accB true (accB true (accB true (accB true (accB true (accB true (accB true (accB true (accB true ByteArray.empty (some (nameZ i.op))) (some (sfxZ i.aq i.rl))) (some (oneB 32))) (some (numZ i.rd))) (some (Utf8.encode 44))) (some (Utf8.encode 32))) (some (digZ i.imm))) (some (Utf8.encode 40))) (some (numZ i.a))) (some (Utf8.encode 41))))], [(pre (true && fitB (accB true (accB true (accB true (accB true (accB true (accB true (accB true (accB true (accB true (accB true ByteArray.empty (some (nameZ i.op))) (some (sfxZ i.aq i.rl))) (some (oneB 32))) (some (numZ i.rd))) (some (Utf8.encode 44))) (some (Utf8.encode 32))) (some (digZ i.imm))) (some (Utf8.encode 40))) (some (numZ i.a))) (some (Utf8.encode 41))) none), true), (pre (true && fitB (accB true (accB true (accB true (accB true (accB true (accB true (accB true (accB true (accB true ByteArray.empty (some (nameZ i.op))) (some (sfxZ i.aq i.rl))) (some (oneB 32))) (some (numZ i.rd))) (some (Utf8.encode 44))) (some (Utf8.encode 32))) (some (digZ i.imm))) (some (Utf8.encode 40))) (some (numZ i.a))) (some (Utf8.encode 41))), true), (pre (true && fitB (accB true (accB true (accB true (accB true (accB true (accB true (accB true (accB true ByteArray.empty (some (nameZ i.op))) (some (sfxZ i.aq i.rl))) (some (oneB 32))) (some (numZ i.rd))) (some (Utf8.encode 44))) (some (Utf8.encode 32))) (some (digZ i.imm))) (some (Utf8.encode 40))) (some (numZ i.a))), true), (pre (rg32B i.a), true), (pre (true && fitB (accB true (accB true (accB true (accB true (accB true (accB true (accB true ByteArray.empty (some (nameZ i.op))) (some (sfxZ i.aq i.rl))) (some (oneB 32))) (some (numZ i.rd))) (some (Utf8.encode 44))) (some (Utf8.encode 32))) (some (digZ i.imm))) (some (Utf8.encode 40))), true), (pre (true && fitB (accB true (accB true (accB true (accB true (accB true (accB true ByteArray.empty (some (nameZ i.op))) (some (sfxZ i.aq i.rl))) (some (oneB 32))) (some (numZ i.rd))) (some (Utf8.encode 44))) (some (Utf8.encode 32))) (some (digZ i.imm))), true), (pre (i64B i.imm), true), (pre (true && fitB (accB true (accB true (accB true (accB true (accB true ByteArray.empty (some (nameZ i.op))) (some (sfxZ i.aq i.rl))) (some (oneB 32))) (some (numZ i.rd))) (some (Utf8.encode 44))) (some (Utf8.encode 32))), true), (pre (true && fitB (accB true (accB true (accB true (accB true ByteArray.empty (some (nameZ i.op))) (some (sfxZ i.aq i.rl))) (some (oneB 32))) (some (numZ i.rd))) (some (Utf8.encode 44))), true), (pre (true && fitB (accB true (accB true (accB true ByteArray.empty (some (nameZ i.op))) (some (sfxZ i.aq i.rl))) (some (oneB 32))) (some (numZ i.rd))), true), (pre (rg32B i.rd), true), (pre (decide (0 ≤ 32 ∧ 32 < 256) && fitB (accB true (accB true ByteArray.empty (some (nameZ i.op))) (some (sfxZ i.aq i.rl))) (some (oneB 32))), true), (pre (layC i.op == 2), true), (pre (true && fitB (accB true ByteArray.empty (some (nameZ i.op))) (some (sfxZ i.aq i.rl))), true), (pre (true && fitB ByteArray.empty (some (nameZ i.op))), true), (!mayB i, false)], []) := by kernel_rfl
--@s2end
--@s2 wt_3 "(es er : Value) (i : In)" "simF (envT es er 3) 1000 10 [] $O 7 OIn [.inl (inV i)]" y:f
theorem wt_3_y (es er : Value) (i : In) : simF (envT es er 3) 1000 10 [] [false] 7 OIn [.inl (inV i)] = some (false, [Sum.inl (Value.string (accB true (accB true (accB true (accB true (accB true (accB true (accB true (accB true (accB true (accB true ByteArray.empty (some (nameZ i.op))) (some (sfxZ i.aq i.rl))) (some (oneB 32))) (some (numZ i.rd))) (some (Utf8.encode 44))) (some (Utf8.encode 32))) (some (numZ i.a))) (some (Utf8.encode 44))) (some (Utf8.encode 32))) (some (digZ i.imm))))], [(pre (true && fitB (accB true (accB true (accB true (accB true (accB true (accB true (accB true (accB true (accB true (accB true ByteArray.empty (some (nameZ i.op))) (some (sfxZ i.aq i.rl))) (some (oneB 32))) (some (numZ i.rd))) (some (Utf8.encode 44))) (some (Utf8.encode 32))) (some (numZ i.a))) (some (Utf8.encode 44))) (some (Utf8.encode 32))) (some (digZ i.imm))) none), true), (pre (true && fitB (accB true (accB true (accB true (accB true (accB true (accB true (accB true (accB true (accB true ByteArray.empty (some (nameZ i.op))) (some (sfxZ i.aq i.rl))) (some (oneB 32))) (some (numZ i.rd))) (some (Utf8.encode 44))) (some (Utf8.encode 32))) (some (numZ i.a))) (some (Utf8.encode 44))) (some (Utf8.encode 32))) (some (digZ i.imm))), true), (pre (i64B i.imm), true), (pre (true && fitB (accB true (accB true (accB true (accB true (accB true (accB true (accB true (accB true ByteArray.empty (some (nameZ i.op))) (some (sfxZ i.aq i.rl))) (some (oneB 32))) (some (numZ i.rd))) (some (Utf8.encode 44))) (some (Utf8.encode 32))) (some (numZ i.a))) (some (Utf8.encode 44))) (some (Utf8.encode 32))), true), (pre (true && fitB (accB true (accB true (accB true (accB true (accB true (accB true (accB true ByteArray.empty (some (nameZ i.op))) (some (sfxZ i.aq i.rl))) (some (oneB 32))) (some (numZ i.rd))) (some (Utf8.encode 44))) (some (Utf8.encode 32))) (some (numZ i.a))) (some (Utf8.encode 44))), true), (pre (true && fitB (accB true (accB true (accB true (accB true (accB true (accB true ByteArray.empty (some (nameZ i.op))) (some (sfxZ i.aq i.rl))) (some (oneB 32))) (some (numZ i.rd))) (some (Utf8.encode 44))) (some (Utf8.encode 32))) (some (numZ i.a))), true), (pre (rg32B i.a), true), (pre (true && fitB (accB true (accB true (accB true (accB true (accB true ByteArray.empty (some (nameZ i.op))) (some (sfxZ i.aq i.rl))) (some (oneB 32))) (some (numZ i.rd))) (some (Utf8.encode 44))) (some (Utf8.encode 32))), true), (pre (true && fitB (accB true (accB true (accB true (accB true ByteArray.empty (some (nameZ i.op))) (some (sfxZ i.aq i.rl))) (some (oneB 32))) (some (numZ i.rd))) (some (Utf8.encode 44))), true), (pre (true && fitB (accB true (accB true (accB true ByteArray.empty (some (nameZ i.op))) (some (sfxZ i.aq i.rl))) (some (oneB 32))) (some (numZ i.rd))), true), (pre (rg32B i.rd), true), (pre (decide (0 ≤ 32 ∧ 32 < 256) && fitB (accB true (accB true ByteArray.empty (some (nameZ i.op))) (some (sfxZ i.aq i.rl))) (some (oneB 32))), true), (pre (layC i.op == 3), true), (pre (true && fitB (accB true ByteArray.empty (some (nameZ i.op))) (some (sfxZ i.aq i.rl))), true), (pre (true && fitB ByteArray.empty (some (nameZ i.op))), true), (!mayB i, false)], []) := by kernel_rfl
--@s2end
--@s2 wt_4 "(es er : Value) (i : In)" "simF (envT es er 4) 1000 10 [] $O 7 OIn [.inl (inV i)]" y:f
theorem wt_4_y (es er : Value) (i : In) : simF (envT es er 4) 1000 10 [] [false] 7 OIn [.inl (inV i)] = some (false, [Sum.inl (Value.string (accB true (accB true (accB true (accB true (accB true (accB true (accB true (accB true (accB true (accB true ByteArray.empty (some (nameZ i.op))) (some (sfxZ i.aq i.rl))) (some (oneB 32))) (some (numZ i.a))) (some (Utf8.encode 44))) (some (Utf8.encode 32))) (some (numZ i.b))) (some (Utf8.encode 44))) (some (Utf8.encode 32))) (some (digZ i.imm))))], [(pre (true && fitB (accB true (accB true (accB true (accB true (accB true (accB true (accB true (accB true (accB true (accB true ByteArray.empty (some (nameZ i.op))) (some (sfxZ i.aq i.rl))) (some (oneB 32))) (some (numZ i.a))) (some (Utf8.encode 44))) (some (Utf8.encode 32))) (some (numZ i.b))) (some (Utf8.encode 44))) (some (Utf8.encode 32))) (some (digZ i.imm))) none), true), (pre (true && fitB (accB true (accB true (accB true (accB true (accB true (accB true (accB true (accB true (accB true ByteArray.empty (some (nameZ i.op))) (some (sfxZ i.aq i.rl))) (some (oneB 32))) (some (numZ i.a))) (some (Utf8.encode 44))) (some (Utf8.encode 32))) (some (numZ i.b))) (some (Utf8.encode 44))) (some (Utf8.encode 32))) (some (digZ i.imm))), true), (pre (i64B i.imm), true), (pre (true && fitB (accB true (accB true (accB true (accB true (accB true (accB true (accB true (accB true ByteArray.empty (some (nameZ i.op))) (some (sfxZ i.aq i.rl))) (some (oneB 32))) (some (numZ i.a))) (some (Utf8.encode 44))) (some (Utf8.encode 32))) (some (numZ i.b))) (some (Utf8.encode 44))) (some (Utf8.encode 32))), true), (pre (true && fitB (accB true (accB true (accB true (accB true (accB true (accB true (accB true ByteArray.empty (some (nameZ i.op))) (some (sfxZ i.aq i.rl))) (some (oneB 32))) (some (numZ i.a))) (some (Utf8.encode 44))) (some (Utf8.encode 32))) (some (numZ i.b))) (some (Utf8.encode 44))), true), (pre (true && fitB (accB true (accB true (accB true (accB true (accB true (accB true ByteArray.empty (some (nameZ i.op))) (some (sfxZ i.aq i.rl))) (some (oneB 32))) (some (numZ i.a))) (some (Utf8.encode 44))) (some (Utf8.encode 32))) (some (numZ i.b))), true), (pre (rg32B i.b), true), (pre (true && fitB (accB true (accB true (accB true (accB true (accB true ByteArray.empty (some (nameZ i.op))) (some (sfxZ i.aq i.rl))) (some (oneB 32))) (some (numZ i.a))) (some (Utf8.encode 44))) (some (Utf8.encode 32))), true), (pre (true && fitB (accB true (accB true (accB true (accB true ByteArray.empty (some (nameZ i.op))) (some (sfxZ i.aq i.rl))) (some (oneB 32))) (some (numZ i.a))) (some (Utf8.encode 44))), true), (pre (true && fitB (accB true (accB true (accB true ByteArray.empty (some (nameZ i.op))) (some (sfxZ i.aq i.rl))) (some (oneB 32))) (some (numZ i.a))), true), (pre (rg32B i.a), true), (pre (decide (0 ≤ 32 ∧ 32 < 256) && fitB (accB true (accB true ByteArray.empty (some (nameZ i.op))) (some (sfxZ i.aq i.rl))) (some (oneB 32))), true), (pre (layC i.op == 4), true), (pre (true && fitB (accB true ByteArray.empty (some (nameZ i.op))) (some (sfxZ i.aq i.rl))), true), (pre (true && fitB ByteArray.empty (some (nameZ i.op))), true), (!mayB i, false)], []) := by kernel_rfl
--@s2end
--@s2 wt_5 "(es er : Value) (i : In)" "simF (envT es er 5) 1000 10 [] $O 7 OIn [.inl (inV i)]" y:f
theorem wt_5_y (es er : Value) (i : In) : simF (envT es er 5) 1000 10 [] [false] 7 OIn [.inl (inV i)] = some (false, [Sum.inl (Value.string (accB true (accB true (accB true (accB true (accB true (accB true (accB true (accB true (accB true (accB true ByteArray.empty (some (nameZ i.op))) (some (sfxZ i.aq i.rl))) (some (oneB 32))) (some (numZ i.b))) (some (Utf8.encode 44))) (some (Utf8.encode 32))) (some (digZ i.imm))) (some (Utf8.encode 40))) (some (numZ i.a))) (some (Utf8.encode 41))))], [(pre (true && fitB (accB true (accB true (accB true (accB true (accB true (accB true (accB true (accB true (accB true (accB true ByteArray.empty (some (nameZ i.op))) (some (sfxZ i.aq i.rl))) (some (oneB 32))) (some (numZ i.b))) (some (Utf8.encode 44))) (some (Utf8.encode 32))) (some (digZ i.imm))) (some (Utf8.encode 40))) (some (numZ i.a))) (some (Utf8.encode 41))) none), true), (pre (true && fitB (accB true (accB true (accB true (accB true (accB true (accB true (accB true (accB true (accB true ByteArray.empty (some (nameZ i.op))) (some (sfxZ i.aq i.rl))) (some (oneB 32))) (some (numZ i.b))) (some (Utf8.encode 44))) (some (Utf8.encode 32))) (some (digZ i.imm))) (some (Utf8.encode 40))) (some (numZ i.a))) (some (Utf8.encode 41))), true), (pre (true && fitB (accB true (accB true (accB true (accB true (accB true (accB true (accB true (accB true ByteArray.empty (some (nameZ i.op))) (some (sfxZ i.aq i.rl))) (some (oneB 32))) (some (numZ i.b))) (some (Utf8.encode 44))) (some (Utf8.encode 32))) (some (digZ i.imm))) (some (Utf8.encode 40))) (some (numZ i.a))), true), (pre (rg32B i.a), true), (pre (true && fitB (accB true (accB true (accB true (accB true (accB true (accB true (accB true ByteArray.empty (some (nameZ i.op))) (some (sfxZ i.aq i.rl))) (some (oneB 32))) (some (numZ i.b))) (some (Utf8.encode 44))) (some (Utf8.encode 32))) (some (digZ i.imm))) (some (Utf8.encode 40))), true), (pre (true && fitB (accB true (accB true (accB true (accB true (accB true (accB true ByteArray.empty (some (nameZ i.op))) (some (sfxZ i.aq i.rl))) (some (oneB 32))) (some (numZ i.b))) (some (Utf8.encode 44))) (some (Utf8.encode 32))) (some (digZ i.imm))), true), (pre (i64B i.imm), true), (pre (true && fitB (accB true (accB true (accB true (accB true (accB true ByteArray.empty (some (nameZ i.op))) (some (sfxZ i.aq i.rl))) (some (oneB 32))) (some (numZ i.b))) (some (Utf8.encode 44))) (some (Utf8.encode 32))), true), (pre (true && fitB (accB true (accB true (accB true (accB true ByteArray.empty (some (nameZ i.op))) (some (sfxZ i.aq i.rl))) (some (oneB 32))) (some (numZ i.b))) (some (Utf8.encode 44))), true), (pre (true && fitB (accB true (accB true (accB true ByteArray.empty (some (nameZ i.op))) (some (sfxZ i.aq i.rl))) (some (oneB 32))) (some (numZ i.b))), true), (pre (rg32B i.b), true), (pre (decide (0 ≤ 32 ∧ 32 < 256) && fitB (accB true (accB true ByteArray.empty (some (nameZ i.op))) (some (sfxZ i.aq i.rl))) (some (oneB 32))), true), (pre (layC i.op == 5), true), (pre (true && fitB (accB true ByteArray.empty (some (nameZ i.op))) (some (sfxZ i.aq i.rl))), true), (pre (true && fitB ByteArray.empty (some (nameZ i.op))), true), (!mayB i, false)], []) := by kernel_rfl
--@s2end
--@s2 wt_6 "(es er : Value) (i : In)" "simF (envT es er 6) 1000 10 [] $O 7 OIn [.inl (inV i)]" y:f
theorem wt_6_y (es er : Value) (i : In) : simF (envT es er 6) 1000 10 [] [false] 7 OIn [.inl (inV i)] = some (false, [Sum.inl (Value.string (accB true (accB true (accB true (accB true (accB true (accB true (accB true (accB true (accB true (accB true ByteArray.empty (some (nameZ i.op))) (some (sfxZ i.aq i.rl))) (some (oneB 32))) (some (numZ i.rd))) (some (Utf8.encode 44))) (some (Utf8.encode 32))) (some (numZ i.a))) (some (Utf8.encode 44))) (some (Utf8.encode 32))) (some (numZ i.b))))], [(pre (true && fitB (accB true (accB true (accB true (accB true (accB true (accB true (accB true (accB true (accB true (accB true ByteArray.empty (some (nameZ i.op))) (some (sfxZ i.aq i.rl))) (some (oneB 32))) (some (numZ i.rd))) (some (Utf8.encode 44))) (some (Utf8.encode 32))) (some (numZ i.a))) (some (Utf8.encode 44))) (some (Utf8.encode 32))) (some (numZ i.b))) none), true), (pre (true && fitB (accB true (accB true (accB true (accB true (accB true (accB true (accB true (accB true (accB true ByteArray.empty (some (nameZ i.op))) (some (sfxZ i.aq i.rl))) (some (oneB 32))) (some (numZ i.rd))) (some (Utf8.encode 44))) (some (Utf8.encode 32))) (some (numZ i.a))) (some (Utf8.encode 44))) (some (Utf8.encode 32))) (some (numZ i.b))), true), (pre (rg32B i.b), true), (pre (true && fitB (accB true (accB true (accB true (accB true (accB true (accB true (accB true (accB true ByteArray.empty (some (nameZ i.op))) (some (sfxZ i.aq i.rl))) (some (oneB 32))) (some (numZ i.rd))) (some (Utf8.encode 44))) (some (Utf8.encode 32))) (some (numZ i.a))) (some (Utf8.encode 44))) (some (Utf8.encode 32))), true), (pre (true && fitB (accB true (accB true (accB true (accB true (accB true (accB true (accB true ByteArray.empty (some (nameZ i.op))) (some (sfxZ i.aq i.rl))) (some (oneB 32))) (some (numZ i.rd))) (some (Utf8.encode 44))) (some (Utf8.encode 32))) (some (numZ i.a))) (some (Utf8.encode 44))), true), (pre (true && fitB (accB true (accB true (accB true (accB true (accB true (accB true ByteArray.empty (some (nameZ i.op))) (some (sfxZ i.aq i.rl))) (some (oneB 32))) (some (numZ i.rd))) (some (Utf8.encode 44))) (some (Utf8.encode 32))) (some (numZ i.a))), true), (pre (rg32B i.a), true), (pre (true && fitB (accB true (accB true (accB true (accB true (accB true ByteArray.empty (some (nameZ i.op))) (some (sfxZ i.aq i.rl))) (some (oneB 32))) (some (numZ i.rd))) (some (Utf8.encode 44))) (some (Utf8.encode 32))), true), (pre (true && fitB (accB true (accB true (accB true (accB true ByteArray.empty (some (nameZ i.op))) (some (sfxZ i.aq i.rl))) (some (oneB 32))) (some (numZ i.rd))) (some (Utf8.encode 44))), true), (pre (true && fitB (accB true (accB true (accB true ByteArray.empty (some (nameZ i.op))) (some (sfxZ i.aq i.rl))) (some (oneB 32))) (some (numZ i.rd))), true), (pre (rg32B i.rd), true), (pre (decide (0 ≤ 32 ∧ 32 < 256) && fitB (accB true (accB true ByteArray.empty (some (nameZ i.op))) (some (sfxZ i.aq i.rl))) (some (oneB 32))), true), (pre (layC i.op == 6), true), (pre (true && fitB (accB true ByteArray.empty (some (nameZ i.op))) (some (sfxZ i.aq i.rl))), true), (pre (true && fitB ByteArray.empty (some (nameZ i.op))), true), (!mayB i, false)], []) := by kernel_rfl
--@s2end
--@s2 wt_7 "(es er : Value) (i : In)" "simF (envT es er 7) 1000 10 [] $O 7 OIn [.inl (inV i)]" y:f
theorem wt_7_y (es er : Value) (i : In) : simF (envT es er 7) 1000 10 [] [false] 7 OIn [.inl (inV i)] = some (false, [Sum.inl (Value.string (accB true (accB true (accB true (accB true (accB true (accB true (accB true ByteArray.empty (some (nameZ i.op))) (some (sfxZ i.aq i.rl))) (some (oneB 32))) (some (sideZ (arZ BinOp.shr IntKind.i64 i.imm 4 % 16)))) (some (Utf8.encode 44))) (some (Utf8.encode 32))) (some (sideZ (i.imm % 16)))))], [(pre (true && fitB (accB true (accB true (accB true (accB true (accB true (accB true (accB true ByteArray.empty (some (nameZ i.op))) (some (sfxZ i.aq i.rl))) (some (oneB 32))) (some (sideZ (arZ BinOp.shr IntKind.i64 i.imm 4 % 16)))) (some (Utf8.encode 44))) (some (Utf8.encode 32))) (some (sideZ (i.imm % 16)))) none), true), (pre (true && fitB (accB true (accB true (accB true (accB true (accB true (accB true ByteArray.empty (some (nameZ i.op))) (some (sfxZ i.aq i.rl))) (some (oneB 32))) (some (sideZ (arZ BinOp.shr IntKind.i64 i.imm 4 % 16)))) (some (Utf8.encode 44))) (some (Utf8.encode 32))) (some (sideZ (i.imm % 16)))), true), (pre (b256 i.imm), true), (pre (true && fitB (accB true (accB true (accB true (accB true (accB true ByteArray.empty (some (nameZ i.op))) (some (sfxZ i.aq i.rl))) (some (oneB 32))) (some (sideZ (arZ BinOp.shr IntKind.i64 i.imm 4 % 16)))) (some (Utf8.encode 44))) (some (Utf8.encode 32))), true), (pre (true && fitB (accB true (accB true (accB true (accB true ByteArray.empty (some (nameZ i.op))) (some (sfxZ i.aq i.rl))) (some (oneB 32))) (some (sideZ (arZ BinOp.shr IntKind.i64 i.imm 4 % 16)))) (some (Utf8.encode 44))), true), (pre (true && fitB (accB true (accB true (accB true ByteArray.empty (some (nameZ i.op))) (some (sfxZ i.aq i.rl))) (some (oneB 32))) (some (sideZ (arZ BinOp.shr IntKind.i64 i.imm 4 % 16)))), true), (pre (b256 (arZ BinOp.shr IntKind.i64 i.imm 4)), true), (pre (decide (0 ≤ 32 ∧ 32 < 256) && fitB (accB true (accB true ByteArray.empty (some (nameZ i.op))) (some (sfxZ i.aq i.rl))) (some (oneB 32))), true), (pre (layC i.op == 7), true), (pre (true && fitB (accB true ByteArray.empty (some (nameZ i.op))) (some (sfxZ i.aq i.rl))), true), (pre (true && fitB ByteArray.empty (some (nameZ i.op))), true), (!mayB i, false)], []) := by kernel_rfl
--@s2end
--@s2 wt_8 "(es er : Value) (i : In)" "simF (envT es er 8) 1000 10 [] $O 7 OIn [.inl (inV i)]" y:f
theorem wt_8_y (es er : Value) (i : In) : simF (envT es er 8) 1000 10 [] [false] 7 OIn [.inl (inV i)] = some (false, [Sum.inl (Value.string (accB true (accB true (accB true (accB true (accB true (accB true (accB true (accB true (accB true ByteArray.empty (some (nameZ i.op))) (some (sfxZ i.aq i.rl))) (some (oneB 32))) (some (numZ i.rd))) (some (Utf8.encode 44))) (some (Utf8.encode 32))) (some (Utf8.encode 40))) (some (numZ i.a))) (some (Utf8.encode 41))))], [(pre (true && fitB (accB true (accB true (accB true (accB true (accB true (accB true (accB true (accB true (accB true ByteArray.empty (some (nameZ i.op))) (some (sfxZ i.aq i.rl))) (some (oneB 32))) (some (numZ i.rd))) (some (Utf8.encode 44))) (some (Utf8.encode 32))) (some (Utf8.encode 40))) (some (numZ i.a))) (some (Utf8.encode 41))) none), true), (pre (true && fitB (accB true (accB true (accB true (accB true (accB true (accB true (accB true (accB true ByteArray.empty (some (nameZ i.op))) (some (sfxZ i.aq i.rl))) (some (oneB 32))) (some (numZ i.rd))) (some (Utf8.encode 44))) (some (Utf8.encode 32))) (some (Utf8.encode 40))) (some (numZ i.a))) (some (Utf8.encode 41))), true), (pre (true && fitB (accB true (accB true (accB true (accB true (accB true (accB true (accB true ByteArray.empty (some (nameZ i.op))) (some (sfxZ i.aq i.rl))) (some (oneB 32))) (some (numZ i.rd))) (some (Utf8.encode 44))) (some (Utf8.encode 32))) (some (Utf8.encode 40))) (some (numZ i.a))), true), (pre (rg32B i.a), true), (pre (true && fitB (accB true (accB true (accB true (accB true (accB true (accB true ByteArray.empty (some (nameZ i.op))) (some (sfxZ i.aq i.rl))) (some (oneB 32))) (some (numZ i.rd))) (some (Utf8.encode 44))) (some (Utf8.encode 32))) (some (Utf8.encode 40))), true), (pre (true && fitB (accB true (accB true (accB true (accB true (accB true ByteArray.empty (some (nameZ i.op))) (some (sfxZ i.aq i.rl))) (some (oneB 32))) (some (numZ i.rd))) (some (Utf8.encode 44))) (some (Utf8.encode 32))), true), (pre (true && fitB (accB true (accB true (accB true (accB true ByteArray.empty (some (nameZ i.op))) (some (sfxZ i.aq i.rl))) (some (oneB 32))) (some (numZ i.rd))) (some (Utf8.encode 44))), true), (pre (true && fitB (accB true (accB true (accB true ByteArray.empty (some (nameZ i.op))) (some (sfxZ i.aq i.rl))) (some (oneB 32))) (some (numZ i.rd))), true), (pre (rg32B i.rd), true), (pre (decide (0 ≤ 32 ∧ 32 < 256) && fitB (accB true (accB true ByteArray.empty (some (nameZ i.op))) (some (sfxZ i.aq i.rl))) (some (oneB 32))), true), (pre (layC i.op == 8), true), (pre (true && fitB (accB true ByteArray.empty (some (nameZ i.op))) (some (sfxZ i.aq i.rl))), true), (pre (true && fitB ByteArray.empty (some (nameZ i.op))), true), (!mayB i, false)], []) := by kernel_rfl
--@s2end
--@s2 wt_9 "(es er : Value) (i : In)" "simF (envT es er 9) 1000 10 [] $O 7 OIn [.inl (inV i)]" y:f
theorem wt_9_y (es er : Value) (i : In) : simF (envT es er 9) 1000 10 [] [false] 7 OIn [.inl (inV i)] = some (false, [Sum.inl (Value.string (accB true (accB true (accB true (accB true (accB true (accB true (accB true (accB true (accB true (accB true (accB true (accB true ByteArray.empty (some (nameZ i.op))) (some (sfxZ i.aq i.rl))) (some (oneB 32))) (some (numZ i.rd))) (some (Utf8.encode 44))) (some (Utf8.encode 32))) (some (numZ i.b))) (some (Utf8.encode 44))) (some (Utf8.encode 32))) (some (Utf8.encode 40))) (some (numZ i.a))) (some (Utf8.encode 41))))], [(pre (true && fitB (accB true (accB true (accB true (accB true (accB true (accB true (accB true (accB true (accB true (accB true (accB true (accB true ByteArray.empty (some (nameZ i.op))) (some (sfxZ i.aq i.rl))) (some (oneB 32))) (some (numZ i.rd))) (some (Utf8.encode 44))) (some (Utf8.encode 32))) (some (numZ i.b))) (some (Utf8.encode 44))) (some (Utf8.encode 32))) (some (Utf8.encode 40))) (some (numZ i.a))) (some (Utf8.encode 41))) none), true), (pre (true && fitB (accB true (accB true (accB true (accB true (accB true (accB true (accB true (accB true (accB true (accB true (accB true ByteArray.empty (some (nameZ i.op))) (some (sfxZ i.aq i.rl))) (some (oneB 32))) (some (numZ i.rd))) (some (Utf8.encode 44))) (some (Utf8.encode 32))) (some (numZ i.b))) (some (Utf8.encode 44))) (some (Utf8.encode 32))) (some (Utf8.encode 40))) (some (numZ i.a))) (some (Utf8.encode 41))), true), (pre (true && fitB (accB true (accB true (accB true (accB true (accB true (accB true (accB true (accB true (accB true (accB true ByteArray.empty (some (nameZ i.op))) (some (sfxZ i.aq i.rl))) (some (oneB 32))) (some (numZ i.rd))) (some (Utf8.encode 44))) (some (Utf8.encode 32))) (some (numZ i.b))) (some (Utf8.encode 44))) (some (Utf8.encode 32))) (some (Utf8.encode 40))) (some (numZ i.a))), true), (pre (rg32B i.a), true), (pre (true && fitB (accB true (accB true (accB true (accB true (accB true (accB true (accB true (accB true (accB true ByteArray.empty (some (nameZ i.op))) (some (sfxZ i.aq i.rl))) (some (oneB 32))) (some (numZ i.rd))) (some (Utf8.encode 44))) (some (Utf8.encode 32))) (some (numZ i.b))) (some (Utf8.encode 44))) (some (Utf8.encode 32))) (some (Utf8.encode 40))), true), (pre (true && fitB (accB true (accB true (accB true (accB true (accB true (accB true (accB true (accB true ByteArray.empty (some (nameZ i.op))) (some (sfxZ i.aq i.rl))) (some (oneB 32))) (some (numZ i.rd))) (some (Utf8.encode 44))) (some (Utf8.encode 32))) (some (numZ i.b))) (some (Utf8.encode 44))) (some (Utf8.encode 32))), true), (pre (true && fitB (accB true (accB true (accB true (accB true (accB true (accB true (accB true ByteArray.empty (some (nameZ i.op))) (some (sfxZ i.aq i.rl))) (some (oneB 32))) (some (numZ i.rd))) (some (Utf8.encode 44))) (some (Utf8.encode 32))) (some (numZ i.b))) (some (Utf8.encode 44))), true), (pre (true && fitB (accB true (accB true (accB true (accB true (accB true (accB true ByteArray.empty (some (nameZ i.op))) (some (sfxZ i.aq i.rl))) (some (oneB 32))) (some (numZ i.rd))) (some (Utf8.encode 44))) (some (Utf8.encode 32))) (some (numZ i.b))), true), (pre (rg32B i.b), true), (pre (true && fitB (accB true (accB true (accB true (accB true (accB true ByteArray.empty (some (nameZ i.op))) (some (sfxZ i.aq i.rl))) (some (oneB 32))) (some (numZ i.rd))) (some (Utf8.encode 44))) (some (Utf8.encode 32))), true), (pre (true && fitB (accB true (accB true (accB true (accB true ByteArray.empty (some (nameZ i.op))) (some (sfxZ i.aq i.rl))) (some (oneB 32))) (some (numZ i.rd))) (some (Utf8.encode 44))), true), (pre (true && fitB (accB true (accB true (accB true ByteArray.empty (some (nameZ i.op))) (some (sfxZ i.aq i.rl))) (some (oneB 32))) (some (numZ i.rd))), true), (pre (rg32B i.rd), true), (pre (decide (0 ≤ 32 ∧ 32 < 256) && fitB (accB true (accB true ByteArray.empty (some (nameZ i.op))) (some (sfxZ i.aq i.rl))) (some (oneB 32))), true), (pre (layC i.op == 9), true), (pre (true && fitB (accB true ByteArray.empty (some (nameZ i.op))) (some (sfxZ i.aq i.rl))), true), (pre (true && fitB ByteArray.empty (some (nameZ i.op))), true), (!mayB i, false)], []) := by kernel_rfl
--@s2end
theorem toL_acc (op : Bool) (a : ByteArray) (s : Option ByteArray) : toL (accB op a s) = match s with | some s => toL a ++ toL s | none => toL a := by
  cases s with
  | none => rfl
  | some s => cases op
              · exact toL_app a s
              · exact toL_cat a s
theorem toL_enc44 : toL (Utf8.encode 44) = [44] := by decide +kernel
theorem toL_enc32 : toL (Utf8.encode 32) = [32] := by decide +kernel
theorem toL_enc40 : toL (Utf8.encode 40) = [40] := by decide +kernel
theorem toL_enc41 : toL (Utf8.encode 41) = [41] := by decide +kernel
theorem toL_one32 : toL (oneB 32) = [32] := by decide +kernel
theorem toL_emp : toL ByteArray.empty = [] := rfl
theorem fitB_ok {c : Bool} {acc s : ByteArray} (hc : c = true) (h : (toL acc).length + (toL s).length + 4 ≤ 140737488355328) : pre (c && fitB acc (some s)) = true := by
  rw [hc]; unfold pre fitB
  simp only [Bool.true_and]
  exact decide_eq_true h
theorem no_mem' : ∀ n : Fin 88, (formZ (n.val : Nat) == 7 || formZ (n.val : Nat) == 8) = true → (((n.val : Nat) : Int) == 4 || readZ (n.val : Nat)) = false := by decide +kernel
theorem no_mem {op : Int} (h : formZ op = 7 ∨ formZ op = 8) : (op == 4 || readZ op) = false := by
  rcases op_cases op with ⟨n, h1, h2, rfl⟩ | hb
  · exact no_mem' ⟨n, h2⟩ (by rcases h with h | h <;> simp [h])
  · rw [formZ_out hb] at h; rcases h with h | h <;> cases h
theorem shr4 {v : Int} (h : 0 ≤ v) : arZ BinOp.shr IntKind.i64 v 4 = v / 16 := by
  rw [arZ_eq]
  show v.fdiv (2 ^ (min 4 64)) = _
  rw [show (2 : Int) ^ (min 4 64) = 16 by decide, Int.fdiv_eq_ediv_of_nonneg _ (by decide)]
theorem text_ret (es er : Value) (i : In) (w : World) (hG : GlobOk (gl6 es er) w) : Ret Tryz.prog 7 #[inV i] (.string (textZ i)) w := by
  cases hm : mayB i
  · refine (ret6 (envT_ok es er 0) _ _ (wt_no_n es er i) (all_cons (by rw [hm]; rfl) all_nil) Tryz.func7 w [inV i] hG ⟨rfl, trivial⟩).of_eq ?_
    congr 1
    exact toL_inj (by rw [textZ_eq, hm]; rfl)
  have F := may_fld hm
  have hr := form_rng (may_ok hm)
  have hI := imm_rng F.im hr.1 hr.2
  have hs := imm_small hm
  have n0 := name_len (may_ok hm)
  have n1 := reg_len F.rd0 F.rd1
  have n2 := reg_len F.a0 F.a1
  have n3 := reg_len F.b0 F.b1
  have n4 := digL_len i.imm
  have n5 : (sfxL i.aq i.rl).length ≤ 5 := by cases i.aq <;> cases i.rl <;> decide
  have o1 : pre (rg32B i.rd) = true := by unfold pre rg32B; exact decide_eq_true (by have := F.rd0; have := F.rd1; omega)
  have o2 : pre (rg32B i.a) = true := by unfold pre rg32B; exact decide_eq_true (by have := F.a0; have := F.a1; omega)
  have o3 : pre (rg32B i.b) = true := by unfold pre rg32B; exact decide_eq_true (by have := F.b0; have := F.b1; omega)
  have o4 : pre (i64B i.imm) = true := by unfold pre i64B; exact decide_eq_true (by omega)
  have o5 : (!mayB i) = false := by rw [hm]; rfl
  have hk' : formZ i.op = 0 ∨ formZ i.op = 1 ∨ formZ i.op = 2 ∨ formZ i.op = 3 ∨ formZ i.op = 4 ∨ formZ i.op = 5 ∨ formZ i.op = 6 ∨ formZ i.op = 7 ∨ formZ i.op = 8 ∨ formZ i.op = 9 ∨ formZ i.op = 10 ∨ formZ i.op = 11 := by clear hI; omega
  clear F hr hs
  rcases hk' with e | e | e | e | e | e | e | e | e | e | e | e
  · have oc : layC i.op = 0 := by unfold layC; rw [e]; rfl
    have ok : pre (layC i.op == 0) = true := by rw [oc]; rfl
    refine (ret6 (envT_ok es er 0) _ _ (wt_0_y es er i) ?_ Tryz.func7 w [inV i] hG ⟨rfl, trivial⟩).of_eq ?_
    · (repeat refine all_cons (by
        first
          | assumption
          | rfl
          | (refine fitB_ok rfl ?_; simp only [toL_acc, toL_enc44, toL_enc32, toL_enc40, toL_enc41, toL_one32, toL_emp, toL_lit, numZ_eq, digZ_eq, sideZ_eq, sfxZ_eq, List.length_append, List.length_cons, List.length_nil]; omega)) ?_)
      exact all_nil
    · congr 1
      refine toL_inj ?_
      simp only [textZ_eq, cond_true, cond_false, textL, headL, toL_acc, toL_enc44, toL_enc32, toL_enc40, toL_enc41, toL_one32, toL_emp, toL_lit, numZ_eq, digZ_eq, sideZ_eq, sfxZ_eq, hm, e, List.append_nil]
      simp
  · have oc : layC i.op = 1 := by unfold layC; rw [e]; rfl
    have ok : pre (layC i.op == 1) = true := by rw [oc]; rfl
    refine (ret6 (envT_ok es er 1) _ _ (wt_1_y es er i) ?_ Tryz.func7 w [inV i] hG ⟨rfl, trivial⟩).of_eq ?_
    · (repeat refine all_cons (by
        first
          | assumption
          | rfl
          | (refine fitB_ok rfl ?_; simp only [toL_acc, toL_enc44, toL_enc32, toL_enc40, toL_enc41, toL_one32, toL_emp, toL_lit, numZ_eq, digZ_eq, sideZ_eq, sfxZ_eq, List.length_append, List.length_cons, List.length_nil]; omega)) ?_)
      exact all_nil
    · congr 1
      refine toL_inj ?_
      simp only [textZ_eq, cond_true, cond_false, textL, headL, toL_acc, toL_enc44, toL_enc32, toL_enc40, toL_enc41, toL_one32, toL_emp, toL_lit, numZ_eq, digZ_eq, sideZ_eq, sfxZ_eq, hm, e, opsL_12 (.inl e)]
      simp
  · have oc : layC i.op = 1 := by unfold layC; rw [e]; rfl
    have ok : pre (layC i.op == 1) = true := by rw [oc]; rfl
    refine (ret6 (envT_ok es er 1) _ _ (wt_1_y es er i) ?_ Tryz.func7 w [inV i] hG ⟨rfl, trivial⟩).of_eq ?_
    · (repeat refine all_cons (by
        first
          | assumption
          | rfl
          | (refine fitB_ok rfl ?_; simp only [toL_acc, toL_enc44, toL_enc32, toL_enc40, toL_enc41, toL_one32, toL_emp, toL_lit, numZ_eq, digZ_eq, sideZ_eq, sfxZ_eq, List.length_append, List.length_cons, List.length_nil]; omega)) ?_)
      exact all_nil
    · congr 1
      refine toL_inj ?_
      simp only [textZ_eq, cond_true, cond_false, textL, headL, toL_acc, toL_enc44, toL_enc32, toL_enc40, toL_enc41, toL_one32, toL_emp, toL_lit, numZ_eq, digZ_eq, sideZ_eq, sfxZ_eq, hm, e, opsL_12 (.inr e)]
      simp
  · cases h4 : (i.op == 4 || readZ i.op)
    · have oc : layC i.op = 3 := by unfold layC; rw [e, h4]; rfl
      have ok : pre (layC i.op == 3) = true := by rw [oc]; rfl
      refine (ret6 (envT_ok es er 3) _ _ (wt_3_y es er i) ?_ Tryz.func7 w [inV i] hG ⟨rfl, trivial⟩).of_eq ?_
      · (repeat refine all_cons (by
          first
            | assumption
            | rfl
            | (refine fitB_ok rfl ?_; simp only [toL_acc, toL_enc44, toL_enc32, toL_enc40, toL_enc41, toL_one32, toL_emp, toL_lit, numZ_eq, digZ_eq, sideZ_eq, sfxZ_eq, List.length_append, List.length_cons, List.length_nil]; omega)) ?_)
        exact all_nil
      · congr 1
        refine toL_inj ?_
        simp only [textZ_eq, cond_true, cond_false, textL, headL, toL_acc, toL_enc44, toL_enc32, toL_enc40, toL_enc41, toL_one32, toL_emp, toL_lit, numZ_eq, digZ_eq, sideZ_eq, sfxZ_eq, hm, e, opsL_imm (.inl e) h4]
        simp
    · have oc : layC i.op = 2 := by unfold layC; rw [e, h4]; rfl
      have ok : pre (layC i.op == 2) = true := by rw [oc]; rfl
      refine (ret6 (envT_ok es er 2) _ _ (wt_2_y es er i) ?_ Tryz.func7 w [inV i] hG ⟨rfl, trivial⟩).of_eq ?_
      · (repeat refine all_cons (by
          first
            | assumption
            | rfl
            | (refine fitB_ok rfl ?_; simp only [toL_acc, toL_enc44, toL_enc32, toL_enc40, toL_enc41, toL_one32, toL_emp, toL_lit, numZ_eq, digZ_eq, sideZ_eq, sfxZ_eq, List.length_append, List.length_cons, List.length_nil]; omega)) ?_)
        exact all_nil
      · congr 1
        refine toL_inj ?_
        simp only [textZ_eq, cond_true, cond_false, textL, headL, toL_acc, toL_enc44, toL_enc32, toL_enc40, toL_enc41, toL_one32, toL_emp, toL_lit, numZ_eq, digZ_eq, sideZ_eq, sfxZ_eq, hm, e, opsL_mem (.inl e) h4]
        simp
  · have oc : layC i.op = 4 := by unfold layC; rw [e]; rfl
    have ok : pre (layC i.op == 4) = true := by rw [oc]; rfl
    refine (ret6 (envT_ok es er 4) _ _ (wt_4_y es er i) ?_ Tryz.func7 w [inV i] hG ⟨rfl, trivial⟩).of_eq ?_
    · (repeat refine all_cons (by
        first
          | assumption
          | rfl
          | (refine fitB_ok rfl ?_; simp only [toL_acc, toL_enc44, toL_enc32, toL_enc40, toL_enc41, toL_one32, toL_emp, toL_lit, numZ_eq, digZ_eq, sideZ_eq, sfxZ_eq, List.length_append, List.length_cons, List.length_nil]; omega)) ?_)
      exact all_nil
    · congr 1
      refine toL_inj ?_
      simp only [textZ_eq, cond_true, cond_false, textL, headL, toL_acc, toL_enc44, toL_enc32, toL_enc40, toL_enc41, toL_one32, toL_emp, toL_lit, numZ_eq, digZ_eq, sideZ_eq, sfxZ_eq, hm, e, opsL_4 e]
      simp
  · have oc : layC i.op = 5 := by unfold layC; rw [e]; rfl
    have ok : pre (layC i.op == 5) = true := by rw [oc]; rfl
    refine (ret6 (envT_ok es er 5) _ _ (wt_5_y es er i) ?_ Tryz.func7 w [inV i] hG ⟨rfl, trivial⟩).of_eq ?_
    · (repeat refine all_cons (by
        first
          | assumption
          | rfl
          | (refine fitB_ok rfl ?_; simp only [toL_acc, toL_enc44, toL_enc32, toL_enc40, toL_enc41, toL_one32, toL_emp, toL_lit, numZ_eq, digZ_eq, sideZ_eq, sfxZ_eq, List.length_append, List.length_cons, List.length_nil]; omega)) ?_)
      exact all_nil
    · congr 1
      refine toL_inj ?_
      simp only [textZ_eq, cond_true, cond_false, textL, headL, toL_acc, toL_enc44, toL_enc32, toL_enc40, toL_enc41, toL_one32, toL_emp, toL_lit, numZ_eq, digZ_eq, sideZ_eq, sfxZ_eq, hm, e, opsL_5 e]
      simp
  · have oc : layC i.op = 6 := by unfold layC; rw [e]; rfl
    have ok : pre (layC i.op == 6) = true := by rw [oc]; rfl
    refine (ret6 (envT_ok es er 6) _ _ (wt_6_y es er i) ?_ Tryz.func7 w [inV i] hG ⟨rfl, trivial⟩).of_eq ?_
    · (repeat refine all_cons (by
        first
          | assumption
          | rfl
          | (refine fitB_ok rfl ?_; simp only [toL_acc, toL_enc44, toL_enc32, toL_enc40, toL_enc41, toL_one32, toL_emp, toL_lit, numZ_eq, digZ_eq, sideZ_eq, sfxZ_eq, List.length_append, List.length_cons, List.length_nil]; omega)) ?_)
      exact all_nil
    · congr 1
      refine toL_inj ?_
      simp only [textZ_eq, cond_true, cond_false, textL, headL, toL_acc, toL_enc44, toL_enc32, toL_enc40, toL_enc41, toL_one32, toL_emp, toL_lit, numZ_eq, digZ_eq, sideZ_eq, sfxZ_eq, hm, e, opsL_6 e]
      simp
  · have oc : layC i.op = 3 := by unfold layC; rw [e]; rfl
    have h4 := no_mem (.inl e)
    have ok : pre (layC i.op == 3) = true := by rw [oc]; rfl
    refine (ret6 (envT_ok es er 3) _ _ (wt_3_y es er i) ?_ Tryz.func7 w [inV i] hG ⟨rfl, trivial⟩).of_eq ?_
    · (repeat refine all_cons (by
        first
          | assumption
          | rfl
          | (refine fitB_ok rfl ?_; simp only [toL_acc, toL_enc44, toL_enc32, toL_enc40, toL_enc41, toL_one32, toL_emp, toL_lit, numZ_eq, digZ_eq, sideZ_eq, sfxZ_eq, List.length_append, List.length_cons, List.length_nil]; omega)) ?_)
      exact all_nil
    · congr 1
      refine toL_inj ?_
      simp only [textZ_eq, cond_true, cond_false, textL, headL, toL_acc, toL_enc44, toL_enc32, toL_enc40, toL_enc41, toL_one32, toL_emp, toL_lit, numZ_eq, digZ_eq, sideZ_eq, sfxZ_eq, hm, e, opsL_imm (.inr (.inl e)) h4]
      simp
  · have oc : layC i.op = 3 := by unfold layC; rw [e]; rfl
    have h4 := no_mem (.inr e)
    have ok : pre (layC i.op == 3) = true := by rw [oc]; rfl
    refine (ret6 (envT_ok es er 3) _ _ (wt_3_y es er i) ?_ Tryz.func7 w [inV i] hG ⟨rfl, trivial⟩).of_eq ?_
    · (repeat refine all_cons (by
        first
          | assumption
          | rfl
          | (refine fitB_ok rfl ?_; simp only [toL_acc, toL_enc44, toL_enc32, toL_enc40, toL_enc41, toL_one32, toL_emp, toL_lit, numZ_eq, digZ_eq, sideZ_eq, sfxZ_eq, List.length_append, List.length_cons, List.length_nil]; omega)) ?_)
      exact all_nil
    · congr 1
      refine toL_inj ?_
      simp only [textZ_eq, cond_true, cond_false, textL, headL, toL_acc, toL_enc44, toL_enc32, toL_enc40, toL_enc41, toL_one32, toL_emp, toL_lit, numZ_eq, digZ_eq, sideZ_eq, sfxZ_eq, hm, e, opsL_imm (.inr (.inr e)) h4]
      simp
  · have oc : layC i.op = 7 := by unfold layC; rw [e]; rfl
    have h9 : 0 ≤ i.imm ∧ i.imm < 256 := by unfold immRg at hI; rw [e] at hI; simp at hI; omega
    have d1 := shr4 h9.1
    have d2 : i.imm / 16 % 16 = i.imm / 16 := Int.emod_eq_of_lt (by omega) (by omega)
    have s1 := side_len (r := i.imm / 16) (by omega) (by omega)
    have s2 := side_len (r := i.imm % 16) (by omega) (by omega)
    have s3 : (sideL (arZ BinOp.shr IntKind.i64 i.imm 4 % 16)).length ≤ 4 := by rw [d1, d2]; exact s1
    have o6 : pre (b256 i.imm) = true := by unfold pre b256; exact decide_eq_true h9
    have o7 : pre (b256 (arZ BinOp.shr IntKind.i64 i.imm 4)) = true := by unfold pre b256; rw [d1]; exact decide_eq_true (by omega)
    have ok : pre (layC i.op == 7) = true := by rw [oc]; rfl
    refine (ret6 (envT_ok es er 7) _ _ (wt_7_y es er i) ?_ Tryz.func7 w [inV i] hG ⟨rfl, trivial⟩).of_eq ?_
    · (repeat refine all_cons (by
        first
          | assumption
          | rfl
          | (refine fitB_ok rfl ?_; simp only [toL_acc, toL_enc44, toL_enc32, toL_enc40, toL_enc41, toL_one32, toL_emp, toL_lit, numZ_eq, digZ_eq, sideZ_eq, sfxZ_eq, List.length_append, List.length_cons, List.length_nil]; omega)) ?_)
      exact all_nil
    · congr 1
      refine toL_inj ?_
      simp only [textZ_eq, cond_true, cond_false, textL, headL, toL_acc, toL_enc44, toL_enc32, toL_enc40, toL_enc41, toL_one32, toL_emp, toL_lit, numZ_eq, digZ_eq, sideZ_eq, sfxZ_eq, hm, e, d1, d2, opsL_9 e]
      simp
  · have oc : layC i.op = 8 := by unfold layC; rw [e]; rfl
    have ok : pre (layC i.op == 8) = true := by rw [oc]; rfl
    refine (ret6 (envT_ok es er 8) _ _ (wt_8_y es er i) ?_ Tryz.func7 w [inV i] hG ⟨rfl, trivial⟩).of_eq ?_
    · (repeat refine all_cons (by
        first
          | assumption
          | rfl
          | (refine fitB_ok rfl ?_; simp only [toL_acc, toL_enc44, toL_enc32, toL_enc40, toL_enc41, toL_one32, toL_emp, toL_lit, numZ_eq, digZ_eq, sideZ_eq, sfxZ_eq, List.length_append, List.length_cons, List.length_nil]; omega)) ?_)
      exact all_nil
    · congr 1
      refine toL_inj ?_
      simp only [textZ_eq, cond_true, cond_false, textL, headL, toL_acc, toL_enc44, toL_enc32, toL_enc40, toL_enc41, toL_one32, toL_emp, toL_lit, numZ_eq, digZ_eq, sideZ_eq, sfxZ_eq, hm, e, opsL_10 e]
      simp
  · have oc : layC i.op = 9 := by unfold layC; rw [e]; rfl
    have ok : pre (layC i.op == 9) = true := by rw [oc]; rfl
    refine (ret6 (envT_ok es er 9) _ _ (wt_9_y es er i) ?_ Tryz.func7 w [inV i] hG ⟨rfl, trivial⟩).of_eq ?_
    · (repeat refine all_cons (by
        first
          | assumption
          | rfl
          | (refine fitB_ok rfl ?_; simp only [toL_acc, toL_enc44, toL_enc32, toL_enc40, toL_enc41, toL_one32, toL_emp, toL_lit, numZ_eq, digZ_eq, sideZ_eq, sfxZ_eq, List.length_append, List.length_cons, List.length_nil]; omega)) ?_)
      exact all_nil
    · congr 1
      refine toL_inj ?_
      simp only [textZ_eq, cond_true, cond_false, textL, headL, toL_acc, toL_enc44, toL_enc32, toL_enc40, toL_enc41, toL_one32, toL_emp, toL_lit, numZ_eq, digZ_eq, sideZ_eq, sfxZ_eq, hm, e, opsL_11 e]
      simp
theorem tText_ok {es er : Value} : TabOk Tryz.prog (gl6 es er) tText := tabV decIn_eq fun x w hG => text_ret es er x w hG
end Go.Proofs.YtgcglmnbkilfhaaGreatDoor
