/- Contracts of package enc (layer 4), by the evaluator. -/
import Derived.Test.YtilljoemebbnjaaDoorIsa
import Derived.Test.YtilljoemebbnjaaDoorPlain04
set_option linter.unusedVariables false
set_option linter.unusedSimpArgs false
namespace Go.Proofs.YtilljoemebbnjaaDoor
open Go.RowKit Sim
theorem putZ_ex : ∃ f : Int -> Int -> Int -> Int -> Int, ∀ x a n v, f x a n v = ((putF x.toNat a.toNat n.toNat v.toNat % 4294967296 : Nat) : Int) := ⟨_, fun _ _ _ _ => rfl⟩
noncomputable def putZ : Int -> Int -> Int -> Int -> Int := Classical.choose putZ_ex
theorem putZ_eq (x a n v : Int) : putZ x a n v = ((putF x.toNat a.toNat n.toNat v.toNat % 4294967296 : Nat) : Int) := Classical.choose_spec putZ_ex x a n v
def u32B (x : Int) : Bool := decide (0 <= x /\ x < 4294967296)
def putC (x a n v : Int) : Bool := u32B x && u32B v && decide (1 <= n /\ 0 <= a /\ a + n <= 32)
theorem Ret.of_qt {P : Program} {k : FuncId} {args : Array Value} {v : Value} {w : World} (h : Calls P k args w (Qt w v)) : Ret P k args v w := h.mono fun _ _ ⟨he, m, hm⟩ => ⟨he, hm ▸ below_draws (Below.refl _ _) m⟩
noncomputable def decPut : List Value -> Option (Value × Bool)
 | [.int .u32 x, .int .i64 a, .int .i64 n, .int .u32 v] => some (.tuple #[.int .u32 (putZ x a n v), .int .i64 0], pre (putC x a n v))
 | _ => none
noncomputable def pPut : PTab := prowD 93 decPut
theorem pPut_ok {gl : Gl} : PTabOk Tryd.prog gl pPut := .rowD fun args u hd w hG => by
 unfold decPut at hd
 split at hd
 . rename_i x a n v
   simp only [qS, qP, pre] at hd
   obtain ⟨rfl, hc⟩ := hd
   simp [putC, u32B] at hc
   obtain ⟨⟨⟨x0, x1⟩, v0, v1⟩, n0, a0, a1⟩ := hc
   obtain ⟨x, rfl⟩ := Int.eq_ofNat_of_zero_le x0
   obtain ⟨a, rfl⟩ := Int.eq_ofNat_of_zero_le a0
   obtain ⟨n, rfl⟩ := Int.eq_ofNat_of_zero_le (show 0 <= n by omega)
   obtain ⟨v, rfl⟩ := Int.eq_ofNat_of_zero_le v0
   have hl := putF_lt x a n v (by omega) (by omega)
   refine (Ret.of_qt (put_yes x a n v w (by omega) (by omega) (by omega) (by omega) (by omega))).of_eq ?_
   rw [putZ_eq, qN, qN, qN, qN, Nat.mod_eq_of_lt hl]
 . cases hd
theorem u32B_wrap (x : Int) : u32B (IntKind.u32.wrap x) = true := by unfold u32B; rw [IntKind.wrap_u32]; simp; omega
theorem u32B_put (x a n v : Int) : u32B (putZ x a n v) = true := by
 unfold u32B
 rw [putZ_eq]
 simp; omega
theorem putC_put (x a n v b m u : Int) : putC (putZ x a n v) b m (IntKind.u32.wrap u) = decide (1 <= m /\ 0 <= b /\ b + m <= 32) := by
 unfold putC
 rw [u32B_wrap, u32B_put]; rfl
theorem putC_word {op b m u : Int} (ho : okB op = true) (h : decide (1 <= m /\ 0 <= b /\ b + m <= 32) = true) : putC (wordZ op) b m (IntKind.u32.wrap u) = true := by
 have := wordOk_of ho
 unfold wordOk at this
 simp only [Bool.and_eq_true] at this
 unfold putC
 rw [u32B_wrap, show u32B (wordZ op) = true from this.1]
 simpa using h
theorem bit_ret {gl : Gl} (b : Bool) (w : World) (hG : GlobOk gl w) : Ret Tryd.prog 99 #[.bool b] (.int .i64 (b01 b)) w := by
 cases b
 . exact ret (TabOk.none _ _) (fuel := 1000) [] [] (v := .int .i64 0) [] (by kernel_rfl) (fun _ h => by cases h) w hG
 . exact ret (TabOk.none _ _) (fuel := 1000) [] [] (v := .int .i64 1) [] (by kernel_rfl) (fun _ h => by cases h) w hG
def decB : List Value -> Option Bool
 | [.bool b] => some b
 | _ => none
def tBit : Tab := row 99 decB fun b => .int .i64 (b01 b)
theorem tBit_ok {gl : Gl} : TabOk Tryd.prog gl tBit := tabV (enc := fun b => .bool b) (fun l a h => by unfold decB at h; split at h <;> simp at h; subst h; rfl) fun b w hG => bit_ret b w hG
def fieldL : List Int := [7, 5, 0, 15, 5, 0, 20, 5, 0, 26, 1, 0, 25, 1, 0, 12, 20, 0, 31, 1, 20, 12, 8, 12, 20, 1, 11, 21, 10, 1, 20, 12, 0, 31, 1, 12, 7, 1, 11, 25, 6, 5, 8, 4, 1, 25, 7, 5, 7, 5, 0, 20, 6, 0, 20, 5, 0, 20, 8, 0]
def encGl : Gl := fun g => bif Nat.beq g 2 then some ((wordL.take 77).map fun x => .int .u32 x) else bif Nat.beq g 1 then some (fieldL.map fun x => .int .i64 x) else none
theorem operation_in : (List.range 88).all (runs { P := Tryd.prog, glob := encGl, call := noT } 1000 92 (fun n => [.int .i64 n]) fun n => .int .u32 (wordZ n)) = true := by kernel_rfl
def pOper : PTab := prow 92 decI (fun x => .int .u32 (wordZ x)) okB
theorem pOper_ok : PTabOk Tryd.prog encGl pOper := .row (enc := fun x => [.int .i64 x]) (fun l a h => decI_eq h) fun x hc w hG => by
 rcases op_cases x with ⟨n, h1, h2, rfl⟩ | h
 . exact runs_ret (TabOk.none _ _) operation_in n h2 w hG
 . rw [okB_out h] at hc; cases hc
def tEncC : Tab := orT tForm tBit
theorem tEncC_ok : TabOk Tryd.prog encGl tEncC := tForm_ok.or tBit_ok
noncomputable def pEncC : PTab := orP pPut pOper
theorem pEncC_ok : PTabOk Tryd.prog encGl pEncC := pPut_ok.or pOper_ok
def wr (x : Int) : Int := IntKind.u32.wrap x
noncomputable def progZ (i : In) : Int :=
 bif formZ i.op == 1 then putZ (putZ (wordZ i.op) 7 5 (wr i.rd)) 12 20 (wr i.imm)
 else bif formZ i.op == 2 then putZ (putZ (putZ (putZ (putZ (wordZ i.op) 7 5 (wr i.rd)) 31 1 (wr (i.imm.fdiv 1048576))) 12 8 (wr (i.imm.fdiv 4096))) 20 1 (wr (i.imm.fdiv 2048))) 21 10 (wr (i.imm.fdiv 2))
 else bif formZ i.op == 3 then putZ (putZ (putZ (wordZ i.op) 7 5 (wr i.rd)) 15 5 (wr i.a)) 20 12 (wr i.imm)
 else bif formZ i.op == 4 then putZ (putZ (putZ (putZ (putZ (putZ (wordZ i.op) 15 5 (wr i.a)) 20 5 (wr i.b)) 31 1 (wr (i.imm.fdiv 4096))) 7 1 (wr (i.imm.fdiv 2048))) 25 6 (wr (i.imm.fdiv 32))) 8 4 (wr (i.imm.fdiv 2))
 else bif formZ i.op == 5 then putZ (putZ (putZ (putZ (wordZ i.op) 15 5 (wr i.a)) 20 5 (wr i.b)) 25 7 (wr (i.imm.fdiv 32))) 7 5 (wr i.imm)
 else bif formZ i.op == 6 then putZ (putZ (putZ (wordZ i.op) 7 5 (wr i.rd)) 15 5 (wr i.a)) 20 5 (wr i.b)
 else bif formZ i.op == 7 then putZ (putZ (putZ (wordZ i.op) 7 5 (wr i.rd)) 15 5 (wr i.a)) 20 6 (wr i.imm)
 else bif formZ i.op == 8 then putZ (putZ (putZ (wordZ i.op) 7 5 (wr i.rd)) 15 5 (wr i.a)) 20 5 (wr i.imm)
 else bif formZ i.op == 9 then putZ (wordZ i.op) 20 8 (wr i.imm)
 else bif formZ i.op == 10 then putZ (putZ (putZ (putZ (wordZ i.op) 7 5 (wr i.rd)) 15 5 (wr i.a)) 26 1 (wr (b01 i.aq))) 25 1 (wr (b01 i.rl))
 else bif formZ i.op == 11 then putZ (putZ (putZ (putZ (putZ (wordZ i.op) 7 5 (wr i.rd)) 15 5 (wr i.a)) 20 5 (wr i.b)) 26 1 (wr (b01 i.aq))) 25 1 (wr (b01 i.rl))
 else wordZ i.op
set_option maxRecDepth 100000 in
theorem encode_prog (i : In) (hm : okB i.op = true) (w : World) (hG : GlobOk encGl w) : Ret Tryd.prog 48 #[inV i] (.int .u32 (progZ i)) w := by
 rcases Bool.eq_false_or_eq_true (formZ i.op == 1) with h0 | h0
 . exact (retP tEncC_ok pEncC_ok (fuel := 1000) OIn [true] (v := .int .u32 (putZ (putZ (wordZ i.op) 7 5 (IntKind.u32.wrap (i.rd.fdiv 1))) 12 20 (IntKind.u32.wrap (i.imm.fdiv 1)))) [(pre (putC (putZ (wordZ i.op) 7 5 (IntKind.u32.wrap (i.rd.fdiv 1))) 12 20 (IntKind.u32.wrap (i.imm.fdiv 1))), true), (pre (putC (wordZ i.op) 7 5 (IntKind.u32.wrap (i.rd.fdiv 1))), true), (pre (okB i.op), true), (formZ i.op == 1, true)] (by kernel_rfl) (by simp [pre, putC_put, putC_word, hm, hm, h0]) w hG).of_eq (by first | (simp only [progZ, wr, Int.fdiv_one, pre, putC_put, putC_word, hm, hm, h0]; rfl) | simp [progZ, wr, Int.fdiv_one, pre, putC_put, putC_word, hm, hm, h0])
 . rcases Bool.eq_false_or_eq_true (formZ i.op == 2) with h1 | h1
   . exact (retP tEncC_ok pEncC_ok (fuel := 1000) OIn [false, true] (v := .int .u32 (putZ (putZ (putZ (putZ (putZ (wordZ i.op) 7 5 (IntKind.u32.wrap (i.rd.fdiv 1))) 31 1 (IntKind.u32.wrap (i.imm.fdiv 1048576))) 12 8 (IntKind.u32.wrap (i.imm.fdiv 4096))) 20 1 (IntKind.u32.wrap (i.imm.fdiv 2048))) 21 10 (IntKind.u32.wrap (i.imm.fdiv 2)))) [(pre (putC (putZ (putZ (putZ (putZ (wordZ i.op) 7 5 (IntKind.u32.wrap (i.rd.fdiv 1))) 31 1 (IntKind.u32.wrap (i.imm.fdiv 1048576))) 12 8 (IntKind.u32.wrap (i.imm.fdiv 4096))) 20 1 (IntKind.u32.wrap (i.imm.fdiv 2048))) 21 10 (IntKind.u32.wrap (i.imm.fdiv 2))), true), (pre (putC (putZ (putZ (putZ (wordZ i.op) 7 5 (IntKind.u32.wrap (i.rd.fdiv 1))) 31 1 (IntKind.u32.wrap (i.imm.fdiv 1048576))) 12 8 (IntKind.u32.wrap (i.imm.fdiv 4096))) 20 1 (IntKind.u32.wrap (i.imm.fdiv 2048))), true), (pre (putC (putZ (putZ (wordZ i.op) 7 5 (IntKind.u32.wrap (i.rd.fdiv 1))) 31 1 (IntKind.u32.wrap (i.imm.fdiv 1048576))) 12 8 (IntKind.u32.wrap (i.imm.fdiv 4096))), true), (pre (putC (putZ (wordZ i.op) 7 5 (IntKind.u32.wrap (i.rd.fdiv 1))) 31 1 (IntKind.u32.wrap (i.imm.fdiv 1048576))), true), (pre (putC (wordZ i.op) 7 5 (IntKind.u32.wrap (i.rd.fdiv 1))), true), (pre (okB i.op), true), (formZ i.op == 2, true), (formZ i.op == 1, false)] (by kernel_rfl) (by simp [pre, putC_put, putC_word, hm, hm, h0, h1]) w hG).of_eq (by first | (simp only [progZ, wr, Int.fdiv_one, pre, putC_put, putC_word, hm, hm, h0, h1]; rfl) | simp [progZ, wr, Int.fdiv_one, pre, putC_put, putC_word, hm, hm, h0, h1])
   . rcases Bool.eq_false_or_eq_true (formZ i.op == 3) with h2 | h2
     . exact (retP tEncC_ok pEncC_ok (fuel := 1000) OIn [false, false, true] (v := .int .u32 (putZ (putZ (putZ (wordZ i.op) 7 5 (IntKind.u32.wrap (i.rd.fdiv 1))) 15 5 (IntKind.u32.wrap (i.a.fdiv 1))) 20 12 (IntKind.u32.wrap (i.imm.fdiv 1)))) [(pre (putC (putZ (putZ (wordZ i.op) 7 5 (IntKind.u32.wrap (i.rd.fdiv 1))) 15 5 (IntKind.u32.wrap (i.a.fdiv 1))) 20 12 (IntKind.u32.wrap (i.imm.fdiv 1))), true), (pre (putC (putZ (wordZ i.op) 7 5 (IntKind.u32.wrap (i.rd.fdiv 1))) 15 5 (IntKind.u32.wrap (i.a.fdiv 1))), true), (pre (putC (wordZ i.op) 7 5 (IntKind.u32.wrap (i.rd.fdiv 1))), true), (pre (okB i.op), true), (formZ i.op == 3, true), (formZ i.op == 2, false), (formZ i.op == 1, false)] (by kernel_rfl) (by simp [pre, putC_put, putC_word, hm, hm, h0, h1, h2]) w hG).of_eq (by first | (simp only [progZ, wr, Int.fdiv_one, pre, putC_put, putC_word, hm, hm, h0, h1, h2]; rfl) | simp [progZ, wr, Int.fdiv_one, pre, putC_put, putC_word, hm, hm, h0, h1, h2])
     . rcases Bool.eq_false_or_eq_true (formZ i.op == 4) with h3 | h3
       . exact (retP tEncC_ok pEncC_ok (fuel := 1000) OIn [false, false, false, true] (v := .int .u32 (putZ (putZ (putZ (putZ (putZ (putZ (wordZ i.op) 15 5 (IntKind.u32.wrap (i.a.fdiv 1))) 20 5 (IntKind.u32.wrap (i.b.fdiv 1))) 31 1 (IntKind.u32.wrap (i.imm.fdiv 4096))) 7 1 (IntKind.u32.wrap (i.imm.fdiv 2048))) 25 6 (IntKind.u32.wrap (i.imm.fdiv 32))) 8 4 (IntKind.u32.wrap (i.imm.fdiv 2)))) [(pre (putC (putZ (putZ (putZ (putZ (putZ (wordZ i.op) 15 5 (IntKind.u32.wrap (i.a.fdiv 1))) 20 5 (IntKind.u32.wrap (i.b.fdiv 1))) 31 1 (IntKind.u32.wrap (i.imm.fdiv 4096))) 7 1 (IntKind.u32.wrap (i.imm.fdiv 2048))) 25 6 (IntKind.u32.wrap (i.imm.fdiv 32))) 8 4 (IntKind.u32.wrap (i.imm.fdiv 2))), true), (pre (putC (putZ (putZ (putZ (putZ (wordZ i.op) 15 5 (IntKind.u32.wrap (i.a.fdiv 1))) 20 5 (IntKind.u32.wrap (i.b.fdiv 1))) 31 1 (IntKind.u32.wrap (i.imm.fdiv 4096))) 7 1 (IntKind.u32.wrap (i.imm.fdiv 2048))) 25 6 (IntKind.u32.wrap (i.imm.fdiv 32))), true), (pre (putC (putZ (putZ (putZ (wordZ i.op) 15 5 (IntKind.u32.wrap (i.a.fdiv 1))) 20 5 (IntKind.u32.wrap (i.b.fdiv 1))) 31 1 (IntKind.u32.wrap (i.imm.fdiv 4096))) 7 1 (IntKind.u32.wrap (i.imm.fdiv 2048))), true), (pre (putC (putZ (putZ (wordZ i.op) 15 5 (IntKind.u32.wrap (i.a.fdiv 1))) 20 5 (IntKind.u32.wrap (i.b.fdiv 1))) 31 1 (IntKind.u32.wrap (i.imm.fdiv 4096))), true), (pre (putC (putZ (wordZ i.op) 15 5 (IntKind.u32.wrap (i.a.fdiv 1))) 20 5 (IntKind.u32.wrap (i.b.fdiv 1))), true), (pre (putC (wordZ i.op) 15 5 (IntKind.u32.wrap (i.a.fdiv 1))), true), (pre (okB i.op), true), (formZ i.op == 4, true), (formZ i.op == 3, false), (formZ i.op == 2, false), (formZ i.op == 1, false)] (by kernel_rfl) (by simp [pre, putC_put, putC_word, hm, hm, h0, h1, h2, h3]) w hG).of_eq (by first | (simp only [progZ, wr, Int.fdiv_one, pre, putC_put, putC_word, hm, hm, h0, h1, h2, h3]; rfl) | simp [progZ, wr, Int.fdiv_one, pre, putC_put, putC_word, hm, hm, h0, h1, h2, h3])
       . rcases Bool.eq_false_or_eq_true (formZ i.op == 5) with h4 | h4
         . exact (retP tEncC_ok pEncC_ok (fuel := 1000) OIn [false, false, false, false, true] (v := .int .u32 (putZ (putZ (putZ (putZ (wordZ i.op) 15 5 (IntKind.u32.wrap (i.a.fdiv 1))) 20 5 (IntKind.u32.wrap (i.b.fdiv 1))) 25 7 (IntKind.u32.wrap (i.imm.fdiv 32))) 7 5 (IntKind.u32.wrap (i.imm.fdiv 1)))) [(pre (putC (putZ (putZ (putZ (wordZ i.op) 15 5 (IntKind.u32.wrap (i.a.fdiv 1))) 20 5 (IntKind.u32.wrap (i.b.fdiv 1))) 25 7 (IntKind.u32.wrap (i.imm.fdiv 32))) 7 5 (IntKind.u32.wrap (i.imm.fdiv 1))), true), (pre (putC (putZ (putZ (wordZ i.op) 15 5 (IntKind.u32.wrap (i.a.fdiv 1))) 20 5 (IntKind.u32.wrap (i.b.fdiv 1))) 25 7 (IntKind.u32.wrap (i.imm.fdiv 32))), true), (pre (putC (putZ (wordZ i.op) 15 5 (IntKind.u32.wrap (i.a.fdiv 1))) 20 5 (IntKind.u32.wrap (i.b.fdiv 1))), true), (pre (putC (wordZ i.op) 15 5 (IntKind.u32.wrap (i.a.fdiv 1))), true), (pre (okB i.op), true), (formZ i.op == 5, true), (formZ i.op == 4, false), (formZ i.op == 3, false), (formZ i.op == 2, false), (formZ i.op == 1, false)] (by kernel_rfl) (by simp [pre, putC_put, putC_word, hm, hm, h0, h1, h2, h3, h4]) w hG).of_eq (by first | (simp only [progZ, wr, Int.fdiv_one, pre, putC_put, putC_word, hm, hm, h0, h1, h2, h3, h4]; rfl) | simp [progZ, wr, Int.fdiv_one, pre, putC_put, putC_word, hm, hm, h0, h1, h2, h3, h4])
         . rcases Bool.eq_false_or_eq_true (formZ i.op == 6) with h5 | h5
           . exact (retP tEncC_ok pEncC_ok (fuel := 1000) OIn [false, false, false, false, false, true] (v := .int .u32 (putZ (putZ (putZ (wordZ i.op) 7 5 (IntKind.u32.wrap (i.rd.fdiv 1))) 15 5 (IntKind.u32.wrap (i.a.fdiv 1))) 20 5 (IntKind.u32.wrap (i.b.fdiv 1)))) [(pre (putC (putZ (putZ (wordZ i.op) 7 5 (IntKind.u32.wrap (i.rd.fdiv 1))) 15 5 (IntKind.u32.wrap (i.a.fdiv 1))) 20 5 (IntKind.u32.wrap (i.b.fdiv 1))), true), (pre (putC (putZ (wordZ i.op) 7 5 (IntKind.u32.wrap (i.rd.fdiv 1))) 15 5 (IntKind.u32.wrap (i.a.fdiv 1))), true), (pre (putC (wordZ i.op) 7 5 (IntKind.u32.wrap (i.rd.fdiv 1))), true), (pre (okB i.op), true), (formZ i.op == 6, true), (formZ i.op == 5, false), (formZ i.op == 4, false), (formZ i.op == 3, false), (formZ i.op == 2, false), (formZ i.op == 1, false)] (by kernel_rfl) (by simp [pre, putC_put, putC_word, hm, hm, h0, h1, h2, h3, h4, h5]) w hG).of_eq (by first | (simp only [progZ, wr, Int.fdiv_one, pre, putC_put, putC_word, hm, hm, h0, h1, h2, h3, h4, h5]; rfl) | simp [progZ, wr, Int.fdiv_one, pre, putC_put, putC_word, hm, hm, h0, h1, h2, h3, h4, h5])
           . rcases Bool.eq_false_or_eq_true (formZ i.op == 7) with h6 | h6
             . exact (retP tEncC_ok pEncC_ok (fuel := 1000) OIn [false, false, false, false, false, false, true] (v := .int .u32 (putZ (putZ (putZ (wordZ i.op) 7 5 (IntKind.u32.wrap (i.rd.fdiv 1))) 15 5 (IntKind.u32.wrap (i.a.fdiv 1))) 20 6 (IntKind.u32.wrap (i.imm.fdiv 1)))) [(pre (putC (putZ (putZ (wordZ i.op) 7 5 (IntKind.u32.wrap (i.rd.fdiv 1))) 15 5 (IntKind.u32.wrap (i.a.fdiv 1))) 20 6 (IntKind.u32.wrap (i.imm.fdiv 1))), true), (pre (putC (putZ (wordZ i.op) 7 5 (IntKind.u32.wrap (i.rd.fdiv 1))) 15 5 (IntKind.u32.wrap (i.a.fdiv 1))), true), (pre (putC (wordZ i.op) 7 5 (IntKind.u32.wrap (i.rd.fdiv 1))), true), (pre (okB i.op), true), (formZ i.op == 7, true), (formZ i.op == 6, false), (formZ i.op == 5, false), (formZ i.op == 4, false), (formZ i.op == 3, false), (formZ i.op == 2, false), (formZ i.op == 1, false)] (by kernel_rfl) (by simp [pre, putC_put, putC_word, hm, hm, h0, h1, h2, h3, h4, h5, h6]) w hG).of_eq (by first | (simp only [progZ, wr, Int.fdiv_one, pre, putC_put, putC_word, hm, hm, h0, h1, h2, h3, h4, h5, h6]; rfl) | simp [progZ, wr, Int.fdiv_one, pre, putC_put, putC_word, hm, hm, h0, h1, h2, h3, h4, h5, h6])
             . rcases Bool.eq_false_or_eq_true (formZ i.op == 8) with h7 | h7
               . exact (retP tEncC_ok pEncC_ok (fuel := 1000) OIn [false, false, false, false, false, false, false, true] (v := .int .u32 (putZ (putZ (putZ (wordZ i.op) 7 5 (IntKind.u32.wrap (i.rd.fdiv 1))) 15 5 (IntKind.u32.wrap (i.a.fdiv 1))) 20 5 (IntKind.u32.wrap (i.imm.fdiv 1)))) [(pre (putC (putZ (putZ (wordZ i.op) 7 5 (IntKind.u32.wrap (i.rd.fdiv 1))) 15 5 (IntKind.u32.wrap (i.a.fdiv 1))) 20 5 (IntKind.u32.wrap (i.imm.fdiv 1))), true), (pre (putC (putZ (wordZ i.op) 7 5 (IntKind.u32.wrap (i.rd.fdiv 1))) 15 5 (IntKind.u32.wrap (i.a.fdiv 1))), true), (pre (putC (wordZ i.op) 7 5 (IntKind.u32.wrap (i.rd.fdiv 1))), true), (pre (okB i.op), true), (formZ i.op == 8, true), (formZ i.op == 7, false), (formZ i.op == 6, false), (formZ i.op == 5, false), (formZ i.op == 4, false), (formZ i.op == 3, false), (formZ i.op == 2, false), (formZ i.op == 1, false)] (by kernel_rfl) (by simp [pre, putC_put, putC_word, hm, hm, h0, h1, h2, h3, h4, h5, h6, h7]) w hG).of_eq (by first | (simp only [progZ, wr, Int.fdiv_one, pre, putC_put, putC_word, hm, hm, h0, h1, h2, h3, h4, h5, h6, h7]; rfl) | simp [progZ, wr, Int.fdiv_one, pre, putC_put, putC_word, hm, hm, h0, h1, h2, h3, h4, h5, h6, h7])
               . rcases Bool.eq_false_or_eq_true (formZ i.op == 9) with h8 | h8
                 . exact (retP tEncC_ok pEncC_ok (fuel := 1000) OIn [false, false, false, false, false, false, false, false, true] (v := .int .u32 (putZ (wordZ i.op) 20 8 (IntKind.u32.wrap (i.imm.fdiv 1)))) [(pre (putC (wordZ i.op) 20 8 (IntKind.u32.wrap (i.imm.fdiv 1))), true), (pre (okB i.op), true), (formZ i.op == 9, true), (formZ i.op == 8, false), (formZ i.op == 7, false), (formZ i.op == 6, false), (formZ i.op == 5, false), (formZ i.op == 4, false), (formZ i.op == 3, false), (formZ i.op == 2, false), (formZ i.op == 1, false)] (by kernel_rfl) (by simp [pre, putC_put, putC_word, hm, hm, h0, h1, h2, h3, h4, h5, h6, h7, h8]) w hG).of_eq (by first | (simp only [progZ, wr, Int.fdiv_one, pre, putC_put, putC_word, hm, hm, h0, h1, h2, h3, h4, h5, h6, h7, h8]; rfl) | simp [progZ, wr, Int.fdiv_one, pre, putC_put, putC_word, hm, hm, h0, h1, h2, h3, h4, h5, h6, h7, h8])
                 . rcases Bool.eq_false_or_eq_true (formZ i.op == 10) with h9 | h9
                   . exact (retP tEncC_ok pEncC_ok (fuel := 1000) OIn [false, false, false, false, false, false, false, false, false, true] (v := .int .u32 (putZ (putZ (putZ (putZ (wordZ i.op) 7 5 (IntKind.u32.wrap (i.rd.fdiv 1))) 15 5 (IntKind.u32.wrap (i.a.fdiv 1))) 26 1 (IntKind.u32.wrap ((b01 i.aq).fdiv 1))) 25 1 (IntKind.u32.wrap ((b01 i.rl).fdiv 1)))) [(pre (putC (putZ (putZ (putZ (wordZ i.op) 7 5 (IntKind.u32.wrap (i.rd.fdiv 1))) 15 5 (IntKind.u32.wrap (i.a.fdiv 1))) 26 1 (IntKind.u32.wrap ((b01 i.aq).fdiv 1))) 25 1 (IntKind.u32.wrap ((b01 i.rl).fdiv 1))), true), (pre (putC (putZ (putZ (wordZ i.op) 7 5 (IntKind.u32.wrap (i.rd.fdiv 1))) 15 5 (IntKind.u32.wrap (i.a.fdiv 1))) 26 1 (IntKind.u32.wrap ((b01 i.aq).fdiv 1))), true), (pre (putC (putZ (wordZ i.op) 7 5 (IntKind.u32.wrap (i.rd.fdiv 1))) 15 5 (IntKind.u32.wrap (i.a.fdiv 1))), true), (pre (putC (wordZ i.op) 7 5 (IntKind.u32.wrap (i.rd.fdiv 1))), true), (pre (okB i.op), true), (formZ i.op == 10, true), (formZ i.op == 9, false), (formZ i.op == 8, false), (formZ i.op == 7, false), (formZ i.op == 6, false), (formZ i.op == 5, false), (formZ i.op == 4, false), (formZ i.op == 3, false), (formZ i.op == 2, false), (formZ i.op == 1, false)] (by kernel_rfl) (by simp [pre, putC_put, putC_word, hm, hm, h0, h1, h2, h3, h4, h5, h6, h7, h8, h9]) w hG).of_eq (by first | (simp only [progZ, wr, Int.fdiv_one, pre, putC_put, putC_word, hm, hm, h0, h1, h2, h3, h4, h5, h6, h7, h8, h9]; rfl) | simp [progZ, wr, Int.fdiv_one, pre, putC_put, putC_word, hm, hm, h0, h1, h2, h3, h4, h5, h6, h7, h8, h9])
                   . rcases Bool.eq_false_or_eq_true (formZ i.op == 11) with h10 | h10
                     . exact (retP tEncC_ok pEncC_ok (fuel := 1000) OIn [false, false, false, false, false, false, false, false, false, false, true] (v := .int .u32 (putZ (putZ (putZ (putZ (putZ (wordZ i.op) 7 5 (IntKind.u32.wrap (i.rd.fdiv 1))) 15 5 (IntKind.u32.wrap (i.a.fdiv 1))) 20 5 (IntKind.u32.wrap (i.b.fdiv 1))) 26 1 (IntKind.u32.wrap ((b01 i.aq).fdiv 1))) 25 1 (IntKind.u32.wrap ((b01 i.rl).fdiv 1)))) [(pre (putC (putZ (putZ (putZ (putZ (wordZ i.op) 7 5 (IntKind.u32.wrap (i.rd.fdiv 1))) 15 5 (IntKind.u32.wrap (i.a.fdiv 1))) 20 5 (IntKind.u32.wrap (i.b.fdiv 1))) 26 1 (IntKind.u32.wrap ((b01 i.aq).fdiv 1))) 25 1 (IntKind.u32.wrap ((b01 i.rl).fdiv 1))), true), (pre (putC (putZ (putZ (putZ (wordZ i.op) 7 5 (IntKind.u32.wrap (i.rd.fdiv 1))) 15 5 (IntKind.u32.wrap (i.a.fdiv 1))) 20 5 (IntKind.u32.wrap (i.b.fdiv 1))) 26 1 (IntKind.u32.wrap ((b01 i.aq).fdiv 1))), true), (pre (putC (putZ (putZ (wordZ i.op) 7 5 (IntKind.u32.wrap (i.rd.fdiv 1))) 15 5 (IntKind.u32.wrap (i.a.fdiv 1))) 20 5 (IntKind.u32.wrap (i.b.fdiv 1))), true), (pre (putC (putZ (wordZ i.op) 7 5 (IntKind.u32.wrap (i.rd.fdiv 1))) 15 5 (IntKind.u32.wrap (i.a.fdiv 1))), true), (pre (putC (wordZ i.op) 7 5 (IntKind.u32.wrap (i.rd.fdiv 1))), true), (pre (okB i.op), true), (formZ i.op == 11, true), (formZ i.op == 10, false), (formZ i.op == 9, false), (formZ i.op == 8, false), (formZ i.op == 7, false), (formZ i.op == 6, false), (formZ i.op == 5, false), (formZ i.op == 4, false), (formZ i.op == 3, false), (formZ i.op == 2, false), (formZ i.op == 1, false)] (by kernel_rfl) (by simp [pre, putC_put, putC_word, hm, hm, h0, h1, h2, h3, h4, h5, h6, h7, h8, h9, h10]) w hG).of_eq (by first | (simp only [progZ, wr, Int.fdiv_one, pre, putC_put, putC_word, hm, hm, h0, h1, h2, h3, h4, h5, h6, h7, h8, h9, h10]; rfl) | simp [progZ, wr, Int.fdiv_one, pre, putC_put, putC_word, hm, hm, h0, h1, h2, h3, h4, h5, h6, h7, h8, h9, h10])
                     . exact (retP tEncC_ok pEncC_ok (fuel := 1000) OIn [false, false, false, false, false, false, false, false, false, false, false] (v := .int .u32 (wordZ i.op)) [(pre (okB i.op), true), (formZ i.op == 11, false), (formZ i.op == 10, false), (formZ i.op == 9, false), (formZ i.op == 8, false), (formZ i.op == 7, false), (formZ i.op == 6, false), (formZ i.op == 5, false), (formZ i.op == 4, false), (formZ i.op == 3, false), (formZ i.op == 2, false), (formZ i.op == 1, false)] (by kernel_rfl) (by simp [pre, putC_put, putC_word, hm, hm, h0, h1, h2, h3, h4, h5, h6, h7, h8, h9, h10]) w hG).of_eq (by first | (simp only [progZ, wr, Int.fdiv_one, pre, putC_put, putC_word, hm, hm, h0, h1, h2, h3, h4, h5, h6, h7, h8, h9, h10]; rfl) | simp [progZ, wr, Int.fdiv_one, pre, putC_put, putC_word, hm, hm, h0, h1, h2, h3, h4, h5, h6, h7, h8, h9, h10])
theorem put_step (x v a n p q : Int) (hp : (((2 ^ a.toNat : Nat) : Int) = p) /\ (((2 ^ n.toNat : Nat) : Int) = q) /\ a.toNat + n.toNat <= 32) (x0 : 0 <= x) (x1 : x < 4294967296) (hz : x / p % q = 0) : putZ x a n (wr v) = x + v % q * p := by
 obtain ⟨hp, hq, h4⟩ := hp
 rw [putZ_eq, wr, IntKind.wrap_u32]
 generalize a.toNat = a' at *
 generalize n.toNat = n' at *
 obtain ⟨X, rfl⟩ := Int.eq_ofNat_of_zero_le x0
 subst hp hq
 have hz' : X / 2 ^ a' % 2 ^ n' = 0 := by exact_mod_cast hz
 have hl := putF_lt X a' n' (v % 4294967296).toNat (by omega) h4
 rw [qN, Nat.mod_eq_of_lt hl, put_or X a' n' _ (by omega) h4 hz']
 have hd : ((2 ^ n' : Nat) : Int) ∣ 4294967296 := ⟨((2 ^ (32 - n') : Nat) : Int), by
   rw [<- Int.natCast_mul, <- Nat.pow_add, show n' + (32 - n') = 32 by omega]; rfl⟩
 have e : (((v % 4294967296).toNat % 2 ^ n' : Nat) : Int) = v % ((2 ^ n' : Nat) : Int) := by
   rw [Int.natCast_emod, Int.toNat_of_nonneg (by omega), Int.emod_emod_of_dvd _ hd]
 rw [Int.natCast_add, Int.natCast_mul, e]
theorem prog_enc (i : In) (hm : mayB i = true) : progZ i = encZ i := by
 have hk := form_rng (may_ok hm)
 have F := may_fld hm
 have hI := imm_rng F.im hk.1 hk.2
 obtain ⟨r0, r1, rn, a0, a1, an, b0, b1, bn, _, on, wd⟩ := F
 obtain ⟨op, rd, a, b, imm, aq, rl⟩ := i
 have hk' : formZ op = 0 \/ formZ op = 1 \/ formZ op = 2 \/ formZ op = 3 \/ formZ op = 4 \/ formZ op = 5 \/ formZ op = 6 \/ formZ op = 7 \/ formZ op = 8 \/ formZ op = 9 \/ formZ op = 10 \/ formZ op = 11 := by simp at hk; omega
 have q0 := b01_cases aq
 have q1 := b01_cases rl
 unfold encZ progZ
 simp only at *
 clear hm
 generalize wordZ op = W at *
 unfold immRg at hI
 generalize formZ op = k at *
 rcases hk' with rfl | rfl | rfl | rfl | rfl | rfl | rfl | rfl | rfl | rfl | rfl | rfl
 all_goals
   simp [wordOk] at wd hI
   simp [rdF, aF, bF, oF, atZ] at rn an bn on
   simp only [immZ]
   simp
 . obtain ⟨rfl, rfl⟩ := on
   simp [b01, rn, an, bn]
 . obtain ⟨rfl, rfl⟩ := on
   rw [put_step W rd 7 5 128 32 (by decide) (by omega) (by omega) (by omega), put_step _ imm 12 20 4096 1048576 (by decide) (by omega) (by omega) (by omega)]
   simp only [b01, an, bn, cond_false]; omega
 . obtain ⟨rfl, rfl⟩ := on
   have e1 : rd % 32 = rd := by omega
   rw [Int.fdiv_eq_ediv_of_nonneg _ (by omega), Int.fdiv_eq_ediv_of_nonneg _ (by omega), Int.fdiv_eq_ediv_of_nonneg _ (by omega), Int.fdiv_eq_ediv_of_nonneg _ (by omega)]
   obtain ⟨s, p, q, r, f1, f2, f3, f4, f5, s0, s1, p0, p1, q0', q1', r0', r1'⟩ := parts_j imm (by omega) (by omega) (by omega)
   rw [put_step W rd 7 5 128 32 (by decide) (by omega) (by omega) (by omega), e1,
     put_step _ _ 31 1 2147483648 2 (by decide) (by omega) (by omega) (by omega), f1,
     put_step _ _ 12 8 4096 256 (by decide) (by omega) (by omega) (by clear f1 f2 f3 f4 f5 hI; omega), f2,
     put_step _ _ 20 1 1048576 2 (by decide) (by clear f1 f2 f3 f4 f5 hI; omega) (by clear f1 f2 f3 f4 f5 hI; omega) (by clear f1 f2 f3 f4 f5 hI; omega), f3,
     put_step _ _ 21 10 2097152 1024 (by decide) (by clear f1 f2 f3 f4 f5 hI; omega) (by clear f1 f2 f3 f4 f5 hI; omega) (by clear f1 f2 f3 f4 f5 hI; omega), f4]
   simp only [b01, an, bn, cond_false]; clear f1 f2 f3 f4 f5 hI; omega
 . obtain ⟨rfl, rfl⟩ := on
   have e1 : rd % 32 = rd := by omega
   have e2 : a % 32 = a := by omega
   obtain ⟨o, f, rfl, o0, o1, g0, g1⟩ := parts_w W (by omega) (by omega) (by omega)
   clear wd
   rw [put_step _ rd 7 5 128 32 (by decide) (by omega) (by omega) (by omega), e1,
     put_step _ a 15 5 32768 32 (by decide) (by omega) (by omega) (by omega), e2,
     put_step _ imm 20 12 1048576 4096 (by decide) (by omega) (by omega) (by omega)]
   simp only [b01, bn, cond_false]; omega
 . obtain ⟨rfl, rfl⟩ := on
   have e1 : a % 32 = a := by omega
   have e2 : b % 32 = b := by omega
   rw [Int.fdiv_eq_ediv_of_nonneg _ (by omega), Int.fdiv_eq_ediv_of_nonneg _ (by omega), Int.fdiv_eq_ediv_of_nonneg _ (by omega), Int.fdiv_eq_ediv_of_nonneg _ (by omega)]
   obtain ⟨s, p, q, r, f1, f2, f3, f4, f5, s0, s1, p0, p1, q0', q1', r0', r1'⟩ := parts_b imm (by omega) (by omega) (by omega)
   obtain ⟨o, f, rfl, o0, o1, g0, g1⟩ := parts_w W (by omega) (by omega) (by omega)
   clear wd hI
   rw [put_step _ a 15 5 32768 32 (by decide) (by omega) (by omega) (by omega), e1,
     put_step _ b 20 5 1048576 32 (by decide) (by omega) (by omega) (by omega), e2,
     put_step _ _ 31 1 2147483648 2 (by decide) (by omega) (by omega) (by omega), f1,
     put_step _ _ 7 1 128 2 (by decide) (by clear f1 f2 f3 f4 f5; omega) (by clear f1 f2 f3 f4 f5; omega) (by clear f1 f2 f3 f4 f5; omega), f2,
     put_step _ _ 25 6 33554432 64 (by decide) (by clear f1 f2 f3 f4 f5; omega) (by clear f1 f2 f3 f4 f5; omega) (by clear f1 f2 f3 f4 f5; omega), f3,
     put_step _ _ 8 4 256 16 (by decide) (by clear f1 f2 f3 f4 f5; omega) (by clear f1 f2 f3 f4 f5; omega) (by clear f1 f2 f3 f4 f5; omega), f4]
   simp only [b01, rn, cond_false]; clear f1 f2 f3 f4 f5; omega
 . obtain ⟨rfl, rfl⟩ := on
   have e1 : a % 32 = a := by omega
   have e2 : b % 32 = b := by omega
   rw [Int.fdiv_eq_ediv_of_nonneg _ (by omega)]
   obtain ⟨o, f, rfl, o0, o1, g0, g1⟩ := parts_w W (by omega) (by omega) (by omega)
   clear wd
   rw [put_step _ a 15 5 32768 32 (by decide) (by omega) (by omega) (by omega), e1,
     put_step _ b 20 5 1048576 32 (by decide) (by omega) (by omega) (by omega), e2,
     put_step _ _ 25 7 33554432 128 (by decide) (by omega) (by omega) (by omega),
     put_step _ _ 7 5 128 32 (by decide) (by omega) (by omega) (by omega)]
   simp only [b01, rn, cond_false]; omega
 . obtain ⟨rfl, rfl⟩ := on
   have e1 : rd % 32 = rd := by omega
   have e2 : a % 32 = a := by omega
   have e3 : b % 32 = b := by omega
   obtain ⟨o, f, g, rfl, o0, o1, g0, g1, g2, g3⟩ := parts_w2 W 1024 33554432 (by omega) (by omega) (by omega) (by omega) (by omega)
   clear wd
   rw [put_step _ rd 7 5 128 32 (by decide) (by omega) (by omega) (by omega), e1,
     put_step _ a 15 5 32768 32 (by decide) (by omega) (by omega) (by omega), e2,
     put_step _ b 20 5 1048576 32 (by decide) (by omega) (by omega) (by omega), e3]
   simp only [b01, cond_false]; omega
 . obtain ⟨rfl, rfl⟩ := on
   have e1 : rd % 32 = rd := by omega
   have e2 : a % 32 = a := by omega
   obtain ⟨o, f, g, rfl, o0, o1, g0, g1, g2, g3⟩ := parts_w2 W 2048 67108864 (by omega) (by omega) (by omega) (by omega) (by omega)
   clear wd
   rw [put_step _ rd 7 5 128 32 (by decide) (by omega) (by omega) (by omega), e1,
     put_step _ a 15 5 32768 32 (by decide) (by omega) (by omega) (by omega), e2,
     put_step _ imm 20 6 1048576 64 (by decide) (by omega) (by omega) (by omega)]
   simp only [b01, bn, cond_false]; omega
 . obtain ⟨rfl, rfl⟩ := on
   have e1 : rd % 32 = rd := by omega
   have e2 : a % 32 = a := by omega
   obtain ⟨o, f, g, rfl, o0, o1, g0, g1, g2, g3⟩ := parts_w2 W 1024 33554432 (by omega) (by omega) (by omega) (by omega) (by omega)
   clear wd
   rw [put_step _ rd 7 5 128 32 (by decide) (by omega) (by omega) (by omega), e1,
     put_step _ a 15 5 32768 32 (by decide) (by omega) (by omega) (by omega), e2,
     put_step _ imm 20 5 1048576 32 (by decide) (by omega) (by omega) (by omega)]
   simp only [b01, bn, cond_false]; omega
 . obtain ⟨rfl, rfl⟩ := on
   rw [put_step _ imm 20 8 1048576 256 (by decide) (by omega) (by omega) (by omega)]
   simp only [b01, rn, an, bn, cond_false]; omega
 . have e1 : rd % 32 = rd := by omega
   have e2 : a % 32 = a := by omega
   generalize b01 aq = x at *
   generalize b01 rl = y at *
   have e3 : x % 2 = x := by omega
   have e4 : y % 2 = y := by omega
   obtain ⟨o, f, g, rfl, o0, o1, g0, g1, g2, g3⟩ := parts_w2 W 4096 134217728 (by omega) (by omega) (by omega) (by omega) (by omega)
   clear wd
   rw [put_step _ rd 7 5 128 32 (by decide) (by omega) (by omega) (by omega), e1,
     put_step _ a 15 5 32768 32 (by decide) (by omega) (by omega) (by omega), e2,
     put_step _ x 26 1 67108864 2 (by decide) (by omega) (by omega) (by omega), e3,
     put_step _ y 25 1 33554432 2 (by decide) (by omega) (by omega) (by omega), e4]
   simp only [bn]; omega
 . have e1 : rd % 32 = rd := by omega
   have e2 : a % 32 = a := by omega
   have e5 : b % 32 = b := by omega
   generalize b01 aq = x at *
   generalize b01 rl = y at *
   have e3 : x % 2 = x := by omega
   have e4 : y % 2 = y := by omega
   obtain ⟨o, f, g, rfl, o0, o1, g0, g1, g2, g3⟩ := parts_w2 W 4096 134217728 (by omega) (by omega) (by omega) (by omega) (by omega)
   clear wd
   rw [put_step _ rd 7 5 128 32 (by decide) (by omega) (by omega) (by omega), e1,
     put_step _ a 15 5 32768 32 (by decide) (by omega) (by omega) (by omega), e2,
     put_step _ b 20 5 1048576 32 (by decide) (by omega) (by omega) (by omega), e5,
     put_step _ x 26 1 67108864 2 (by decide) (by omega) (by omega) (by omega), e3,
     put_step _ y 25 1 33554432 2 (by decide) (by omega) (by omega) (by omega), e4]
   try omega
theorem encode_ret (i : In) (hm : mayB i = true) (w : World) (hG : GlobOk encGl w) : Ret Tryd.prog 48 #[inV i] (.int .u32 (encZ i)) w := by
 rw [<- prog_enc i hm]
 exact encode_prog i (may_ok hm) w hG
noncomputable def decEncode : List Value -> Option (Value × Bool) := fun l => match decIn l with
 | some i => some (.int .u32 (encZ i), pre (mayB i))
 | none => none
noncomputable def pEncode : PTab := prowD 48 decEncode
theorem pEncode_ok : PTabOk Tryd.prog encGl pEncode := .rowD fun args u hd w hG => by
 unfold decEncode at hd
 split at hd
 . rename_i i hi
   simp only [qS, qP, pre] at hd
   obtain ⟨rfl, hc⟩ := hd
   rw [decIn_eq _ _ hi]
   exact encode_ret i hc w hG
 . cases hd
def wordE (i : In) : Int := bif mayB i then encZ i else 0
def errE (i : In) : Int := bif mayB i then 0 else 1
theorem enc_ret (i : In) (w : World) (hG : GlobOk encGl w) : Ret Tryd.prog 30 #[inV i] (.tuple #[.int .u32 (wordE i), .int .i64 (errE i)]) w := by
 rcases Bool.eq_false_or_eq_true (mayB i) with h0 | h0
 . exact (retP tMay_ok pEncode_ok (fuel := 1000) OIn [false] (v := .tuple #[.int .u32 (encZ i), .int .i64 (0)]) [(pre (mayB i), true), (!mayB i, false)] (by kernel_rfl) (by simp [pre, h0]) w hG).of_eq (by first | (simp only [wordE, errE, pre, h0]; rfl) | simp [wordE, errE, pre, h0])
 . exact (retP tMay_ok pEncode_ok (fuel := 1000) OIn [true] (v := .tuple #[.int .u32 (0), .int .i64 (1)]) [(!mayB i, true)] (by kernel_rfl) (by simp [pre, h0]) w hG).of_eq (by first | (simp only [wordE, errE, pre, h0]; rfl) | simp [wordE, errE, pre, h0])
noncomputable def tEncode : Tab := row 30 decIn fun i => .tuple #[.int .u32 (wordE i), .int .i64 (errE i)]
theorem tEncode_ok : TabOk Tryd.prog encGl tEncode := tabV decIn_eq fun i w hG => enc_ret i w hG
end Go.Proofs.YtilljoemebbnjaaDoor
