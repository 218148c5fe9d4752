/- The laws of layer 5 on one word or one instruction, by the evaluator. -/
import Derived.Test.YtppjkdlpmmalaaaDoorDecode
import Derived.Test.YtppjkdlpmmalaaaDoorLaw04
namespace Go.Proofs.YtppjkdlpmmalaaaDoor
open Go.RowKit Sim
set_option linter.unusedVariables false
set_option linter.unusedSimpArgs false

noncomputable def pDecode : PTab := prowD 7 decDecode
theorem pDecode_ok : PTabOk Tryd.prog decGl pDecode := .rowD fun args u hd w hG => by
  unfold decDecode at hd
  split at hd
  · rename_i v
    simp only [Option.some.injEq, Prod.mk.injEq, pre] at hd
    obtain ⟨rfl, hc⟩ := hd
    exact decode_ret v hc w hG
  · cases hd
noncomputable def decIs : List Value → Option (Value × Bool)
  | [.int .u32 v] => some (.bool (!((decodeZ v).op == 0)), pre (w32B v))
  | _ => none
noncomputable def pIs : PTab := prowD 9 decIs
theorem pIs_ok : PTabOk Tryd.prog decGl pIs := .rowD fun args u hd w hG => by
  unfold decIs at hd
  split at hd
  · rename_i v
    simp only [Option.some.injEq, Prod.mk.injEq, pre] at hd
    obtain ⟨rfl, hc⟩ := hd
    exact is_ret v hc w hG
  · cases hd
/-! ### The three words that every law asks for -/
def addiI : In := ⟨22, 1, 0, 0, -1, false, false⟩
theorem addi_word : decodeZ 4293918867 = addiI := decodeZ_yes (by decide +kernel) (by decide +kernel)
def callI : In := ⟨64, 0, 0, 0, 0, false, false⟩
theorem call_word : decodeZ 115 = callI := decodeZ_yes (by decide +kernel) (by decide +kernel)
theorem words_pos : ∀ n : Fin 88, n.val = 0 ∨ wordZ n.val ≠ 0 := by decide +kernel
theorem zero_word : decodeZ 0 = ⟨0, 0, 0, 0, 0, false, false⟩ := decodeZ_no fun i hm he => by
  have hf := enc_fix hm
  rw [he] at hf
  have ho := may_ok hm
  have h0 : ∀ k : Int, fixZ k 0 = 0 := fun k => by
    unfold fixZ
    cases (k == 1 || k == 2) <;> cases (k == 3 || k == 4 || k == 5) <;> cases (k == 6 || k == 8) <;> cases (k == 7) <;> cases (k == 9) <;> cases (k == 10) <;> cases (k == 11) <;> rfl
  rw [h0] at hf
  rcases op_cases i.op with ⟨n, n1, n2, hn⟩ | h
  · rcases words_pos ⟨n, n2⟩ with h | h
    · simp at h; omega
    · rw [hn] at hf; exact h hf.symm
  · rw [okB_out h] at ho; cases ho
def dec3 : List Value → Option (Value × Bool)
  | [.int .u32 v] => bif v == 4293918867 then some (inV addiI, true) else none
  | _ => none
def is3 : List Value → Option (Value × Bool)
  | [.int .u32 v] => bif v == 115 then some (.bool true, true) else bif v == 0 then some (.bool false, true) else none
  | _ => none
def pAwake05 : PTab := orP (prowD 7 dec3) (prowD 9 is3)
theorem pAwake05_ok : PTabOk Tryd.prog decGl pAwake05 := PTabOk.or
  (.rowD fun args u hd w hG => by
    unfold dec3 at hd
    split at hd
    · rename_i v
      cases h : v == 4293918867 <;> rw [h] at hd
      · cases hd
      · simp only [cond_true, Option.some.injEq, Prod.mk.injEq] at hd
        obtain ⟨rfl, _⟩ := hd
        obtain rfl : v = 4293918867 := by simpa using h
        have := decode_ret 4293918867 (by decide) w hG
        rw [addi_word] at this
        exact this
    · cases hd)
  (.rowD fun args u hd w hG => by
    unfold is3 at hd
    split at hd
    · rename_i v
      cases h : v == 115 <;> rw [h] at hd
      · cases h0 : v == 0 <;> rw [h0] at hd
        · cases hd
        · simp only [cond_true, cond_false, Option.some.injEq, Prod.mk.injEq] at hd
          obtain ⟨rfl, _⟩ := hd
          obtain rfl : v = 0 := by simpa using h0
          have := is_ret 0 (by decide) w hG
          rw [zero_word] at this
          exact this
      · simp only [cond_true, Option.some.injEq, Prod.mk.injEq] at hd
        obtain ⟨rfl, _⟩ := hd
        obtain rfl : v = 115 := by simpa using h
        have := is_ret 115 (by decide) w hG
        rw [call_word] at this
        exact this
    · cases hd)
theorem awake05 (w : World) (hG : GlobOk decGl w) : Ret Tryd.prog 10 #[] (.bool true) w :=
  retP (TabOk.none _ _) pAwake05_ok (fuel := 1000) [] [] (v := .bool true) [(true, true), (true, true), (true, true)] (by kernel_rfl) (by simp) w hG
def tAwake05 : Tab := row 10 dec0 fun _ => .bool true
theorem tAwake05_ok : TabOk Tryd.prog decGl tAwake05 := tab0 fun w hG => awake05 w hG
noncomputable def tLaw05 : Tab := orT tEncode <| orT tRefMay tAwake05
theorem tLaw05_ok : TabOk Tryd.prog decGl tLaw05 := tEncD_ok.or (tRefMay_ok.or tAwake05_ok)
noncomputable def pLaw05 : PTab := orP pDecode <| orP pIs pRefDecode
theorem pLaw05_ok : PTabOk Tryd.prog decGl pLaw05 := pDecode_ok.or (pIs_ok.or pRefDecode_ok)
theorem decWords_walk (v : Int) (hv : w32B v = true) (w : World) (hG : GlobOk decGl w) : Ret Tryd.prog 3 #[.int .u32 v] (.bool true) w := by
  have he : ((decodeZ v).op == (decodeZ v).op && ((decodeZ v).rd == (decodeZ v).rd && ((decodeZ v).a == (decodeZ v).a && ((decodeZ v).b == (decodeZ v).b && ((decodeZ v).imm == (decodeZ v).imm && ((decodeZ v).aq == (decodeZ v).aq && ((decodeZ v).rl == (decodeZ v).rl && true))))))) = true := by simp
  exact retP tLaw05_ok pLaw05_ok (fuel := 1000) O1 [true, true] (v := .bool true) [((!(decodeZ v).op == 0) == ((decodeZ v).op != 0), true), (pre (w32B v), true), (((decodeZ v).op == (decodeZ v).op && ((decodeZ v).rd == (decodeZ v).rd && ((decodeZ v).a == (decodeZ v).a && ((decodeZ v).b == (decodeZ v).b && ((decodeZ v).imm == (decodeZ v).imm && ((decodeZ v).aq == (decodeZ v).aq && ((decodeZ v).rl == (decodeZ v).rl && true))))))), true), (pre (w32B v), true), (pre (w32B v), true)]
    (by kernel_rfl) (by simp [pre, hv, bne]) w hG
theorem decode_cases (v : Int) : (mayB (decodeZ v) = true ∧ encZ (decodeZ v) = v) ∨ decodeZ v = ⟨0, 0, 0, 0, v, false, false⟩ := by
  by_cases h : ∃ i, mayB i = true ∧ encZ i = v
  · obtain ⟨i, h1, h2⟩ := h
    rw [decodeZ_yes h1 h2]
    exact .inl ⟨h1, h2⟩
  · exact .inr (decodeZ_no fun i h1 h2 => h ⟨i, h1, h2⟩)
theorem decBack_walk (i : In) (w : World) (hG : GlobOk decGl w) : Ret Tryd.prog 4 #[inV i] (.bool true) w := by
  cases hm : mayB i
  · exact retP tLaw05_ok pLaw05_ok (fuel := 1000) OIn [true, true] (v := .bool true) [(errE i == 1, true), (!mayB i, true)] (by kernel_rfl) (by simp [hm, errE]) w hG
  · have hw : wordE i = encZ i := by simp [wordE, hm]
    have hr := enc_rng hm
    have hd : decodeZ (wordE i) = i := by rw [hw]; exact decodeZ_yes hm rfl
    have hv : w32B (wordE i) = true := by rw [hw]; simpa [w32B] using hr
    have ho : (i.op == 0) = false := by
      have := may_ok hm
      cases h : i.op == 0
      · rfl
      · rw [show i.op = 0 by simpa using h] at this; simp [okB] at this
    refine retP tLaw05_ok pLaw05_ok (fuel := 1000) OIn [false, true, true, true] (v := .bool true) [(((decodeZ (wordE i)).op == i.op && ((decodeZ (wordE i)).rd == i.rd && ((decodeZ (wordE i)).a == i.a && ((decodeZ (wordE i)).b == i.b && ((decodeZ (wordE i)).imm == i.imm && ((decodeZ (wordE i)).aq == i.aq && ((decodeZ (wordE i)).rl == i.rl && true))))))), true), (pre (w32B (wordE i)), true), (!((decodeZ (wordE i)).op == 0), true), (pre (w32B (wordE i)), true), (errE i == 0, true), (!mayB i, false)] (by kernel_rfl) ?_ w hG
    rw [hd]
    simp [pre, hv, hm, ho, errE]
theorem decWordsBack_walk (v : Int) (hv : w32B v = true) (w : World) (hG : GlobOk decGl w) : Ret Tryd.prog 5 #[.int .u32 v] (.bool true) w := by
  have hr : 0 ≤ v ∧ v < 4294967296 := by simpa [w32B] using hv
  rcases decode_cases v with ⟨hm, he⟩ | hd
  · have hw : wordE (decodeZ v) = v := by simp [wordE, hm, he]
    have ho : ((decodeZ v).op == 0) = false := by
      have := may_ok hm
      cases h : (decodeZ v).op == 0
      · rfl
      · rw [show (decodeZ v).op = 0 by simpa using h] at this; simp [okB] at this
    exact retP tLaw05_ok pLaw05_ok (fuel := 1000) O1 [false, true, true] (v := .bool true) [(errE (decodeZ v) == 0, true), (wordE (decodeZ v) == v, true), ((decodeZ v).op == 0, false), (pre (w32B v), true)] (by kernel_rfl) (by simp [pre, hv, hm, hw, ho, errE]) w hG
  · refine retP tLaw05_ok pLaw05_ok (fuel := 1000) O1 [true, true, true] (v := .bool true) [((decodeZ v).imm == IntKind.i64.wrap v, true), (errE (decodeZ v) == 1, true), ((decodeZ v).op == 0, true), (pre (w32B v), true)] (by kernel_rfl) ?_ w hG
    have hm : mayB ⟨0, 0, 0, 0, v, false, false⟩ = false := by simp [mayB, okB]
    rw [hd, wrap_id v hr.1 hr.2]
    simp [pre, hv, errE, hm]
theorem w32_of {v : Int} (h : (Lit.int .u32 v).wf = true) : w32B v = true := by
  have a : IntKind.u32.min = 0 := by decide
  have b : IntKind.u32.max = 4294967295 := by decide
  simp [Lit.wf, a, b] at h
  simp [w32B]
  omega
theorem decWords_law (v : Int) (w : World) (hG : GlobOk decGl w) (h : (Lit.int .u32 v).wf = true) : Calls Tryd.prog 3 #[.int .u32 v] w (Holds w) := decWords_walk v (w32_of h) w hG
theorem decBack_law (i : In) (w : World) (hG : GlobOk decGl w) (_ : wfIn i) : Calls Tryd.prog 4 #[inV i] w (Holds w) := decBack_walk i w hG
theorem decWordsBack_law (v : Int) (w : World) (hG : GlobOk decGl w) (h : (Lit.int .u32 v).wf = true) : Calls Tryd.prog 5 #[.int .u32 v] w (Holds w) := decWordsBack_walk v (w32_of h) w hG
end Go.Proofs.YtppjkdlpmmalaaaDoor
