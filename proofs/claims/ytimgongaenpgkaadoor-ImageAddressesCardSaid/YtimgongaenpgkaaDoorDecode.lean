/- What the project's Decode and Is answer: the one instruction of the word, or none. -/
import Derived.Test.YtimgongaenpgkaaDoorDec
namespace Go.Proofs.YtimgongaenpgkaaDoor
open Go.RowKit Sim
set_option linter.unusedVariables false
set_option linter.unusedSimpArgs false

/-! ### The operation of an instruction's word -/
/-- The operation by the word's fields: the lowest 7 bits, those from 12 on, whether f7 is 1, whether it is 32, bit 30, the highest 5, bits 12 and 20. -/
def opG (o f3 : Int) (p1 p2 b30 : Bool) (f5 : Int) (b12 b20 : Bool) : Int :=
  let im := fun (op ar : Int) => bif f3 == 5 then (bif b30 then ar else op) else op
  let by7 := fun (s p q : Int) => bif p1 then p else bif p2 then q else s
  bif o == 3 then atZ ldL 0 f3 else bif o == 15 then 63 else bif o == 19 then im (atZ imL 0 f3) 30 else bif o == 23 then 2
  else bif o == 27 then im (atZ imwL 0 f3) 34 else bif o == 35 then atZ stL 0 f3 else bif o == 47 then (bif amoWZ f5 != 0 then (bif b12 then amoWZ f5 + 11 else amoWZ f5) else amoWZ f5)
  else bif o == 51 then by7 (atZ suL 0 f3) (atZ prL 0 f3) (atZ otL 0 f3) else bif o == 55 then 1
  else bif o == 59 then by7 (atZ suwL 0 f3) (atZ prwL 0 f3) (atZ otwL 0 f3) else bif o == 99 then atZ brL 0 f3
  else bif o == 103 then 4 else bif o == 111 then 3 else bif o == 115 then (bif b20 then 65 else 64) else 0
theorem cond_rng (b : Bool) (x y : Int) (h : 0 ≤ x ∧ x ≤ 76) (h' : 0 ≤ y ∧ y ≤ 76) : 0 ≤ (bif b then x else y) ∧ (bif b then x else y) ≤ 76 := by cases b <;> assumption
theorem amoWZ_rng (s : Int) : 0 ≤ amoWZ s ∧ amoWZ s ≤ 76 := by
  unfold amoWZ
  repeat' (refine cond_rng _ _ _ (by omega) ?_)
  omega
theorem operZ_eq (v : Int) (hv : w32B v = true) : operZ (v / 4096 % 8) v = opG (v % 128) (v / 4096 % 8) (v / 33554432 % 128 == 1) (v / 33554432 % 128 == 32) (v / 1073741824 % 2 == 1) (v / 134217728 % 32) (v / 4096 % 2 == 1) (v / 1048576 % 2 == 1) := by
  have L := fun a n p q h => get_lit v a n p q hv h
  have e0 : getZ v 0 7 = v % 128 := by rw [L 0 7 1 128 (by decide), Int.ediv_one]
  have hw : IntKind.i64.wrap (amoWZ (v / 134217728 % 32) + 11) = amoWZ (v / 134217728 % 32) + 11 := i64_id _ (by have := amoWZ_rng (v / 134217728 % 32); omega) (by have := amoWZ_rng (v / 134217728 % 32); omega)
  unfold operZ opG immediateZ byF7Z amoZ systemZ
  rw [e0, L 12 3 4096 8 (by decide), L 25 7 33554432 128 (by decide), L 30 1 1073741824 2 (by decide), L 27 5 134217728 32 (by decide), L 12 1 4096 2 (by decide), L 20 1 1048576 2 (by decide), hw]
/-- One operation's word tells it, whatever the other fields are. -/
def opOk (n : Nat) (f3 : Nat) (p1 p2 b30 b12 b20 : Bool) : Bool :=
  let k := formZ n; let W := wordZ n
  (has3 k && !((f3 : Int) == part3 W && b12 == (W / 4096 % 2 == 1))) || (has25 k && !(p1 == (W / 33554432 % 128 == 1) && p2 == (W / 33554432 % 128 == 32))) || (has26 k && !(b30 == (W / 1073741824 % 2 == 1))) || (hasB5 k && !(b20 == (W / 1048576 % 2 == 1)))
    || opG (W % 128) f3 p1 p2 b30 (W / 134217728 % 32) b12 b20 == n
theorem op_all : ∀ (n : Fin 88) (f3 : Fin 8) (p1 p2 b30 b12 b20 : Bool), n.val = 0 ∨ opOk n.val f3.val p1 p2 b30 b12 b20 = true := by decide +kernel
theorem no27 : ∀ n : Fin 88, n.val = 0 ∨ has27 (formZ n.val) = true ∨ (wordZ n.val % 128 == 47) = false := by decide +kernel
theorem oper_of {v : Int} {i : In} (hv : w32B v = true) (hm : mayB i = true) (he : encZ i = v) : operZ (v / 4096 % 8) v = i.op := by
  have hr : 0 ≤ v ∧ v < 4294967296 := by simpa [w32B] using hv
  have ho := may_ok hm
  have hf := enc_fix hm
  rw [he] at hf
  have hk := form_rng ho
  obtain ⟨a1, a2, a3, a4, a5, a6⟩ := fix_parts hk.1 hk.2 hf
  rw [operZ_eq v hv]
  rcases op_cases i.op with ⟨n, n1, n2, hn⟩ | h
  · rw [hn] at a1 a2 a3 a4 a5 a6 ⊢
    have h5 : opG (v % 128) (v / 4096 % 8) (v / 33554432 % 128 == 1) (v / 33554432 % 128 == 32) (v / 1073741824 % 2 == 1) (v / 134217728 % 32) (v / 4096 % 2 == 1) (v / 1048576 % 2 == 1)
        = opG (v % 128) (v / 4096 % 8) (v / 33554432 % 128 == 1) (v / 33554432 % 128 == 32) (v / 1073741824 % 2 == 1) (wordZ n / 134217728 % 32) (v / 4096 % 2 == 1) (v / 1048576 % 2 == 1) := by
      rcases no27 ⟨n, n2⟩ with h | h | h
      · simp at h; omega
      · rw [a5 h]
      · simp only at h
        rw [← a1] at h
        unfold opG
        rw [h]
        simp only [cond_false]
    rw [h5, a1]
    have hf3 : v / 4096 % 8 = ((v / 4096 % 8).toNat : Int) := by omega
    rcases op_all ⟨n, n2⟩ ⟨(v / 4096 % 8).toNat, by omega⟩ (v / 33554432 % 128 == 1) (v / 33554432 % 128 == 32) (v / 1073741824 % 2 == 1) (v / 4096 % 2 == 1) (v / 1048576 % 2 == 1) with h | h
    · simp at h; omega
    · unfold opOk at h
      simp only [Bool.or_eq_true, Bool.and_eq_true, Bool.not_eq_true', ← hf3] at h
      rcases h with (((⟨h1, h2⟩ | ⟨h1, h2⟩) | ⟨h1, h2⟩) | ⟨h1, h2⟩) | h
      · exfalso
        have b := a2 h1
        have b' : v / 4096 % 2 = wordZ n / 4096 % 2 := by unfold part3 at b; omega
        rw [← b, b'] at h2
        simp [part3] at h2
      · exfalso
        rw [a3 h1] at h2
        simp at h2
      · exfalso
        have b := a4 h1
        have e : ∀ x : Int, x / 1073741824 = x / 67108864 / 16 := fun x => by omega
        have b' : v / 1073741824 % 2 = wordZ n / 1073741824 % 2 := by rw [e, e (wordZ n), b]
        rw [b'] at h2
        simp at h2
      · exfalso
        have b := a6 h1
        have b' : v / 1048576 % 2 = wordZ n / 1048576 % 2 := by omega
        rw [b'] at h2
        simp at h2
      · simpa using h
  · rw [okB_out h] at ho; cases ho
/-! ### Decode -/
noncomputable def pDecC : PTab := orP pOperation pRead
theorem pDecC_ok : PTabOk Tryd.prog decGl pDecC := pOperation_ok.or pRead_ok
theorem tEncD_ok : TabOk Tryd.prog decGl tEncode := TabOk.more tEncode_ok dec_enc
noncomputable def readV (v : Int) : In := readZ5 (operZ (v / 4096 % 8) v) v
theorem decode_bad1 (v : Int) (hv : w32B v = true) (h : (errE (readV v) != 0) = true) (w : World) (hG : GlobOk decGl w) : Ret Tryd.prog 15 #[.int .u32 v] (inV ⟨0, 0, 0, 0, IntKind.i64.wrap v, false, false⟩) w :=
  retP tEncD_ok pDecC_ok (fuel := 1000) O1 [true] (v := inV ⟨0, 0, 0, 0, IntKind.i64.wrap v, false, false⟩) [(errE (readV v) != 0, true), (pre (w32B v), true), (pre (w32B v), true)] (by kernel_rfl) (by simp [pre, hv, h]) w hG
theorem decode_bad2 (v : Int) (hv : w32B v = true) (h : (errE (readV v) != 0) = false) (h' : (wordE (readV v) != v) = true) (w : World) (hG : GlobOk decGl w) : Ret Tryd.prog 15 #[.int .u32 v] (inV ⟨0, 0, 0, 0, IntKind.i64.wrap v, false, false⟩) w :=
  retP tEncD_ok pDecC_ok (fuel := 1000) O1 [false, true] (v := inV ⟨0, 0, 0, 0, IntKind.i64.wrap v, false, false⟩) [(wordE (readV v) != v, true), (errE (readV v) != 0, false), (pre (w32B v), true), (pre (w32B v), true)] (by kernel_rfl) (by simp [pre, hv, h, h']) w hG
theorem decode_good (v : Int) (hv : w32B v = true) (h : (errE (readV v) != 0) = false) (h' : (wordE (readV v) != v) = false) (w : World) (hG : GlobOk decGl w) : Ret Tryd.prog 15 #[.int .u32 v] (inV (readV v)) w :=
  retP tEncD_ok pDecC_ok (fuel := 1000) O1 [false, false] (v := inV (readV v)) [(wordE (readV v) != v, false), (errE (readV v) != 0, false), (pre (w32B v), true), (pre (w32B v), true)] (by kernel_rfl) (by simp [pre, hv, h, h']) w hG
theorem decode_ret (v : Int) (hv : w32B v = true) (w : World) (hG : GlobOk decGl w) : Ret Tryd.prog 15 #[.int .u32 v] (inV (decodeZ v)) w := by
  have hr : 0 ≤ v ∧ v < 4294967296 := by simpa [w32B] using hv
  by_cases h : ∃ i, mayB i = true ∧ encZ i = v
  · obtain ⟨i, h1, h2⟩ := h
    have ho := may_ok h1
    have e : readV v = i := by
      unfold readV
      rw [oper_of hv h1 h2, readZ5_yes ho]
      have := enc_as h1
      rw [h2] at this
      exact this
    rw [decodeZ_yes h1 h2]
    have := decode_good v hv (by rw [e]; simp [errE, h1]) (by rw [e]; simp [wordE, h1, h2]) w hG
    rw [e] at this
    exact this
  · have hn : ∀ i, mayB i = true → encZ i ≠ v := fun i h1 h2 => h ⟨i, h1, h2⟩
    rw [decodeZ_no hn]
    have hw : IntKind.i64.wrap v = v := i64_id v hr.1 hr.2
    cases hm : mayB (readV v)
    · have := decode_bad1 v hv (by simp [errE, hm]) w hG
      rw [hw] at this; exact this
    · have := decode_bad2 v hv (by simp [errE, hm]) (by simpa [wordE, hm] using hn _ hm) w hG
      rw [hw] at this; exact this
noncomputable def pDecode : PTab := prowD 15 decDecode
theorem pDecode_ok : PTabOk Tryd.prog decGl pDecode := .rowD fun args u hd w hG => by
  unfold decDecode at hd
  split at hd
  · rename_i v
    simp only [Option.some.injEq, Prod.mk.injEq, pre] at hd
    obtain ⟨rfl, hc⟩ := hd
    exact decode_ret v hc w hG
  · cases hd
end Go.Proofs.YtimgongaenpgkaaDoor
