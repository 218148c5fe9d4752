/- Layer 9: doing a loading leaves the number in its register and changes no other (P9.3). -/
import Derived.Test.YtpmjfpdogbcigaaDoorDoes09
namespace Go.Proofs.YtpmjfpdogbcigaaDoor
open Go.RowKit Sim S2
set_option linter.unusedVariables false
set_option linter.unusedSimpArgs false
noncomputable def runX (L : List In) (X : Nat → Int) : Nat → Int := L.foldl (fun X i => stepX i X) X
theorem does_take (L : List In) (X : Nat → Int) : ∀ j, j ≤ L.length → doesX (elL L) X j = runX (L.take j) X
  | 0, _ => rfl
  | j + 1, h => by
    have e : L.take (j + 1) = L.take j ++ [elL L j] := by
      rw [List.take_add_one]
      have : L[j]? = some (elL L j) := by unfold elL; rw [List.getElem?_eq_getElem (by omega)]; rfl
      rw [this]; rfl
    show stepX (elL L j) (doesX (elL L) X j) = _
    rw [e, does_take L X j (by omega)]
    unfold runX
    rw [List.foldl_append]; rfl
theorem does_run (L : List In) (X : Nat → Int) : doesX (elL L) X L.length = runX L X := by rw [does_take L X _ (Nat.le_refl _), List.take_length]
theorem run_app (L M : List In) (X : Nat → Int) : runX (L ++ M) X = runX M (runX L X) := List.foldl_append ..
theorem run_one (i : In) (X : Nat → Int) : runX [i] X = stepX i X := rfl
theorem putX_at (rd v : Int) (X : Nat → Int) (k : Nat) : putX rd v X k = bif rd == (k : Int) then v else X k := by unfold putX; rw [selZ_eq]
theorem putX_two (rd u v : Int) (X : Nat → Int) : putX rd v (putX rd u X) = putX rd v X := by
  funext k
  rw [putX_at, putX_at, putX_at]
  cases rd == (k : Int) <;> rfl
theorem pick_reg (X : Nat → Int) {a : Int} (h0 : 0 ≤ a) (h1 : a < 32) : pickZ (regL X) a = X a.toNat := by
  rw [pickZ_eq]
  unfold regL
  rw [List.getElem?_map, List.getElem?_range (by omega)]; rfl
theorem pick_put (rd v : Int) (X : Nat → Int) (h0 : 0 ≤ rd) (h1 : rd < 32) : pickZ (regL (putX rd v X)) rd = v := by
  rw [pick_reg _ h0 h1, putX_at]
  have : (rd == (rd.toNat : Int)) = true := by rw [beq_iff_eq]; omega
  rw [this]; rfl
theorem ev22 (a b : Int) : evZ 22 a b = IntKind.i64.wrap (a + b) := by rw [evZ_eq, ← ar_add]; rfl
theorem ev31 (a b : Int) : evZ 31 a b = wrap32 (a + b) := by
  rw [evZ_eq]
  show hafZ (arZ .add .i64 a b) = _
  rw [hafZ_eq, ar_add, wrap_i64]
  unfold wrap32; omega
theorem ev28 (a : Int) (n : Nat) (hn : n ≤ 63) : evZ 28 a n = IntKind.i64.wrap (a * 2 ^ n) := by
  rw [evZ_eq]
  show movZ a n true 0 64 = _
  rw [movZ_eq]
  show i64N (sumB (mvB (u64N a) (n : Int).toNat true 0 64) 64) = _
  rw [Int.toNat_natCast, mv_up _ n 64 (by omega) (Nat.le_refl _)]
  have h1 : IntKind.u64.wrap a = ((u64N a : Nat) : Int) := u64N_eq a
  rw [IntKind.wrap_u64] at h1
  have hc : ((2 ^ n : Nat) : Int) = 2 ^ n := by rw [Int.natCast_pow]; rfl
  obtain ⟨c, hc2⟩ : ∃ c, a = (u64N a : Int) + 18446744073709551616 * c := ⟨a / 18446744073709551616, by omega⟩
  have e : a * 2 ^ n = ((u64N a * 2 ^ n : Nat) : Int) + 18446744073709551616 * (c * 2 ^ n) := by
    rw [Int.natCast_mul, hc, ← Int.mul_assoc, ← Int.add_mul, ← hc2]
  have hI : IntKind.i64.wrap (a * 2 ^ n) = IntKind.i64.wrap ((u64N a * 2 ^ n : Nat) : Int) := by
    rw [e, wrap_i64, wrap_i64]
    generalize c * 2 ^ n = y
    generalize ((u64N a * 2 ^ n : Nat) : Int) = z
    omega
  rw [hI, wrap_i64]
  unfold i64N wrap64
  have : (2 : Nat) ^ 64 = 18446744073709551616 := rfl
  rw [this]
  generalize u64N a * 2 ^ n = z
  omega
theorem step_zero {i : In} (h : i.rd = 0) (X : Nat → Int) : stepX i X = X := by unfold stepX; rw [h]; rfl
theorem run_zero : ∀ (L : List In) (X : Nat → Int), (∀ i ∈ L, i.rd = 0) → runX L X = X
  | [], X, _ => rfl
  | i :: r, X, h => by
    show runX r (stepX i X) = X
    rw [step_zero (h i List.mem_cons_self)]
    exact run_zero r X fun i hi => h i (List.mem_cons_of_mem _ hi)
/-- What each instruction of a loading into rd is. -/
def goodI (rd : Int) (i : In) : Prop := i.rd = rd ∧ okI i ∧ mayB i = true ∧ ((i.op == 1) = true ∨ 22 ≤ i.op ∧ i.op ≤ 31)
theorem may_lui (rd imm : Int) (hr : 0 ≤ rd ∧ rd ≤ 31) (hi : -524288 ≤ imm ∧ imm < 524288) : goodI rd (inst 1 rd 0 imm) := by
  refine ⟨rfl, ⟨⟨by show (0 : Int) ≤ 0; decide, by show (0 : Int) < 32; decide⟩, ⟨hr.1, by show rd < 32; omega⟩, fun _ => by show _ ≤ 4096 * imm ∧ 4096 * imm ≤ _; omega, fun h => by cases h⟩, ?_, .inl rfl⟩
  have hf : fitZ imm 20 = true := (fit_iff imm 20 (by decide) (by decide)).mpr (by simpa using hi)
  have e1 : formZ 1 = 1 := by decide +kernel
  have e2 : okB 1 = true := by decide +kernel
  unfold mayB inst
  simp only [e1, e2]
  have e3 : rdF 1 = true := by decide +kernel
  have e4 : aF 1 = false := by decide +kernel
  have e5 : bF 1 = false := by decide +kernel
  have e6 : oF 1 = false := by decide +kernel
  rw [e3, e4, e5, e6]
  unfold regB immB
  simp [hr.1, hr.2, hf]
theorem may_i (op rd a imm : Int) (hop : op = 22 ∨ op = 31) (hr : 0 ≤ rd ∧ rd ≤ 31) (ha : 0 ≤ a ∧ a ≤ 31) (hi : -2048 ≤ imm ∧ imm < 2048) : goodI rd (inst op rd a imm) := by
  have hf : fitZ imm 12 = true := (fit12 imm).mpr hi
  have e3 : rdF 3 = true := by decide +kernel
  have e4 : aF 3 = true := by decide +kernel
  have e5 : bF 3 = false := by decide +kernel
  have e6 : oF 3 = false := by decide +kernel
  have ef : formZ op = 3 := by rcases hop with rfl | rfl <;> decide +kernel
  have eo : okB op = true := by rcases hop with rfl | rfl <;> decide +kernel
  have h1 : (op == 1) = false := by rcases hop with rfl | rfl <;> rfl
  refine ⟨rfl, ⟨⟨ha.1, by show a < 32; omega⟩, ⟨hr.1, by show rd < 32; omega⟩, fun h => (by rw [show (inst op rd a imm).op = op from rfl, h1] at h; cases h), fun _ => ob_dec (by show op = 22 ∨ op = 31 ∨ _; omega)⟩, ?_, .inr (by show 22 ≤ op ∧ op ≤ 31; omega)⟩
  unfold mayB inst
  simp only [ef, eo]
  rw [e3, e4, e5, e6]
  unfold regB immB
  simp [hr.1, hr.2, ha.1, ha.2, hf]
theorem may_sl (rd imm : Int) (hr : 0 ≤ rd ∧ rd ≤ 31) (hi : 0 ≤ imm ∧ imm ≤ 63) : goodI rd (inst 28 rd rd imm) := by
  have e3 : rdF 7 = true := by decide +kernel
  have e4 : aF 7 = true := by decide +kernel
  have e5 : bF 7 = false := by decide +kernel
  have e6 : oF 7 = false := by decide +kernel
  have ef : formZ 28 = 7 := by decide +kernel
  have eo : okB 28 = true := by decide +kernel
  refine ⟨rfl, ⟨⟨hr.1, by show rd < 32; omega⟩, ⟨hr.1, by show rd < 32; omega⟩, fun h => (by cases h), fun _ => ob_dec (.inr (.inr ⟨rfl, hi⟩))⟩, ?_, .inr (by show 22 ≤ (28 : Int) ∧ (28 : Int) ≤ 31; decide)⟩
  unfold mayB inst
  simp only [ef, eo]
  rw [e3, e4, e5, e6]
  unfold regB immB btwB
  simp [hr.1, hr.2, hi.1, hi.2]
theorem low12_rng (n : Int) : -2048 ≤ lowZ n 12 ∧ lowZ n 12 < 2048 := by rw [low12]; omega
theorem low20_rng (n : Int) : -524288 ≤ lowZ n 20 ∧ lowZ n 20 < 524288 := by rw [low20]; omega
theorem plus_good (op rd n : Int) (hop : op = 22 ∨ op = 31) (hr : 0 ≤ rd ∧ rd ≤ 31) : ∀ i ∈ plusL op rd (lowZ n 12), goodI rd i := fun i hi => by
  unfold plusL at hi
  cases h0 : lowZ n 12 == 0
  · rw [h0] at hi
    obtain rfl := List.mem_singleton.mp hi
    exact may_i op rd rd _ hop hr hr (low12_rng n)
  · rw [h0] at hi; cases hi
theorem base_good (rd n : Int) (hr : 0 ≤ rd ∧ rd ≤ 31) : ∀ i ∈ baseL rd n, goodI rd i := fun i hi => by
  unfold baseL at hi
  cases h12 : fitZ n 12
  · rw [h12] at hi
    rcases List.mem_cons.mp hi with rfl | hi
    · exact may_lui rd _ hr (low20_rng _)
    · exact plus_good 31 rd n (.inr rfl) hr i hi
  · rw [h12] at hi
    obtain rfl := List.mem_singleton.mp hi
    exact may_i 22 rd 0 n (.inl rfl) hr ⟨by decide, by decide⟩ ((fit12 n).mp h12)
theorem ld_good : ∀ (d : Nat) (rd n : Int), 0 ≤ rd ∧ rd ≤ 31 → lvB d n = true → ∀ i ∈ ldL d rd n, goodI rd i
  | 0, rd, n, hr, _ => base_good rd n hr
  | d + 1, rd, n, hr, hl => fun i hi => by
    cases h32 : fitZ n 32
    · have hI := lvB_isI hl
      obtain ⟨k, o, hk, hodd, ho, htz, hod, hne, hki, _⟩ := split9 hI h32
      have h12 : fitZ n 12 = false := by
        cases h12 : fitZ n 12
        · rfl
        · rw [(fit32 n).mpr (by have := (fit12 n).mp h12; omega)] at h32; cases h32
      have e : ldL (d + 1) rd n = ldL d rd (oddH n) ++ (inst 28 rd rd (arZ .add .i64 12 (tzH n)) :: plusL 22 rd (lowZ n 12)) := by
        show (bif fitZ n 12 || fitZ n 32 then _ else _) = _
        rw [h12, h32]; rfl
      rw [e] at hi
      rcases List.mem_append.mp hi with hi | hi
      · exact ld_good d rd (oddH n) hr (lvl_down hI h32 d hl).1 i hi
      · rcases List.mem_cons.mp hi with rfl | hi
        · refine may_sl rd _ hr ?_
          rw [ar_add, htz, wrap_self (by unfold isI; omega)]; omega
        · exact plus_good 22 rd n (.inl rfl) hr i hi
    · rw [ldL_base h32] at hi
      exact base_good rd n hr i hi
/-- .. and what they do. -/
theorem step_put {i : In} (h : i.rd ≠ 0) (X : Nat → Int) : stepX i X = putX i.rd (valX i X) X := by
  unfold stepX
  rw [show (i.rd == 0) = false by simpa using h]; rfl
theorem step_plus {op rd lo u : Int} {X : Nat → Int} (hop : (op == 1) = false) (h0 : rd ≠ 0) (hr : 0 ≤ rd ∧ rd ≤ 31) : stepX (inst op rd rd lo) (putX rd u X) = putX rd (evZ op u lo) X := by
  rw [step_put (i := inst op rd rd lo) h0]
  unfold valX
  rw [show ((inst op rd rd lo).op == 1) = false from hop]
  show putX rd (evZ op (pickZ (regL (putX rd u X)) rd) lo) (putX rd u X) = _
  rw [pick_put rd u X hr.1 (by omega), putX_two]
theorem base_run (rd n : Int) (h0 : rd ≠ 0) (hr : 0 ≤ rd ∧ rd ≤ 31) (h32 : fitZ n 32 = true) (X : Nat → Int) (hX : X 0 = 0) : runX (baseL rd n) X = putX rd n X := by
  have hn := (fit32 n).mp h32
  cases h12 : fitZ n 12
  · have hlui : stepX (inst 1 rd 0 (lowZ (hiZ n) 20)) X = putX rd (4096 * lowZ (hiZ n) 20) X := step_put (i := inst 1 rd 0 (lowZ (hiZ n) 20)) h0 X
    obtain ⟨h1, h2, h3, h4, h5, h6⟩ := hi_parts n
    rw [wrap_i64] at h1
    cases hl : lowZ n 12 == 0
    · have e : baseL rd n = [inst 1 rd 0 (lowZ (hiZ n) 20), inst 31 rd rd (lowZ n 12)] := by unfold baseL plusL; rw [h12, hl]; rfl
      rw [e]
      show stepX (inst 31 rd rd (lowZ n 12)) (stepX (inst 1 rd 0 (lowZ (hiZ n) 20)) X) = _
      rw [hlui, step_plus rfl h0 hr, ev31, low20]
      congr 1
      unfold wrap32; omega
    · have hl : lowZ n 12 = 0 := by simpa using hl
      have e : baseL rd n = [inst 1 rd 0 (lowZ (hiZ n) 20)] := by unfold baseL plusL; rw [h12, hl]; rfl
      rw [e]
      show stepX (inst 1 rd 0 (lowZ (hiZ n) 20)) X = _
      rw [hlui, low20]
      congr 1
      omega
  · have e : baseL rd n = [inst 22 rd 0 n] := by unfold baseL; rw [h12]; rfl
    rw [e]
    show stepX (inst 22 rd 0 n) X = _
    rw [step_put (i := inst 22 rd 0 n) h0]
    show putX rd (evZ 22 (pickZ (regL X) 0) n) X = _
    rw [pick_reg X (by decide) (by decide), show X (0 : Int).toNat = 0 from hX, ev22, wrap_self (by unfold isI; omega)]
    congr 1
    omega
theorem ld_run : ∀ (d : Nat) (rd n : Int), rd ≠ 0 → 0 ≤ rd ∧ rd ≤ 31 → lvB d n = true → ∀ (X : Nat → Int), X 0 = 0 → runX (ldL d rd n) X = putX rd n X
  | 0, rd, n, h0, hr, hl => base_run rd n h0 hr hl
  | d + 1, rd, n, h0, hr, hl => fun X hX => by
    cases h32 : fitZ n 32
    · have hI := lvB_isI hl
      obtain ⟨k, o, hk, hodd, ho, htz, hod, hne, hki, _⟩ := split9 hI h32
      obtain ⟨h1, h2, h3, h4, h5, h6⟩ := hi_parts n
      rw [wrap_i64] at h1
      have h12 : fitZ n 12 = false := by
        cases h12 : fitZ n 12
        · rfl
        · rw [(fit32 n).mpr (by have := (fit12 n).mp h12; omega)] at h32; cases h32
      have e : ldL (d + 1) rd n = ldL d rd (oddH n) ++ (inst 28 rd rd (arZ .add .i64 12 (tzH n)) :: plusL 22 rd (lowZ n 12)) := by
        show (bif fitZ n 12 || fitZ n 32 then _ else _) = _
        rw [h12, h32]; rfl
      have hsh : arZ .add .i64 12 (tzH n) = ((12 + k : Nat) : Int) := by rw [ar_add, htz, wrap_self (by unfold isI; omega)]; omega
      have hval : evZ 28 (oddH n) ((12 + k : Nat) : Int) = 4096 * hiZ n := by
        rw [ev28 _ _ (by omega), hod, ho]
        have : o * 2 ^ (12 + k) = 4096 * (2 ^ k * o) := by rw [Int.pow_add, show (2 : Int) ^ 12 = 4096 from rfl, Int.mul_comm o, Int.mul_assoc]
        rw [this, ← ho, wrap_i64]
        omega
      rw [e, run_app, ld_run d rd (oddH n) h0 hr (lvl_down hI h32 d hl).1 X hX]
      show runX (plusL 22 rd (lowZ n 12)) (stepX (inst 28 rd rd (arZ .add .i64 12 (tzH n))) (putX rd (oddH n) X)) = _
      rw [step_plus rfl h0 hr, hsh, hval]
      unfold isI at hI
      cases hl0 : lowZ n 12 == 0
      · have e2 : plusL 22 rd (lowZ n 12) = [inst 22 rd rd (lowZ n 12)] := by unfold plusL; rw [hl0]; rfl
        rw [e2, run_one, step_plus rfl h0 hr, ev22, wrap_i64]
        congr 1
        omega
      · have e2 : plusL 22 rd (lowZ n 12) = [] := by unfold plusL; rw [hl0]; rfl
        have hl0 : lowZ n 12 = 0 := by simpa using hl0
        rw [e2]
        show putX rd (4096 * hiZ n) X = _
        congr 1
        omega
    · rw [ldL_base h32]
      exact base_run rd n h0 hr h32 X hX
end Go.Proofs.YtpmjfpdogbcigaaDoor
