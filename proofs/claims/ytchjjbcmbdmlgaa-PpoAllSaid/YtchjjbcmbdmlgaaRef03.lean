/- Contracts of the answers by definition for layer 3, and of what reads the table of names. -/
import Derived.Test.YtchjjbcmbdmlgaaK05
import Derived.Test.YtchjjbcmbdmlgaaIsa
set_option linter.unusedVariables false
set_option linter.unusedSimpArgs false
namespace Go.Proofs.Ytchjjbcmbdmlgaa
open Go.RowKit Sim
theorem refName_ret {gl : Gl} (op : Int) (w : World) (hG : GlobOk gl w) : Ret Try.prog 85 #[.int .i64 op] (.string (nameZ op)) w := by
  rcases op_cases op with ⟨n, h1, h2, rfl⟩ | h
  · rw [nameZ_nat]; exact refName_in n w h1 h2
  · rw [nameZ_out h]; exact refName_out op w h
theorem letter_in {gl : Gl} : (List.range 88).all (runs { P := Try.prog, glob := gl, call := noT } 1000 84 (fun n => [.int .i64 n]) fun n => .int .u8 (letZ n)) = true := by kernel_rfl
theorem letter_ret {gl : Gl} (op : Int) (w : World) (hG : GlobOk gl w) : Ret Try.prog 84 #[.int .i64 op] (.int .u8 (letZ op)) w := by
  rcases op_cases op with ⟨n, h1, h2, rfl⟩ | h
  · exact runs_ret (TabOk.none _ _) letter_in n h2 w hG
  · have e : (Value.int .u8 0) = .int .u8 (letZ op) := by rw [letZ_out h]
    cases h0 : decide (op < 1)
    case true => exact (ret (TabOk.none _ _) (fuel := 1000) O1 [true] (v := .int .u8 0) [(decide (op < 1), true)] (by kernel_rfl) (by simp [h0]) w hG).of_eq e
    case false =>
      have h1 : decide (op > 87) = true := by simp at h0 ⊢; omega
      exact (ret (TabOk.none _ _) (fuel := 1000) O1 [false, true] (v := .int .u8 0) [(decide (op > 87), true), (decide (op < 1), false)] (by kernel_rfl) (by simp only [h0, h1]; simp) w hG).of_eq e
def tLetter : Tab := row 84 decI fun x => .int .u8 (letZ x)
theorem tLetter_ok {gl : Gl} : TabOk Try.prog gl tLetter := tabI fun x w hG => letter_ret x w hG
theorem refForm_in {gl : Gl} : (List.range 88).all (runs { P := Try.prog, glob := gl, call := noT } 1000 68 (fun n => [.int .i64 n]) fun n => .int .i64 (formZ n)) = true := by kernel_rfl
def lettersL : List Int := [85, 74, 73, 66, 83, 82, 72, 87, 70, 78, 76, 65]
theorem refForm_ret {gl : Gl} (op : Int) (w : World) (hG : GlobOk gl w) : Ret Try.prog 68 #[.int .i64 op] (.int .i64 (formZ op)) w := by
  rcases op_cases op with ⟨n, h1, h2, rfl⟩ | h
  · exact runs_ret (TabOk.none _ _) refForm_in n h2 w hG
  · refine (ret tLetter_ok (fuel := 1000) O1 (List.replicate 12 false) (v := .int .i64 (-1)) (lettersL.reverse.map fun k => (letZ op == k, false)) (by kernel_rfl) (fun p hp => ?_) w hG).of_eq (by rw [formZ_out h])
    obtain ⟨k, hk, rfl⟩ := List.mem_map.mp hp
    have : 65 ≤ k := (show ∀ k ∈ lettersL.reverse, 65 ≤ k by decide) k hk
    rw [letZ_out h]
    simp; omega
def tRefForm : Tab := row 68 decI fun x => .int .i64 (formZ x)
theorem tRefForm_ok {gl : Gl} : TabOk Try.prog gl tRefForm := tabI fun x w hG => refForm_ret x w hG
def decIShort : List Value → Option (Int × ByteArray)
  | [.int .i64 x, .string s] => bif Nat.ble s.size 100 then some (x, s) else none
  | _ => none
theorem letter_same (op : Int) (w : World) : Calls Try.prog 84 #[.int .i64 op] w fun e w' => e = .returned (.int .u8 (letZ op)) ∧ w = w' := by
  rcases op_cases op with ⟨n, h1, h2, rfl⟩ | h
  · have h3 : ∀ m : Nat, m < 88 → simCall { P := Try.prog, glob := fun _ => none, call := noT } 1000 [] [] 84 [.int .i64 m] = some (.int .u8 (letZ m), [], false) := fun m hm => by
      have hall : (List.range 88).all (fun m => match simCall { P := Try.prog, glob := fun _ => none, call := noT } 1000 [] [] 84 [.int .i64 m] with
        | some (v, [], false) => eqV v (.int .u8 (letZ m))
        | _ => false) = true := by kernel_rfl
      have h1 := List.all_eq_true.mp hall m (List.mem_range.mpr hm)
      split at h1
      · rename_i v hs; rw [hs, eqV_eq _ _ h1]
      · cases h1
    exact simCall_same (callOk_none _ _) (h3 n h2) (fun p hp => by cases hp) w (glob_none _ _ w)
  · have e : (Value.int .u8 0) = .int .u8 (letZ op) := by rw [letZ_out h]
    rw [← e]
    cases h0 : decide (op < 1)
    case true => exact simCall_same (callOk_none _ _) (fuel := 1000) (fls := O1) (orc := [true]) (args := [.int .i64 op]) (l := [(decide (op < 1), true)]) (by kernel_rfl) (by simp [h0]) w (glob_none _ _ w)
    case false =>
      have h1 : decide (op > 87) = true := by simp at h0 ⊢; omega
      exact simCall_same (callOk_none _ _) (fuel := 1000) (fls := O1) (orc := [false, true]) (args := [.int .i64 op]) (l := [(decide (op > 87), true), (decide (op < 1), false)]) (by kernel_rfl) (by simp only [h0, h1]; simp) w (glob_none _ _ w)
def tHas : Tab := row 63 decIShort fun x => .bool (hasB x.1 x.2)
theorem tHas_ok {gl : Gl} : TabOk Try.prog gl tHas := .row fun args a hd w hG => by
  unfold decIShort at hd
  split at hd
  · rename_i x s hl
    cases hb : Nat.ble s.size 100
    · rw [hb] at hd; cases hd
    · rw [hb] at hd
      simp only [cond_true, Option.some.injEq] at hd
      subst hd
      rw [args_eq hl]
      exact has_any x s w (Nat.le_of_ble_eq_true hb) (letter_same x)
  · cases hd
theorem has_out {op : Int} (h : op < 1 ∨ 87 < op) (s : ByteArray) (hs : s.data.toList.all (fun c => c != 0) = true) : hasB op s = false := by
  unfold hasB
  rw [letZ_out h, List.any_eq_false]
  intro c hc
  have := List.all_eq_true.mp hs c hc
  simp at this ⊢
  intro e
  exact this (UInt8.toNat_inj.mp (by simpa using e))
theorem has_fields (op : Int) : hasB op ⟨#[85, 74, 73, 82, 72, 87, 76, 65]⟩ = rdF (formZ op) ∧ hasB op ⟨#[73, 66, 83, 82, 72, 87, 76, 65]⟩ = aF (formZ op) ∧ hasB op ⟨#[66, 83, 82, 65]⟩ = bF (formZ op) ∧ hasB op ⟨#[76, 65]⟩ = oF (formZ op) := by
  rcases op_cases op with ⟨n, h1, h2, rfl⟩ | h
  · exact let_has' ⟨n, h2⟩
  · rw [formZ_out h]
    exact ⟨has_out h _ (by decide), has_out h _ (by decide), has_out h _ (by decide), has_out h _ (by decide)⟩
theorem hasRd_ret {gl : Gl} (op : Int) (w : World) (hG : GlobOk gl w) : Ret Try.prog 77 #[.int .i64 op] (.bool (rdF (formZ op))) w :=
  (ret tHas_ok (fuel := 1000) O1 [] (v := .bool (hasB op ⟨#[85, 74, 73, 82, 72, 87, 76, 65]⟩)) [] (by kernel_rfl) (fun _ h => by cases h) w hG).of_eq (by rw [(has_fields op).1])
def tHasRd : Tab := row 77 decI fun x => .bool (rdF (formZ x))
theorem tHasRd_ok {gl : Gl} : TabOk Try.prog gl tHasRd := tabI fun x w hG => hasRd_ret x w hG
theorem hasA_ret {gl : Gl} (op : Int) (w : World) (hG : GlobOk gl w) : Ret Try.prog 79 #[.int .i64 op] (.bool (aF (formZ op))) w :=
  (ret tHas_ok (fuel := 1000) O1 [] (v := .bool (hasB op ⟨#[73, 66, 83, 82, 72, 87, 76, 65]⟩)) [] (by kernel_rfl) (fun _ h => by cases h) w hG).of_eq (by rw [(has_fields op).2.1])
def tHasA : Tab := row 79 decI fun x => .bool (aF (formZ x))
theorem tHasA_ok {gl : Gl} : TabOk Try.prog gl tHasA := tabI fun x w hG => hasA_ret x w hG
theorem hasB_ret {gl : Gl} (op : Int) (w : World) (hG : GlobOk gl w) : Ret Try.prog 80 #[.int .i64 op] (.bool (bF (formZ op))) w :=
  (ret tHas_ok (fuel := 1000) O1 [] (v := .bool (hasB op ⟨#[66, 83, 82, 65]⟩)) [] (by kernel_rfl) (fun _ h => by cases h) w hG).of_eq (by rw [(has_fields op).2.2.1])
def tHasB : Tab := row 80 decI fun x => .bool (bF (formZ x))
theorem tHasB_ok {gl : Gl} : TabOk Try.prog gl tHasB := tabI fun x w hG => hasB_ret x w hG
theorem register_ret {gl : Gl} (r : Int) (u : Bool) (w : World) (hG : GlobOk gl w) : Ret Try.prog 94 #[.int .i64 r, .bool u] (.bool (regB r u)) w := by
  rcases Bool.eq_false_or_eq_true (u) with h0 | h0
  · rcases Bool.eq_false_or_eq_true (decide (r ≥ 0)) with h1 | h1
    · exact (ret (TabOk.none _ _) (fuel := 1000) O2 [false, true] (v := .bool (decide (r ≤ 31))) [(decide (r ≥ 0), true), (!u, false)] (by kernel_rfl) (by simp [h0, h1]) w hG).of_eq (by simp [reg_eq, h0, h1])
    · exact (ret (TabOk.none _ _) (fuel := 1000) O2 [false, false] (v := .bool (false)) [(decide (r ≥ 0), false), (!u, false)] (by kernel_rfl) (by simp [h0, h1]) w hG).of_eq (by simp [reg_eq, h0, h1])
  · exact (ret (TabOk.none _ _) (fuel := 1000) O2 [true] (v := .bool (r == 0)) [(!u, true)] (by kernel_rfl) (by simp [h0]) w hG).of_eq (by simp [reg_eq, h0])
def tRegister : Tab := row 94 decIB fun x => .bool (regB x.1 x.2)
theorem tRegister_ok {gl : Gl} : TabOk Try.prog gl tRegister := tabIB fun x y w hG => register_ret x y w hG
theorem fits21 (x : Int) : fitZ x 21 = (decide (-1048576 ≤ x) && decide (x ≤ 1048575)) := by
  have h := fitsB_iff x 21
  unfold fitZ
  rw [if_pos (by omega), show (21 : Int).toNat = 21 from rfl, Bool.eq_iff_iff, h]
  simp; omega
theorem refFits_ret {gl : Gl} (v : Int) (w : World) (hG : GlobOk gl w) : Ret Try.prog 104 #[.int .i64 v, .int .i64 21] (.bool (fitZ v 21)) w := by
  rcases Bool.eq_false_or_eq_true (decide (v ≥ -1048576)) with h0 | h0
  · exact (ret (TabOk.none _ _) (fuel := 1000) [[true], []] [true] (v := .bool (decide (v ≤ 1048575))) [(decide (v ≥ -1048576), true)] (by kernel_rfl) (by simp [h0]) w hG).of_eq (by simp [fits21, h0])
  · exact (ret (TabOk.none _ _) (fuel := 1000) [[true], []] [false] (v := .bool (false)) [(decide (v ≥ -1048576), false)] (by kernel_rfl) (by simp [h0]) w hG).of_eq (by simp [fits21, h0])
def decI21 : List Value → Option Int
  | [.int .i64 x, .int .i64 n] => bif n == 21 then some x else none
  | _ => none
def tFits21 : Tab := row 104 decI21 fun x => .bool (fitZ x 21)
theorem tFits21_ok {gl : Gl} : TabOk Try.prog gl tFits21 := .row fun args a hd w hG => by
  unfold decI21 at hd
  split at hd
  · rename_i x n hl
    cases hb : (n == 21)
    · rw [hb] at hd; cases hd
    · rw [hb] at hd
      simp only [cond_true, Option.some.injEq] at hd
      subst hd
      rw [args_eq hl, eq_of_beq hb]
      exact refFits_ret _ w hG
  · cases hd
def immR (v l : Int) : Bool :=
  bif l == 85 then decide (v ≥ -524288) && decide (v ≤ 524287) else bif l == 74 then fitZ v 21 && evenB v else bif l == 66 then (decide (v ≥ -4096) && decide (v ≤ 4094)) && evenB v
  else bif l == 73 then decide (v ≥ -2048) && decide (v ≤ 2047) else bif l == 83 then decide (v ≥ -2048) && decide (v ≤ 2047) else bif l == 72 then decide (v ≥ 0) && decide (v ≤ 63)
  else bif l == 87 then decide (v ≥ 0) && decide (v ≤ 31) else bif l == 70 then decide (v ≥ 0) && decide (v ≤ 255) else v == 0
theorem immediate_l {gl : Gl} (op v : Int) (w : World) (hG : GlobOk gl w) : Ret Try.prog 95 #[.int .i64 op, .int .i64 v] (.bool (immR v (letZ op))) w := by
  have hc : TabOk Try.prog gl (orT tLetter tFits21) := tLetter_ok.or tFits21_ok
  rcases Bool.eq_false_or_eq_true (letZ op == 85) with h0 | h0
  · rcases Bool.eq_false_or_eq_true (decide (v ≥ -524288)) with h1 | h1
    · exact (ret hc (fuel := 1000) O2 [true, true] (v := .bool (decide (v ≤ 524287))) [(decide (v ≥ -524288), true), (letZ op == 85, true)] (by kernel_rfl) (by simp [h0, h1]) w hG).of_eq (by simp [immR, evenB, h0, h1])
    · exact (ret hc (fuel := 1000) O2 [true, false] (v := .bool (false)) [(decide (v ≥ -524288), false), (letZ op == 85, true)] (by kernel_rfl) (by simp [h0, h1]) w hG).of_eq (by simp [immR, evenB, h0, h1])
  · rcases Bool.eq_false_or_eq_true (letZ op == 74) with h1 | h1
    · rcases Bool.eq_false_or_eq_true (fitZ v 21) with h2 | h2
      · exact (ret hc (fuel := 1000) O2 [false, true, true] (v := .bool (v.tmod 2 == 0)) [(fitZ v 21, true), (letZ op == 74, true), (letZ op == 85, false)] (by kernel_rfl) (by simp [h0, h1, h2]) w hG).of_eq (by simp [immR, evenB, h0, h1, h2])
      · exact (ret hc (fuel := 1000) O2 [false, true, false] (v := .bool (false)) [(fitZ v 21, false), (letZ op == 74, true), (letZ op == 85, false)] (by kernel_rfl) (by simp [h0, h1, h2]) w hG).of_eq (by simp [immR, evenB, h0, h1, h2])
    · rcases Bool.eq_false_or_eq_true (letZ op == 66) with h2 | h2
      · rcases Bool.eq_false_or_eq_true (decide (v ≥ -4096)) with h3 | h3
        · rcases Bool.eq_false_or_eq_true (decide (v ≤ 4094)) with h4 | h4
          · exact (ret hc (fuel := 1000) O2 [false, false, true, true, true] (v := .bool (v.tmod 2 == 0)) [(decide (v ≤ 4094), true), (decide (v ≥ -4096), true), (letZ op == 66, true), (letZ op == 74, false), (letZ op == 85, false)] (by kernel_rfl) (by simp [h0, h1, h2, h3, h4]) w hG).of_eq (by simp [immR, evenB, h0, h1, h2, h3, h4])
          · exact (ret hc (fuel := 1000) O2 [false, false, true, true, false] (v := .bool (false)) [(decide (v ≤ 4094), false), (decide (v ≥ -4096), true), (letZ op == 66, true), (letZ op == 74, false), (letZ op == 85, false)] (by kernel_rfl) (by simp [h0, h1, h2, h3, h4]) w hG).of_eq (by simp [immR, evenB, h0, h1, h2, h3, h4])
        · exact (ret hc (fuel := 1000) O2 [false, false, true, false] (v := .bool (false)) [(decide (v ≥ -4096), false), (letZ op == 66, true), (letZ op == 74, false), (letZ op == 85, false)] (by kernel_rfl) (by simp [h0, h1, h2, h3]) w hG).of_eq (by simp [immR, evenB, h0, h1, h2, h3])
      · rcases Bool.eq_false_or_eq_true (letZ op == 73) with h3 | h3
        · rcases Bool.eq_false_or_eq_true (decide (v ≥ -2048)) with h4 | h4
          · exact (ret hc (fuel := 1000) O2 [false, false, false, true, true] (v := .bool (decide (v ≤ 2047))) [(decide (v ≥ -2048), true), (letZ op == 73, true), (letZ op == 66, false), (letZ op == 74, false), (letZ op == 85, false)] (by kernel_rfl) (by simp [h0, h1, h2, h3, h4]) w hG).of_eq (by simp [immR, evenB, h0, h1, h2, h3, h4])
          · exact (ret hc (fuel := 1000) O2 [false, false, false, true, false] (v := .bool (false)) [(decide (v ≥ -2048), false), (letZ op == 73, true), (letZ op == 66, false), (letZ op == 74, false), (letZ op == 85, false)] (by kernel_rfl) (by simp [h0, h1, h2, h3, h4]) w hG).of_eq (by simp [immR, evenB, h0, h1, h2, h3, h4])
        · rcases Bool.eq_false_or_eq_true (letZ op == 83) with h4 | h4
          · rcases Bool.eq_false_or_eq_true (decide (v ≥ -2048)) with h5 | h5
            · exact (ret hc (fuel := 1000) O2 [false, false, false, false, true, true] (v := .bool (decide (v ≤ 2047))) [(decide (v ≥ -2048), true), (letZ op == 83, true), (letZ op == 73, false), (letZ op == 66, false), (letZ op == 74, false), (letZ op == 85, false)] (by kernel_rfl) (by simp [h0, h1, h2, h3, h4, h5]) w hG).of_eq (by simp [immR, evenB, h0, h1, h2, h3, h4, h5])
            · exact (ret hc (fuel := 1000) O2 [false, false, false, false, true, false] (v := .bool (false)) [(decide (v ≥ -2048), false), (letZ op == 83, true), (letZ op == 73, false), (letZ op == 66, false), (letZ op == 74, false), (letZ op == 85, false)] (by kernel_rfl) (by simp [h0, h1, h2, h3, h4, h5]) w hG).of_eq (by simp [immR, evenB, h0, h1, h2, h3, h4, h5])
          · rcases Bool.eq_false_or_eq_true (letZ op == 72) with h5 | h5
            · rcases Bool.eq_false_or_eq_true (decide (v ≥ 0)) with h6 | h6
              · exact (ret hc (fuel := 1000) O2 [false, false, false, false, false, true, true] (v := .bool (decide (v ≤ 63))) [(decide (v ≥ 0), true), (letZ op == 72, true), (letZ op == 83, false), (letZ op == 73, false), (letZ op == 66, false), (letZ op == 74, false), (letZ op == 85, false)] (by kernel_rfl) (by simp [h0, h1, h2, h3, h4, h5, h6]) w hG).of_eq (by simp [immR, evenB, h0, h1, h2, h3, h4, h5, h6])
              · exact (ret hc (fuel := 1000) O2 [false, false, false, false, false, true, false] (v := .bool (false)) [(decide (v ≥ 0), false), (letZ op == 72, true), (letZ op == 83, false), (letZ op == 73, false), (letZ op == 66, false), (letZ op == 74, false), (letZ op == 85, false)] (by kernel_rfl) (by simp [h0, h1, h2, h3, h4, h5, h6]) w hG).of_eq (by simp [immR, evenB, h0, h1, h2, h3, h4, h5, h6])
            · rcases Bool.eq_false_or_eq_true (letZ op == 87) with h6 | h6
              · rcases Bool.eq_false_or_eq_true (decide (v ≥ 0)) with h7 | h7
                · exact (ret hc (fuel := 1000) O2 [false, false, false, false, false, false, true, true] (v := .bool (decide (v ≤ 31))) [(decide (v ≥ 0), true), (letZ op == 87, true), (letZ op == 72, false), (letZ op == 83, false), (letZ op == 73, false), (letZ op == 66, false), (letZ op == 74, false), (letZ op == 85, false)] (by kernel_rfl) (by simp [h0, h1, h2, h3, h4, h5, h6, h7]) w hG).of_eq (by simp [immR, evenB, h0, h1, h2, h3, h4, h5, h6, h7])
                · exact (ret hc (fuel := 1000) O2 [false, false, false, false, false, false, true, false] (v := .bool (false)) [(decide (v ≥ 0), false), (letZ op == 87, true), (letZ op == 72, false), (letZ op == 83, false), (letZ op == 73, false), (letZ op == 66, false), (letZ op == 74, false), (letZ op == 85, false)] (by kernel_rfl) (by simp [h0, h1, h2, h3, h4, h5, h6, h7]) w hG).of_eq (by simp [immR, evenB, h0, h1, h2, h3, h4, h5, h6, h7])
              · rcases Bool.eq_false_or_eq_true (letZ op == 70) with h7 | h7
                · rcases Bool.eq_false_or_eq_true (decide (v ≥ 0)) with h8 | h8
                  · exact (ret hc (fuel := 1000) O2 [false, false, false, false, false, false, false, true, true] (v := .bool (decide (v ≤ 255))) [(decide (v ≥ 0), true), (letZ op == 70, true), (letZ op == 87, false), (letZ op == 72, false), (letZ op == 83, false), (letZ op == 73, false), (letZ op == 66, false), (letZ op == 74, false), (letZ op == 85, false)] (by kernel_rfl) (by simp [h0, h1, h2, h3, h4, h5, h6, h7, h8]) w hG).of_eq (by simp [immR, evenB, h0, h1, h2, h3, h4, h5, h6, h7, h8])
                  · exact (ret hc (fuel := 1000) O2 [false, false, false, false, false, false, false, true, false] (v := .bool (false)) [(decide (v ≥ 0), false), (letZ op == 70, true), (letZ op == 87, false), (letZ op == 72, false), (letZ op == 83, false), (letZ op == 73, false), (letZ op == 66, false), (letZ op == 74, false), (letZ op == 85, false)] (by kernel_rfl) (by simp [h0, h1, h2, h3, h4, h5, h6, h7, h8]) w hG).of_eq (by simp [immR, evenB, h0, h1, h2, h3, h4, h5, h6, h7, h8])
                · exact (ret hc (fuel := 1000) O2 [false, false, false, false, false, false, false, false] (v := .bool (v == 0)) [(letZ op == 70, false), (letZ op == 87, false), (letZ op == 72, false), (letZ op == 83, false), (letZ op == 73, false), (letZ op == 66, false), (letZ op == 74, false), (letZ op == 85, false)] (by kernel_rfl) (by simp [h0, h1, h2, h3, h4, h5, h6, h7]) w hG).of_eq (by simp [immR, evenB, h0, h1, h2, h3, h4, h5, h6, h7])
theorem fitsN (x : Int) (n : Nat) (h1 : 1 ≤ n) (h2 : n ≤ 64) : fitZ x (n : Int) = (decide (-((2 ^ (n - 1) : Nat) : Int) ≤ x) && decide (x < ((2 ^ (n - 1) : Nat) : Int))) := by
  have h := fitsB_iff x n
  unfold fitZ
  rw [if_pos (by omega), Int.toNat_natCast, Bool.eq_iff_iff, h]
  simp
theorem fits20 (x : Int) : fitZ x 20 = (decide (x ≥ -524288) && decide (x ≤ 524287)) := by
  have h := fitsN x 20 (by omega) (by omega)
  rw [show ((20 : Nat) : Int) = 20 from rfl] at h
  rw [h, Bool.eq_iff_iff]; simp; omega
theorem fits12 (x : Int) : fitZ x 12 = (decide (x ≥ -2048) && decide (x ≤ 2047)) := by
  have h := fitsN x 12 (by omega) (by omega)
  rw [show ((12 : Nat) : Int) = 12 from rfl] at h
  rw [h, Bool.eq_iff_iff]; simp; omega
theorem fits13 (x : Int) : (evenB x && fitZ x 13) = ((decide (x ≥ -4096) && decide (x ≤ 4094)) && evenB x) := by
  have h := fitsN x 13 (by omega) (by omega)
  rw [show ((13 : Nat) : Int) = 13 from rfl] at h
  have he : evenB x = decide (x % 2 = 0) := by
    unfold evenB
    rw [Bool.eq_iff_iff]
    simp
    rw [Int.tmod_eq_emod]
    split <;> omega
  rw [h, he, Bool.eq_iff_iff]; simp; omega
theorem let_form' : ∀ n : Fin 88, n.val = 0 ∨ (letZ n.val, formZ n.val) ∈ ([(85, 1), (74, 2), (73, 3), (66, 4), (83, 5), (82, 6), (72, 7), (87, 8), (70, 9), (78, 0), (76, 10), (65, 11)] : List (Int × Int)) := by decide +kernel
theorem imm_eq (op v : Int) : immR v (letZ op) = immB v (formZ op) := by
  rcases op_cases op with ⟨n, h1, h2, rfl⟩ | h
  · rcases let_form' ⟨n, h2⟩ with h | h
    · simp at h; omega
    · simp only [List.mem_cons, Prod.mk.injEq, List.not_mem_nil, or_false] at h
      rcases h with h | h | h | h | h | h | h | h | h | h | h | h <;> rw [h.1, h.2] <;> first | exact (fits13 v).symm | (simp [immR, immB, fits20, fits12, btw_eq, Bool.and_comm]; done)
  · rw [letZ_out h, formZ_out h]; rfl
theorem immediate_ret {gl : Gl} (op v : Int) (w : World) (hG : GlobOk gl w) : Ret Try.prog 95 #[.int .i64 op, .int .i64 v] (.bool (immB v (formZ op))) w := (immediate_l op v w hG).of_eq (by rw [imm_eq])
def tImmediate : Tab := row 95 decII fun x => .bool (immB x.2 (formZ x.1))
theorem tImmediate_ok {gl : Gl} : TabOk Try.prog gl tImmediate := tabII fun x y w hG => immediate_ret x y w hG
theorem letZ_ok (op : Int) : (letZ op == 0) = !okB op := by
  rcases op_cases op with ⟨n, h1, h2, rfl⟩ | h
  · rw [okB_nat n h1 h2]
    have : ∀ n : Fin 88, n.val = 0 ∨ (letZ n.val == 0) = false := by decide +kernel
    rcases this ⟨n, h2⟩ with h | h
    · simp at h; omega
    · exact h
  · rw [letZ_out h, okB_out h]; rfl
def tRefMayC : Tab := orT tLetter <| orT tHasRd <| orT tHasA <| orT tHasB <| orT tRegister <| orT tImmediate tHas
theorem tRefMayC_ok {gl : Gl} : TabOk Try.prog gl tRefMayC := tLetter_ok.or (tHasRd_ok.or (tHasA_ok.or (tHasB_ok.or (tRegister_ok.or (tImmediate_ok.or tHas_ok)))))
def mayR (i : In) : Bool :=
  !(letZ i.op == 0) && (regB i.rd (rdF (formZ i.op)) && (regB i.a (aF (formZ i.op)) && (regB i.b (bF (formZ i.op)) && (immB i.imm (formZ i.op) && (hasB i.op ⟨#[76, 65]⟩ || (!i.aq && !i.rl))))))
theorem mayR_eq (i : In) : mayR i = mayB i := by
  unfold mayR mayB
  rw [letZ_ok, (has_fields i.op).2.2.2, Bool.not_not]
theorem refMay_ret {gl : Gl} (i : In) (w : World) (hG : GlobOk gl w) : Ret Try.prog 82 #[inV i] (.bool (mayB i)) w := by
  rw [← mayR_eq]
  rcases Bool.eq_false_or_eq_true (letZ i.op == 0) with h0 | h0
  · exact (ret tRefMayC_ok (fuel := 1000) OIn [true] (v := .bool (false)) [(letZ i.op == 0, true)] (by kernel_rfl) (by simp [h0]) w hG).of_eq (by first | (simp only [mayR, h0]; rfl) | simp [mayR, h0])
  · rcases Bool.eq_false_or_eq_true (regB i.rd (rdF (formZ i.op))) with h1 | h1
    · rcases Bool.eq_false_or_eq_true (regB i.a (aF (formZ i.op))) with h2 | h2
      · rcases Bool.eq_false_or_eq_true (regB i.b (bF (formZ i.op))) with h3 | h3
        · rcases Bool.eq_false_or_eq_true (immB i.imm (formZ i.op)) with h4 | h4
          · rcases Bool.eq_false_or_eq_true (hasB i.op { data := #[76, 65] }) with h5 | h5
            · exact (ret tRefMayC_ok (fuel := 1000) OIn [false, false, false, false, false, true] (v := .bool (true)) [(hasB i.op { data := #[76, 65] }, true), (!immB i.imm (formZ i.op), false), (!regB i.b (bF (formZ i.op)), false), (!regB i.a (aF (formZ i.op)), false), (!regB i.rd (rdF (formZ i.op)), false), (letZ i.op == 0, false)] (by kernel_rfl) (by simp [h0, h1, h2, h3, h4, h5]) w hG).of_eq (by first | (simp only [mayR, h0, h1, h2, h3, h4, h5]; rfl) | simp [mayR, h0, h1, h2, h3, h4, h5])
            · rcases Bool.eq_false_or_eq_true (i.aq) with h6 | h6
              · exact (ret tRefMayC_ok (fuel := 1000) OIn [false, false, false, false, false, false, false] (v := .bool (false)) [(!i.aq, false), (hasB i.op { data := #[76, 65] }, false), (!immB i.imm (formZ i.op), false), (!regB i.b (bF (formZ i.op)), false), (!regB i.a (aF (formZ i.op)), false), (!regB i.rd (rdF (formZ i.op)), false), (letZ i.op == 0, false)] (by kernel_rfl) (by simp [h0, h1, h2, h3, h4, h5, h6]) w hG).of_eq (by first | (simp only [mayR, h0, h1, h2, h3, h4, h5, h6]; rfl) | simp [mayR, h0, h1, h2, h3, h4, h5, h6])
              · exact (ret tRefMayC_ok (fuel := 1000) OIn [false, false, false, false, false, false, true] (v := .bool (!i.rl)) [(!i.aq, true), (hasB i.op { data := #[76, 65] }, false), (!immB i.imm (formZ i.op), false), (!regB i.b (bF (formZ i.op)), false), (!regB i.a (aF (formZ i.op)), false), (!regB i.rd (rdF (formZ i.op)), false), (letZ i.op == 0, false)] (by kernel_rfl) (by simp [h0, h1, h2, h3, h4, h5, h6]) w hG).of_eq (by first | (simp only [mayR, h0, h1, h2, h3, h4, h5, h6]; rfl) | simp [mayR, h0, h1, h2, h3, h4, h5, h6])
          · exact (ret tRefMayC_ok (fuel := 1000) OIn [false, false, false, false, true] (v := .bool (false)) [(!immB i.imm (formZ i.op), true), (!regB i.b (bF (formZ i.op)), false), (!regB i.a (aF (formZ i.op)), false), (!regB i.rd (rdF (formZ i.op)), false), (letZ i.op == 0, false)] (by kernel_rfl) (by simp [h0, h1, h2, h3, h4]) w hG).of_eq (by first | (simp only [mayR, h0, h1, h2, h3, h4]; rfl) | simp [mayR, h0, h1, h2, h3, h4])
        · exact (ret tRefMayC_ok (fuel := 1000) OIn [false, false, false, true] (v := .bool (false)) [(!regB i.b (bF (formZ i.op)), true), (!regB i.a (aF (formZ i.op)), false), (!regB i.rd (rdF (formZ i.op)), false), (letZ i.op == 0, false)] (by kernel_rfl) (by simp [h0, h1, h2, h3]) w hG).of_eq (by first | (simp only [mayR, h0, h1, h2, h3]; rfl) | simp [mayR, h0, h1, h2, h3])
      · exact (ret tRefMayC_ok (fuel := 1000) OIn [false, false, true] (v := .bool (false)) [(!regB i.a (aF (formZ i.op)), true), (!regB i.rd (rdF (formZ i.op)), false), (letZ i.op == 0, false)] (by kernel_rfl) (by simp [h0, h1, h2]) w hG).of_eq (by first | (simp only [mayR, h0, h1, h2]; rfl) | simp [mayR, h0, h1, h2])
    · exact (ret tRefMayC_ok (fuel := 1000) OIn [false, true] (v := .bool (false)) [(!regB i.rd (rdF (formZ i.op)), true), (letZ i.op == 0, false)] (by kernel_rfl) (by simp [h0, h1]) w hG).of_eq (by first | (simp only [mayR, h0, h1]; rfl) | simp [mayR, h0, h1])
def readerR (op : Int) : Bool := (decide (op ≥ 11) && decide (op ≤ 17)) || (hasB op ⟨#[76]⟩ || (hasB op ⟨#[65]⟩ && (op != 67 && op != 78)))
theorem reader_eq (op : Int) : readerR op = readZ op := by
  rcases op_cases op with ⟨n, h1, h2, rfl⟩ | h
  · have : ∀ n : Fin 88, readerR n.val = readZ n.val := by decide +kernel
    exact this ⟨n, h2⟩
  · rw [readZ_out h]
    unfold readerR
    rw [has_out h _ (by decide), has_out h _ (by decide)]
    simp; omega
theorem reader_ret {gl : Gl} (op : Int) (w : World) (hG : GlobOk gl w) : Ret Try.prog 53 #[.int .i64 op] (.bool (readZ op)) w := by
  rw [← reader_eq]
  rcases Bool.eq_false_or_eq_true (decide (op ≥ 11)) with h0 | h0
  · rcases Bool.eq_false_or_eq_true (decide (op ≤ 17)) with h1 | h1
    · exact (ret tHas_ok (fuel := 1000) O1 [true, true] (v := .bool (true)) [(decide (op ≤ 17), true), (decide (op ≥ 11), true)] (by kernel_rfl) (by simp [h0, h1]) w hG).of_eq (by first | (simp only [readerR, h0, h1]; rfl) | simp [readerR, h0, h1])
    · rcases Bool.eq_false_or_eq_true (hasB op { data := #[76] }) with h2 | h2
      · exact (ret tHas_ok (fuel := 1000) O1 [true, false, true] (v := .bool (true)) [(hasB op { data := #[76] }, true), (decide (op ≤ 17), false), (decide (op ≥ 11), true)] (by kernel_rfl) (by simp [h0, h1, h2]) w hG).of_eq (by first | (simp only [readerR, h0, h1, h2]; rfl) | simp [readerR, h0, h1, h2])
      · rcases Bool.eq_false_or_eq_true (hasB op { data := #[65] }) with h3 | h3
        · rcases Bool.eq_false_or_eq_true (op != 67) with h4 | h4
          · exact (ret tHas_ok (fuel := 1000) O1 [true, false, false, true, true] (v := .bool (op != 78)) [(op != 67, true), (hasB op { data := #[65] }, true), (hasB op { data := #[76] }, false), (decide (op ≤ 17), false), (decide (op ≥ 11), true)] (by kernel_rfl) (by simp [h0, h1, h2, h3, h4]) w hG).of_eq (by first | (simp only [readerR, h0, h1, h2, h3, h4]; rfl) | simp [readerR, h0, h1, h2, h3, h4])
          · exact (ret tHas_ok (fuel := 1000) O1 [true, false, false, true, false] (v := .bool (false)) [(op != 67, false), (hasB op { data := #[65] }, true), (hasB op { data := #[76] }, false), (decide (op ≤ 17), false), (decide (op ≥ 11), true)] (by kernel_rfl) (by simp [h0, h1, h2, h3, h4]) w hG).of_eq (by first | (simp only [readerR, h0, h1, h2, h3, h4]; rfl) | simp [readerR, h0, h1, h2, h3, h4])
        · exact (ret tHas_ok (fuel := 1000) O1 [true, false, false, false] (v := .bool (false)) [(hasB op { data := #[65] }, false), (hasB op { data := #[76] }, false), (decide (op ≤ 17), false), (decide (op ≥ 11), true)] (by kernel_rfl) (by simp [h0, h1, h2, h3]) w hG).of_eq (by first | (simp only [readerR, h0, h1, h2, h3]; rfl) | simp [readerR, h0, h1, h2, h3])
  · rcases Bool.eq_false_or_eq_true (hasB op { data := #[76] }) with h1 | h1
    · exact (ret tHas_ok (fuel := 1000) O1 [false, true] (v := .bool (true)) [(hasB op { data := #[76] }, true), (decide (op ≥ 11), false)] (by kernel_rfl) (by simp [h0, h1]) w hG).of_eq (by first | (simp only [readerR, h0, h1]; rfl) | simp [readerR, h0, h1])
    · rcases Bool.eq_false_or_eq_true (hasB op { data := #[65] }) with h2 | h2
      · rcases Bool.eq_false_or_eq_true (op != 67) with h3 | h3
        · exact (ret tHas_ok (fuel := 1000) O1 [false, false, true, true] (v := .bool (op != 78)) [(op != 67, true), (hasB op { data := #[65] }, true), (hasB op { data := #[76] }, false), (decide (op ≥ 11), false)] (by kernel_rfl) (by simp [h0, h1, h2, h3]) w hG).of_eq (by first | (simp only [readerR, h0, h1, h2, h3]; rfl) | simp [readerR, h0, h1, h2, h3])
        · exact (ret tHas_ok (fuel := 1000) O1 [false, false, true, false] (v := .bool (false)) [(op != 67, false), (hasB op { data := #[65] }, true), (hasB op { data := #[76] }, false), (decide (op ≥ 11), false)] (by kernel_rfl) (by simp [h0, h1, h2, h3]) w hG).of_eq (by first | (simp only [readerR, h0, h1, h2, h3]; rfl) | simp [readerR, h0, h1, h2, h3])
      · exact (ret tHas_ok (fuel := 1000) O1 [false, false, false] (v := .bool (false)) [(hasB op { data := #[65] }, false), (hasB op { data := #[76] }, false), (decide (op ≥ 11), false)] (by kernel_rfl) (by simp [h0, h1, h2]) w hG).of_eq (by first | (simp only [readerR, h0, h1, h2]; rfl) | simp [readerR, h0, h1, h2])
def writerR (op : Int) : Bool := hasB op ⟨#[83]⟩ || hasB op ⟨#[65]⟩
theorem writer_eq (op : Int) : writerR op = writeZ op := by
  rcases op_cases op with ⟨n, h1, h2, rfl⟩ | h
  · have : ∀ n : Fin 88, writerR n.val = writeZ n.val := by decide +kernel
    exact this ⟨n, h2⟩
  · rw [writeZ_out h]
    unfold writerR
    rw [has_out h _ (by decide), has_out h _ (by decide)]; rfl
theorem writer_ret {gl : Gl} (op : Int) (w : World) (hG : GlobOk gl w) : Ret Try.prog 54 #[.int .i64 op] (.bool (writeZ op)) w := by
  rw [← writer_eq]
  rcases Bool.eq_false_or_eq_true (hasB op { data := #[83] }) with h0 | h0
  · exact (ret tHas_ok (fuel := 1000) O1 [true] (v := .bool (true)) [(hasB op { data := #[83] }, true)] (by kernel_rfl) (by simp [h0]) w hG).of_eq (by simp [writerR, h0])
  · exact (ret tHas_ok (fuel := 1000) O1 [false] (v := .bool (hasB op { data := #[65] })) [(hasB op { data := #[83] }, false)] (by kernel_rfl) (by simp [h0]) w hG).of_eq (by simp [writerR, h0])
theorem refWide_ret {gl : Gl} (op : Int) (w : World) (hG : GlobOk gl w) : Ret Try.prog 64 #[.int .i64 op] (.bool (wideB op)) w := by
  rcases Bool.eq_false_or_eq_true (op == 14) with h0 | h0
  · exact (ret (TabOk.none _ _) (fuel := 1000) O1 [true] (v := .bool (true)) [(op == 14, true)] (by kernel_rfl) (by simp [h0]) w hG).of_eq (by simp [wideB, btw_eq, h0])
  · rcases Bool.eq_false_or_eq_true (op == 21) with h1 | h1
    · exact (ret (TabOk.none _ _) (fuel := 1000) O1 [false, true] (v := .bool (true)) [(op == 21, true), (op == 14, false)] (by kernel_rfl) (by simp [h0, h1]) w hG).of_eq (by simp [wideB, btw_eq, h0, h1])
    · rcases Bool.eq_false_or_eq_true (decide (op ≥ 77)) with h2 | h2
      · exact (ret (TabOk.none _ _) (fuel := 1000) O1 [false, false, true] (v := .bool (decide (op ≤ 87))) [(decide (op ≥ 77), true), (op == 21, false), (op == 14, false)] (by kernel_rfl) (by simp [h0, h1, h2]) w hG).of_eq (by simp [wideB, btw_eq, h0, h1, h2])
      · exact (ret (TabOk.none _ _) (fuel := 1000) O1 [false, false, false] (v := .bool (false)) [(decide (op ≥ 77), false), (op == 21, false), (op == 14, false)] (by kernel_rfl) (by simp [h0, h1, h2]) w hG).of_eq (by simp [wideB, btw_eq, h0, h1, h2])
end Go.Proofs.Ytchjjbcmbdmlgaa
