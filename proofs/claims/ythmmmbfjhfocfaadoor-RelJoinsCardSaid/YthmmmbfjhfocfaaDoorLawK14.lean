/- The law RelJoins of layer 14: all ways. -/
import Derived.Test.YthmmmbfjhfocfaaDoorLawJ14
namespace Go.Proofs.YthmmmbfjhfocfaaDoor
open Go Go.RowKit
set_option linter.unusedVariables false
set_option linter.unusedSimpArgs false

set_option maxRecDepth 200000 in
set_option maxHeartbeats 4000000 in
theorem relJoins_no0 (n0 n1 : Int) (a : Option Addr) (len cap : Nat) (a' : Option Addr) (len' cap' : Nat) (w : World) (hG : TzOk w) (hl : len ≤ 9223372036854775807) (hf : (decide (n0 ≤ 80) && decide (len ≤ 300)) = false) : Calls Tryd.prog 4 #[.agg #[.int .i64 n0, .int .i64 n1], .slice a len cap, .slice a' len' cap'] w (Holds w) := by
  have HF := hid (fun w => few_ret n0 a len cap hl w)
  rw [hf] at HF
  have hbl := Fr.to_below ((Fr.refl [] w).alloc (.cells #[.int .i64 n0, .int .i64 n1] 23))
  have hx0 := cell_two_new w (.int .i64 n0) (.int .i64 n1) 23 0 _ rfl
  simp only [Addr.add, Nat.zero_add] at hx0
  have HAw := hid (awake_ret _ (hG.below hbl))
  have HB := hid hbl
  clear hf hl hG hbl
  go_enter Tryd.func4, Tryd.ntmps4
  go_wp2_with (go_at_call 8; refine (HF.out _).mono ?_; clear HF; rintro e' w2 ⟨rfl, rfl⟩; refine Hid.out ?_)
  clear hx0
  refine hid ?_
  go_wp2_with (go_at_call 11; refine HAw.out.mono ?_; clear HAw; rintro e' w5 ⟨rfl, hb5⟩; refine Hid.out ?_)
  have HE := hid (HB.out.trans (hb5.mono HB.out.size))
  clear hb5
  refine hid ?_
  go_wp2
  go_ret
  exact ⟨rfl, HE.out⟩
set_option maxRecDepth 200000 in
set_option maxHeartbeats 4000000 in
theorem relJoins_no1 (n0 n1 : Int) (a : Option Addr) (len cap : Nat) (a' : Option Addr) (len' cap' : Nat) (w : World) (hG : TzOk w) (hl : len ≤ 9223372036854775807) (hl' : len' ≤ 9223372036854775807) (hf : (decide (n0 ≤ 80) && decide (len ≤ 300)) = true) (hf' : (decide (n1 ≤ 80) && decide (len' ≤ 300)) = false) : Calls Tryd.prog 4 #[.agg #[.int .i64 n0, .int .i64 n1], .slice a len cap, .slice a' len' cap'] w (Holds w) := by
  have HF := hid (fun w => few_ret n0 a len cap hl w)
  rw [hf] at HF
  have HF' := hid (fun w => few_ret n1 a' len' cap' hl' w)
  rw [hf'] at HF'
  have hbl := Fr.to_below ((Fr.refl [] w).alloc (.cells #[.int .i64 n0, .int .i64 n1] 23))
  have hx0 := cell_two_new w (.int .i64 n0) (.int .i64 n1) 23 0 _ rfl
  have hx1 := cell_two_new w (.int .i64 n0) (.int .i64 n1) 23 1 _ rfl
  simp only [Addr.add, Nat.zero_add] at hx0 hx1
  have HAw := hid (awake_ret _ (hG.below hbl))
  have HB := hid hbl
  clear hf hl hf' hl' hG hbl
  go_enter Tryd.func4, Tryd.ntmps4
  go_wp2_with (go_at_call 8; refine (HF.out _).mono ?_; clear HF; rintro e' w2 ⟨rfl, rfl⟩; refine Hid.out ?_)
  refine hid ?_
  go_wp2_with (go_at_call 8; refine (HF'.out _).mono ?_; clear HF'; rintro e' w2 ⟨rfl, rfl⟩; refine Hid.out ?_)
  clear hx0 hx1
  refine hid ?_
  go_wp2_with (go_at_call 11; refine HAw.out.mono ?_; clear HAw; rintro e' w5 ⟨rfl, hb5⟩; refine Hid.out ?_)
  have HE := hid (HB.out.trans (hb5.mono HB.out.size))
  clear hb5
  refine hid ?_
  go_wp2
  go_ret
  exact ⟨rfl, HE.out⟩
theorem relJoins_walk (n0 n1 : Int) (a : Option Addr) (len cap : Nat) (p q : Nat → Int) (a' : Option Addr) (len' cap' : Nat) (p' q' : Nat → Int) (w : World) (hG : TzOk w) (w0 : (Lit.int .i64 n0).wf = true) (w1 : (Lit.int .i64 n1).wf = true) (hP : PIn w a len cap p q) (hP' : PIn w a' len' cap' p' q') : Calls Tryd.prog 4 #[.agg #[.int .i64 n0, .int .i64 n1], .slice a len cap, .slice a' len' cap'] w (Holds w) := by
  have hl : len ≤ 9223372036854775807 := by have := hP.1; have := hP.2.1; unfold maxLen at this; omega
  have hl' : len' ≤ 9223372036854775807 := by have := hP'.1; have := hP'.2.1; unfold maxLen at this; omega
  cases hf : (decide (n0 ≤ 80) && decide (len ≤ 300))
  · exact relJoins_no0 n0 n1 a len cap a' len' cap' w hG hl hf
  · cases hf' : (decide (n1 ≤ 80) && decide (len' ≤ 300))
    · exact relJoins_no1 n0 n1 a len cap a' len' cap' w hG hl hl' hf hf'
    · exact relJoins_main n0 n1 a len cap p q a' len' cap' p' q' w hG hP hP' hf hf'
end Go.Proofs.YthmmmbfjhfocfaaDoor
