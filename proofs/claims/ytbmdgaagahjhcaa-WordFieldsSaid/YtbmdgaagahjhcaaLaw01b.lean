/- The walk of WordFields. -/
import Derived.Test.YtbmdgaagahjhcaaLaw01
import Derived.OpenShut
namespace Go.Proofs.Ytbmdgaagahjhcaa
open Go.RowKit

set_option maxRecDepth 100000 in
theorem wordFields_bad (x v a n : Int) (w : World) (h1 : -9223372036854775808 ≤ n) (h2 : n ≤ 9223372036854775807) (h : a < 0 ∨ 31 < a ∨ n < 1 ∨ 32 - a < n) :
    Calls Try.prog 3 #[.int .u32 x, .agg #[.int .i64 a, .int .i64 n], .int .u32 v] w (Holds w) := by
  have ha := hid awake_any
  have hg := hid (fun W => get_no x a n W h1 h2 (by omega))
  have hp := hid (fun W => put_no x a n v W h1 h2 (by omega))
  by_cases c1 : a < 0
  · clear h
    go_enter Try.func3, Try.ntmps3
    go_wp2_with (first | (go_at_call 8; (with_reducible refine (hg.out _).mono ?_); rintro e w' ⟨rfl, rfl⟩) | (go_at_call 9; (with_reducible refine (hp.out _).mono ?_); rintro e w' ⟨rfl, rfl⟩) | (go_at_call 10; refine (ha.out _).mono ?_; rintro e w' ⟨rfl, hb⟩))
    go_ret
    exact Holds.mk (by have h1 := ((Below.refl w.heap.size w).alloc (Nat.le_refl _) (.cells #[.int .i64 a, .int .i64 n] 23)); exact h1.trans (hb.mono (by simp)))
  by_cases c2 : 31 < a
  · clear h
    go_enter Try.func3, Try.ntmps3
    go_wp2_with (first | (go_at_call 8; (with_reducible refine (hg.out _).mono ?_); rintro e w' ⟨rfl, rfl⟩) | (go_at_call 9; (with_reducible refine (hp.out _).mono ?_); rintro e w' ⟨rfl, rfl⟩) | (go_at_call 10; refine (ha.out _).mono ?_; rintro e w' ⟨rfl, hb⟩))
    go_ret
    exact Holds.mk (by have h1 := ((Below.refl w.heap.size w).alloc (Nat.le_refl _) (.cells #[.int .i64 a, .int .i64 n] 23)); exact h1.trans (hb.mono (by simp)))
  by_cases c3 : n < 1
  · clear h
    go_enter Try.func3, Try.ntmps3
    go_wp2_with (first | (go_at_call 8; (with_reducible refine (hg.out _).mono ?_); rintro e w' ⟨rfl, rfl⟩) | (go_at_call 9; (with_reducible refine (hp.out _).mono ?_); rintro e w' ⟨rfl, rfl⟩) | (go_at_call 10; refine (ha.out _).mono ?_; rintro e w' ⟨rfl, hb⟩))
    go_ret
    exact Holds.mk (by have h1 := ((Below.refl w.heap.size w).alloc (Nat.le_refl _) (.cells #[.int .i64 a, .int .i64 n] 23)); exact h1.trans (hb.mono (by simp)))
  have c4 : 32 - a < n := by omega
  clear h
  all_goals
    go_enter Try.func3, Try.ntmps3
    go_wp2_with (first | (go_at_call 8; (with_reducible refine (hg.out _).mono ?_); rintro e w' ⟨rfl, rfl⟩) | (go_at_call 9; (with_reducible refine (hp.out _).mono ?_); rintro e w' ⟨rfl, rfl⟩) | (go_at_call 10; refine (ha.out _).mono ?_; rintro e w' ⟨rfl, hb⟩))
    go_ret
    exact Holds.mk (by have h1 := ((Below.refl w.heap.size w).alloc (Nat.le_refl _) (.cells #[.int .i64 a, .int .i64 n] 23)); exact h1.trans (hb.mono (by simp)))
set_option maxRecDepth 100000 in
theorem wordFields_good (x v a n : Nat) (w : World) (hx : x < 4294967296) (hv : v < 4294967296) (h1 : 1 ≤ n) (h4 : a + n ≤ 32) :
    Calls Try.prog 3 #[.int .u32 x, .agg #[.int .i64 a, .int .i64 n], .int .u32 v] w (Holds w) := by
  have ha := hid awake_any
  have hg := hid (fun W => get_yes x a n W hx h1 (by omega) h4)
  have hp := hid (fun W => put_yes x a n v W hx hv h1 (by omega) h4)
  have hg2 := hid (fun W => get_yes (putF x a n v) a n W (putF_lt x a n v hx h4) h1 (by omega) h4)
  have hl1 := putF_lt x a n v hx h4
  have hl2 := getF_lt x a n (by omega)
  have hl3 := getF_lt (putF x a n v) a n (by omega)
  go_enter Try.func3, Try.ntmps3
  go_wp2_with (first | (go_at_call 8; (with_reducible refine (hg.out _).mono ?_); rintro e w' ⟨rfl, m1, rfl⟩) | (go_at_call 8; (with_reducible refine (hg2.out _).mono ?_); rintro e w' ⟨rfl, m1, rfl⟩) | (go_at_call 9; (with_reducible refine (hp.out _).mono ?_); rintro e w' ⟨rfl, m2, rfl⟩) | (go_at_call 10; refine (ha.out _).mono ?_; rintro e w' ⟨rfl, hb⟩))
  clear hg hp hg2
  go_loop [13] (fun i => ∃ j : Nat, j ≤ 32 ∧ i = .int .i64 j) (fun i => 32 - (intOf i).toNat)
  case atStart => exact ⟨0, Nat.zero_le _, rfl⟩
  case round =>
    obtain ⟨j, hj, rfl⟩ := hrel
    by_cases hlt : j < 32
    · have hB2 := hid (fun W => refBit_any x j W (by omega) (by omega))
      have hB1 := hid (fun W => refBit_any (putF x a n v) j W (by omega) (by omega))
      by_cases hin : a ≤ j ∧ j < a + n
      · obtain ⟨hi1, hi2⟩ := hin
        obtain ⟨d, hd⟩ : ∃ d, d = j - a := ⟨_, rfl⟩
        have hB3 := hid (fun W => refBit_any v d W (by omega) (by omega))
        have hB4 := hid (fun W => refBit_any (getF x a n) d W (by omega) (by omega))
        have hB5 := hid (fun W => refBit_any (getF (putF x a n v) a n) d W (by omega) (by omega))
        have e4 := bit_get x a n j hi1 hi2
        have e5 := bit_get_put x a n v j hx h4 hi1 hi2
        have e1 := bit_put_in x a n v j hx h4 hi1 hi2
        rw [← hd] at e1 e4 e5
        rw [e4] at hB4
        rw [e5] at hB5
        rw [e1] at hB1
        have hdj : (j : Int) - a = d := by omega
        clear e1 e4 e5 hd
        go_wp2_with (first | (go_at_call 11; (with_reducible refine (hB1.out _).mono ?_); rintro e w' ⟨rfl, rfl⟩) | (go_at_call 11; (with_reducible refine (hB2.out _).mono ?_); rintro e w' ⟨rfl, rfl⟩) | (go_at_call 11; (with_reducible refine (hB3.out _).mono ?_); rintro e w' ⟨rfl, rfl⟩) | (go_at_call 11; (with_reducible refine (hB4.out _).mono ?_); rintro e w' ⟨rfl, rfl⟩) | (go_at_call 11; (with_reducible refine (hB5.out _).mono ?_); rintro e w' ⟨rfl, rfl⟩))
        go_round
        case rel => exact ⟨j + 1, by omega, by go_num⟩
        case measure => simp [intOf]; omega
      · have e1 := bit_put_out x a n v j hx h4 hin
        rw [e1] at hB1
        clear e1
        by_cases hi1 : a ≤ j
        · have hi2 : a + n ≤ j := by omega
          clear hin
          go_wp2_with (first | (go_at_call 11; (with_reducible refine (hB1.out _).mono ?_); rintro e w' ⟨rfl, rfl⟩) | (go_at_call 11; (with_reducible refine (hB2.out _).mono ?_); rintro e w' ⟨rfl, rfl⟩))
          go_round
          case rel => exact ⟨j + 1, by omega, by go_num⟩
          case measure => simp [intOf]; omega
        · clear hin
          go_wp2_with (first | (go_at_call 11; (with_reducible refine (hB1.out _).mono ?_); rintro e w' ⟨rfl, rfl⟩) | (go_at_call 11; (with_reducible refine (hB2.out _).mono ?_); rintro e w' ⟨rfl, rfl⟩))
          go_round
          case rel => exact ⟨j + 1, by omega, by go_num⟩
          case measure => simp [intOf]; omega
    · have ht := powN_u64 n (by omega)
      have hg1 := getF_pow x a n
      have hg3 := getF_pow (putF x a n v) a n
      go_wp2_with (go_at_call 10; refine (ha.out _).mono ?_; rintro e w' ⟨rfl, hb⟩)
      go_ret
      exact Holds.mk (Below.trans (below_draws ((Below.refl _ _).alloc (Nat.le_refl _) _) _) (hb.mono (by simp)))
theorem wordFields_law (x a n v : Int) (w : World) (hx : (Lit.int .u32 x).wf = true) (ha : (Lit.int .i64 a).wf = true) (hn : (Lit.int .i64 n).wf = true) (hv : (Lit.int .u32 v).wf = true) :
    Calls Try.prog 3 #[.int .u32 x, .agg #[.int .i64 a, .int .i64 n], .int .u32 v] w (Holds w) := by
  have hx := bounds_u32 hx
  have ha := bounds_i64 ha
  have hn := bounds_i64 hn
  have hv := bounds_u32 hv
  by_cases h : a < 0 ∨ 31 < a ∨ n < 1 ∨ 32 - a < n
  · exact wordFields_bad x v a n w hn.1 hn.2 h
  · obtain ⟨x, rfl⟩ : ∃ m : Nat, x = m := ⟨x.toNat, by omega⟩
    obtain ⟨v, rfl⟩ : ∃ m : Nat, v = m := ⟨v.toNat, by omega⟩
    obtain ⟨a, rfl⟩ : ∃ m : Nat, a = m := ⟨a.toNat, by omega⟩
    obtain ⟨n, rfl⟩ : ∃ m : Nat, n = m := ⟨n.toNat, by omega⟩
    exact wordFields_good x v a n w (by omega) (by omega) (by omega) (by omega)
end Go.Proofs.Ytbmdgaagahjhcaa
