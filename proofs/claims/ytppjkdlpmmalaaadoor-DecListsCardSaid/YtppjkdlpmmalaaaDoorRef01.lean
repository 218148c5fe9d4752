/- Contracts of the answers by definition for layer 1. -/
import Derived.Test.YtppjkdlpmmalaaaDoorRows
import Derived.Test.YtppjkdlpmmalaaaDoorPlain01
import Derived.Test.YtppjkdlpmmalaaaDoorKit01
namespace Go.Proofs.YtppjkdlpmmalaaaDoor
open Go.RowKit

theorem refBit_any (v i : Nat) (w : World) (hv : v < 18446744073709551616) (hi : i ≤ 64) :
    Calls Tryd.prog 25 #[.int .u64 v, .int .i64 i] w fun e w' => e = .returned (.int .i64 (bitN v i : Nat)) ∧ w = w' := by
  go_enter Tryd.func25, Tryd.ntmps25
  go_wp2
  go_loop [0, 5] (fun a k => ∃ j : Nat, j ≤ i ∧ k = .int .i64 j ∧ a = .int .u64 (shrN v j : Nat)) (fun _ k => i - (intOf k).toNat)
  case atStart => exact ⟨0, Nat.zero_le _, rfl, by rw [shrN_zero]⟩
  case round =>
    obtain ⟨j, hj, rfl, rfl⟩ := hrel
    have hle := shrN_le v j
    by_cases hlt : j < i
    · have hs := hid (shrN_succ v j)
      go_wp2
      go_round
      case rel => exact ⟨j + 1, by omega, by go_num, by rw [hs.out]; go_num⟩
      case measure => simp [intOf]; omega
    · go_wp2
      go_ret
      obtain rfl : i = j := by omega
      exact ⟨ret_int (by rw [← shrN_bit]; omega), rfl⟩
theorem refSign_any (v n : Nat) (w : World) (hv : v < 18446744073709551616) (h1 : 1 ≤ n) (h2 : n ≤ 32) :
    Calls Tryd.prog 49 #[.int .u64 v, .int .i64 n] w fun e w' => e = .returned (.int .i64 (signN v n)) ∧ w = w' := by
  go_enter Tryd.func49, Tryd.ntmps49
  go_wp2
  go_loop [5, 6, 7] (fun o p k => ∃ j : Nat, j ≤ n - 1 ∧ k = .int .i64 j ∧ p = .int .i64 (powN j : Nat) ∧ o = .int .i64 (modN v j : Nat)) (fun _ _ k => n - (intOf k).toNat)
  case atStart => exact ⟨0, Nat.zero_le _, rfl, rfl, by rw [modN_zero]; rfl⟩
  case round =>
    obtain ⟨j, hj, rfl, rfl, rfl⟩ := hrel
    have h1 := powN_le j 31 (by omega)
    rw [powN_31] at h1
    have h3 := modN_lt v j
    have hb : bitN v j = 0 ∨ bitN v j = 1 := by have := bitN_lt v j; omega
    have hs := hid (powN_succ j)
    have hm := hid (modN_succ v j)
    by_cases hlt : j < n - 1
    · rcases hb with hb | hb
      all_goals
        have hc := fun W => refBit_any v j W hv (by omega)
        rw [hb] at hm hc
        clear hb
        go_wp2_with (go_at_call 25; refine (hc _).mono ?_; rintro e w' ⟨rfl, rfl⟩)
        go_round
        case rel => exact ⟨j + 1, by omega, by go_num, by rw [hs.out]; go_num, by rw [hm.out]; go_num⟩
        case measure => simp [intOf]; omega
    · obtain rfl : n = j + 1 := by omega
      have hf := hid (signN_eq v (j + 1))
      rcases hb with hb | hb
      all_goals
        have hc := fun W => refBit_any v j W hv (by omega)
        rw [Nat.add_sub_cancel, hb] at hf
        rw [hb] at hc
        clear hb
        go_wp2_with (go_at_call 25; refine (hc _).mono ?_; rintro e w' ⟨rfl, rfl⟩)
        go_ret
        exact ⟨ret_int (by rw [hf.out]; omega), rfl⟩
theorem refPower_any (n : Nat) (w : World) (h2 : n ≤ 63) :
    Calls Tryd.prog 50 #[.int .i64 n] w fun e w' => e = .returned (.int .u64 (2 ^ n : Nat)) ∧ w = w' := by
  go_enter Tryd.func50, Tryd.ntmps50
  go_wp2
  go_loop [3, 4] (fun p k => ∃ j : Nat, j ≤ n ∧ k = .int .i64 j ∧ p = .int .u64 (powN j : Nat)) (fun _ k => n - (intOf k).toNat)
  case atStart => exact ⟨0, Nat.zero_le _, rfl, rfl⟩
  case round =>
    obtain ⟨j, hj, rfl, rfl⟩ := hrel
    by_cases hlt : j < n
    · have h1 := powN_le (j + 1) 63 (by omega)
      have hs := hid (powN_succ j)
      rw [powN_63] at h1
      have h3 : 2 * powN j ≤ 9223372036854775808 := by rw [← hs.out]; exact h1
      clear h1
      go_wp2
      go_round
      case rel => exact ⟨j + 1, by omega, by go_num, by rw [hs.out]; go_num⟩
      case measure => simp [intOf]; omega
    · go_wp2
      go_ret
      obtain rfl : n = j := by omega
      exact ⟨rfl, rfl⟩
theorem refInfo : (Tryd.prog.info? 5).map (fun i => (i.zero, i.size, i.bytes)) = some (some (.int .u8 0), 1, 1) := by kernel_rfl
theorem refBytes_own (v n : Nat) (w : World) (hv : v < 18446744073709551616) (hn : n ≤ 65536) :
    Calls Tryd.prog 15 #[.int .u64 v, .int .i64 n] w (MkO 5 w (bytesN v n)) := by
  obtain ⟨i0, hi, hz0, hz1, hz2⟩ := info_parts refInfo
  obtain ⟨B, hB⟩ : ∃ B, B = w.heap.size := ⟨_, rfl⟩
  have HB := hid hB
  have hle : B ≤ w.heap.size := by omega
  clear hB
  go_enter Tryd.func15, Tryd.ntmps15
  go_wp2
  go_loopw [0, 5, 6] (fun x o k wr => ∃ j : Nat, j ≤ n ∧ k = .int .i64 j ∧ x = .int .u64 (sh8 v j : Nat) ∧ wr.ownsRow B 5 1 o j ((bytesN v j).map byteV) ∧ Below B w wr) (fun _ _ k _ => n - (intOf k).toNat)
  case atStart => exact ⟨0, Nat.zero_le _, rfl, by rw [sh8_zero], ⟨rfl, .inl ⟨rfl, rfl⟩⟩, Below.refl _ _⟩
  case round =>
    obtain ⟨j, hj, rfl, rfl, hown, hbel⟩ := hrel
    have hsz := hbel.size
    by_cases hlt : j < n
    · have hs := hid (sh8_succ v j)
      have hb := hid (bytesN_succ v j)
      have hl8 := sh8_le v j
      go_wp2_with (at_builtin; refine wpList_append_own _ rfl _ _ 32 rfl B 5 i0 (.int .u8 0) 1 1 Tryd.underlying32 hi hz0 hz1 hz2 rfl (by decide) _ _ _ rfl (hown.alloc _) ⟨wr.heap.size, 0, none⟩ 1 1 [.int .u8 (sh8 v j % 256)] rfl rfl ?c1 ?c2 ?c3 ?c4 ?c5 ?_)
      case c1 => exact cell_one_new _ _ _
      case c2 => simp [Value.oneCell']
      case c3 => unfold maxLen; omega
      case c4 => omega
      case c5 => simp; omega
      intro v' w1 hown1 hgrow _
      have hown2 : w1.ownsRow B 5 1 v' (j + 1) ((bytesN v (j + 1)).map byteV) := by rw [hb.out, List.map_append]; exact hown1
      have hbel2 : Below B w w1 := (hbel.alloc (by omega) _).grown hgrow (by simp; omega) (fun k hk => (hown.lt k hk).1)
      clear hown hown1 hgrow hbel
      go_wp2
      go_roundw
      case rel => exact ⟨j + 1, by omega, by go_num, by rw [hs.out]; go_num, hown2, hbel2⟩
      case measure => simp [intOf]; omega
    · obtain rfl : n = j := by omega
      go_wp2
      go_ret
      rw [HB.out] at hbel hown
      exact ⟨_, rfl, by rw [bytesN_len]; exact hown, hbel⟩
theorem refBytes_any (v n : Nat) (w : World) (hv : v < 18446744073709551616) (hn : n ≤ 65536) :
    Calls Tryd.prog 15 #[.int .u64 v, .int .i64 n] w (MkB w (bytesN v n)) := (refBytes_own v n w hv hn).mono fun _ _ h => h.mkB
theorem refSame_none (w : World) (a b : Option Addr) (ca cb : Nat) :
    Calls Tryd.prog 14 #[.slice a 0 ca, .slice b 0 cb] w (Qt w (.bool true)) := by
  go_enter Tryd.func14, Tryd.ntmps14
  go_wp2
  refine wp_loop_rounds 1 ?_
  rw [rounds_succ]
  go_wp2
  go_ret
  exact Qt.mk0 _ _
theorem refSame_some (w : World) (b off b' off' n ca cb : Nat) (f : Nat → Int) (hm : n ≤ 9223372036854775807)
    (hf : ∀ i, i < n → w.cell? ⟨b, off + i, none⟩ = some (.int .u8 (f i))) (hg : ∀ i, i < n → w.cell? ⟨b', off' + i, none⟩ = some (.int .u8 (f i))) :
    Calls Tryd.prog 14 #[.slice (some ⟨b, off, none⟩) n ca, .slice (some ⟨b', off', none⟩) n cb] w (Qt w (.bool true)) := by
  have hne : ((n : Int) != n) = false := by simp
  have Hf := hid hf
  have Hg := hid hg
  clear hf hg
  go_enter Tryd.func14, Tryd.ntmps14
  go_wp2
  go_loopw [5] (fun k wr => ∃ j m : Nat, j ≤ n ∧ k = .int .i64 j ∧ wr = w.drewN m) (fun k _ => n - (intOf k).toNat)
  case atStart => exact ⟨0, 0, Nat.zero_le _, rfl, rfl⟩
  case round =>
    obtain ⟨j, m, hj, rfl, rfl⟩ := hrel
    by_cases hlt : j < n
    · have h1 := Hf.out j hlt
      have h2 := Hg.out j hlt
      clear Hf Hg
      go_wp2
      go_quiet (fail)
      go_wp2
      go_roundw
      case rel => exact ⟨j + 1, _, by omega, by go_num, rfl⟩
      case measure => simp [intOf]; omega
    · go_wp2
      go_ret
      exact Qt.mk _ _ _
theorem refSame_yes {w : World} {B B' : Nat} {u v : Value} {xs : List Nat} (hm : xs.length ≤ 9223372036854775807) (hu : RdB w B u xs) (hv : RdB w B' v xs) :
    Calls Tryd.prog 14 #[u, v] w (Qt w (.bool true)) := by
  obtain ⟨a, ca, rfl, h1⟩ := hu
  obtain ⟨b, cb, rfl, h2⟩ := hv
  rcases Nat.eq_zero_or_pos xs.length with h0 | h0
  · rw [h0]; exact refSame_none w a b ca cb
  · obtain ⟨b1, o1, rfl, _, h1⟩ := h1 h0
    obtain ⟨b2, o2, rfl, _, h2⟩ := h2 h0
    exact refSame_some w b1 o1 b2 o2 _ ca cb (fun i => (xs.getD i 0 : Nat)) hm h1 h2
theorem refFits_out (x n : Int) (w : World) (h : n < 1 ∨ 64 < n) :
    Calls Tryd.prog 57 #[.int .i64 x, .int .i64 n] w fun e w' => e = .returned (.bool false) ∧ w = w' := by
  rcases h with h | h
  all_goals
    go_enter Tryd.func57, Tryd.ntmps57
    go_wp2_with fail
    go_ret
    exact ⟨rfl, rfl⟩
theorem refFits_any (x : Int) (n : Nat) (w : World) (h1 : 1 ≤ n) (h2 : n ≤ 64) (h0 : -9223372036854775808 ≤ x) (h3 : x ≤ 9223372036854775807) (b : Bool) (hb : fitsB x n = b) :
    Calls Tryd.prog 57 #[.int .i64 x, .int .i64 n] w fun e w' => e = .returned (.bool b) ∧ w = w' := by
  by_cases h64 : n = 64
  · subst h64
    rw [fitsB_64 x h0 h3] at hb
    subst hb
    clear h0 h3
    go_enter Tryd.func57, Tryd.ntmps57
    go_wp2_with fail
    go_ret
    exact ⟨rfl, rfl⟩
  · have h4 : n ≤ 63 := by omega
    have hne : ((n : Int) == 64) = false := by simp; omega
    have hp := powN_le (n - 1) 62 (by omega)
    have h62 : powN 62 = 4611686018427387904 := by decide
    rw [h62] at hp
    have hpc := hid (fun W => refPower_any (n - 1) W (by omega))
    have hiff := fitsB_iff x n
    rw [hb] at hiff
    have hcast : ((n : Int) - 1) = ((n - 1 : Nat) : Int) := by omega
    have hpe : (2 ^ (n - 1) : Nat) = powN (n - 1) := rfl
    rw [hpe] at hiff hpc
    cases b
    · have hno : x < -(powN (n - 1) : Int) ∨ (powN (n - 1) : Int) - 1 < x := by
        refine Decidable.byContradiction fun hc => ?_
        have := hiff.mpr ⟨by omega, by omega⟩
        cases this
      clear hiff hb h62 hpe
      by_cases hA : -(powN (n - 1) : Int) ≤ x
      · have hB : (powN (n - 1) : Int) - 1 < x := by omega
        have hd : decide (x ≤ (powN (n - 1) : Int) - 1) = false := by simpa using hB
        clear hno
        go_enter Tryd.func57, Tryd.ntmps57
        go_wp2_with (go_at_call 50; refine (hpc.out _).mono ?_; rintro e w' ⟨rfl, rfl⟩)
        go_ret
        exact ⟨rfl, rfl⟩
      · clear hno
        go_enter Tryd.func57, Tryd.ntmps57
        go_wp2_with (go_at_call 50; refine (hpc.out _).mono ?_; rintro e w' ⟨rfl, rfl⟩)
        go_ret
        exact ⟨rfl, rfl⟩
    · obtain ⟨hA, hB⟩ := hiff.mp rfl
      clear hiff hb h62 hpe
      have hC : x ≤ (powN (n - 1) : Int) - 1 := by omega
      clear hB
      go_enter Tryd.func57, Tryd.ntmps57
      go_wp2_with (go_at_call 50; refine (hpc.out _).mono ?_; rintro e w' ⟨rfl, rfl⟩)
      go_ret
      exact ⟨rfl, rfl⟩
end Go.Proofs.YtppjkdlpmmalaaaDoor
