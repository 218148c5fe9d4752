/- Contracts of the answers by definition for layer 1. -/
import Derived.Test.YtimgongaenpgkaaRows
import Derived.Test.YtimgongaenpgkaaPlain01
import Derived.Test.YtimgongaenpgkaaKit01
namespace Go.Proofs.Ytimgongaenpgkaa
open Go.RowKit

theorem refInfo : (Try.prog.info? 5).map (fun i => (i.zero, i.size, i.bytes)) = some (some (.int .u8 0), 1, 1) := by kernel_rfl
theorem refBytes_own (v n : Nat) (w : World) (hv : v < 18446744073709551616) (hn : n ≤ 65536) :
    Calls Try.prog 26 #[.int .u64 v, .int .i64 n] w (MkO 5 w (bytesN v n)) := by
  obtain ⟨i0, hi, hz0, hz1, hz2⟩ := info_parts refInfo
  obtain ⟨B, hB⟩ : ∃ B, B = w.heap.size := ⟨_, rfl⟩
  have HB := hid hB
  have hle : B ≤ w.heap.size := by omega
  clear hB
  go_enter Try.func26, Try.ntmps26
  go_wp2
  go_loopw [0, 5, 6] (fun x o k wr => ∃ j : Nat, j ≤ n ∧ k = .int .i64 j ∧ x = .int .u64 (sh8 v j : Nat) ∧ wr.ownsRow B 5 1 o j ((bytesN v j).map byteV) ∧ Below B w wr) (fun _ _ k _ => n - (intOf k).toNat)
  case atStart => exact ⟨0, Nat.zero_le _, rfl, by rw [sh8_zero], ⟨rfl, .inl ⟨rfl, rfl⟩⟩, Below.refl _ _⟩
  case round =>
    obtain ⟨j, hj, rfl, rfl, hown, hbel⟩ := hrel
    have hsz := hbel.size
    by_cases hlt : j < n
    · have hs := hid (sh8_succ v j)
      have hb := hid (bytesN_succ v j)
      have hl8 := sh8_le v j
      go_wp2_with (at_builtin; refine wpList_append_own _ rfl _ _ 30 rfl B 5 i0 (.int .u8 0) 1 1 Try.underlying30 hi hz0 hz1 hz2 rfl (by decide) _ _ _ rfl (hown.alloc _) ⟨wr.heap.size, 0, none⟩ 1 1 [.int .u8 (sh8 v j % 256)] rfl rfl ?c1 ?c2 ?c3 ?c4 ?c5 ?_)
      case c1 => exact cell_one_new _ _ _
      case c2 => simp [Value.oneCell']
      case c3 => unfold maxLen; omega
      case c4 => omega
      case c5 => simp; omega
      intro v' w1 hown1 hgrow _
      have hown2 : w1.ownsRow B 5 1 v' (j + 1) ((bytesN v (j + 1)).map byteV) := by rw [hb.out, List.map_append]; exact hown1
      have hbel2 : Below B w w1 := (hbel.alloc (by omega) _).grown hgrow (by simp; omega) (fun k hk => (hown.lt k hk).1)
      clear hown hown1 hgrow hbel
      go_wp2
      go_roundw
      case rel => exact ⟨j + 1, by omega, by go_num, by rw [hs.out]; go_num, hown2, hbel2⟩
      case measure => simp [intOf]; omega
    · obtain rfl : n = j := by omega
      go_wp2
      go_ret
      rw [HB.out] at hbel hown
      exact ⟨_, rfl, by rw [bytesN_len]; exact hown, hbel⟩
theorem refBytes_any (v n : Nat) (w : World) (hv : v < 18446744073709551616) (hn : n ≤ 65536) :
    Calls Try.prog 26 #[.int .u64 v, .int .i64 n] w (MkB w (bytesN v n)) := (refBytes_own v n w hv hn).mono fun _ _ h => h.mkB
theorem refSame_none (w : World) (a b : Option Addr) (ca cb : Nat) :
    Calls Try.prog 11 #[.slice a 0 ca, .slice b 0 cb] w (Qt w (.bool true)) := by
  go_enter Try.func11, Try.ntmps11
  go_wp2
  refine wp_loop_rounds 1 ?_
  rw [rounds_succ]
  go_wp2
  go_ret
  exact Qt.mk0 _ _
theorem refSame_some (w : World) (b off b' off' n ca cb : Nat) (f : Nat → Int) (hm : n ≤ 9223372036854775807)
    (hf : ∀ i, i < n → w.cell? ⟨b, off + i, none⟩ = some (.int .u8 (f i))) (hg : ∀ i, i < n → w.cell? ⟨b', off' + i, none⟩ = some (.int .u8 (f i))) :
    Calls Try.prog 11 #[.slice (some ⟨b, off, none⟩) n ca, .slice (some ⟨b', off', none⟩) n cb] w (Qt w (.bool true)) := by
  have hne : ((n : Int) != n) = false := by simp
  have Hf := hid hf
  have Hg := hid hg
  clear hf hg
  go_enter Try.func11, Try.ntmps11
  go_wp2
  go_loopw [5] (fun k wr => ∃ j m : Nat, j ≤ n ∧ k = .int .i64 j ∧ wr = w.drewN m) (fun k _ => n - (intOf k).toNat)
  case atStart => exact ⟨0, 0, Nat.zero_le _, rfl, rfl⟩
  case round =>
    obtain ⟨j, m, hj, rfl, rfl⟩ := hrel
    by_cases hlt : j < n
    · have h1 := Hf.out j hlt
      have h2 := Hg.out j hlt
      clear Hf Hg
      go_wp2
      go_quiet (fail)
      go_wp2
      go_roundw
      case rel => exact ⟨j + 1, _, by omega, by go_num, rfl⟩
      case measure => simp [intOf]; omega
    · go_wp2
      go_ret
      exact Qt.mk _ _ _
theorem refSame_yes {w : World} {B B' : Nat} {u v : Value} {xs : List Nat} (hm : xs.length ≤ 9223372036854775807) (hu : RdB w B u xs) (hv : RdB w B' v xs) :
    Calls Try.prog 11 #[u, v] w (Qt w (.bool true)) := by
  obtain ⟨a, ca, rfl, h1⟩ := hu
  obtain ⟨b, cb, rfl, h2⟩ := hv
  rcases Nat.eq_zero_or_pos xs.length with h0 | h0
  · rw [h0]; exact refSame_none w a b ca cb
  · obtain ⟨b1, o1, rfl, _, h1⟩ := h1 h0
    obtain ⟨b2, o2, rfl, _, h2⟩ := h2 h0
    exact refSame_some w b1 o1 b2 o2 _ ca cb (fun i => (xs.getD i 0 : Nat)) hm h1 h2
end Go.Proofs.Ytimgongaenpgkaa
