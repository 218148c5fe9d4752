/- Contracts of package word (layer 1) for bytes. -/
import Derived.Test.YtppjkdlpmmalaaaDoorRows
import Derived.Test.YtppjkdlpmmalaaaDoorPlain01
import Derived.Test.YtppjkdlpmmalaaaDoorKit01
namespace Go.Proofs.YtppjkdlpmmalaaaDoor
open Go.RowKit

theorem join_no (w : World) (a : Option Addr) (len cap : Nat) (p : Int) (n : Nat) (hl : len ≤ 9223372036854775807) (hn : n ≤ 8) (h : p < 0 ∨ (len : Int) - n < p) :
    Calls Tryd.prog 58 #[.slice a len cap, .int .i64 p, .int .i64 n] w fun e w' => e = .returned (.tuple #[.int .u64 0, .int .i64 4]) ∧ w = w' := by
  by_cases h0 : p < 0
  · go_enter Tryd.func58, Tryd.ntmps58
    go_wp2
    go_ret2
    exact ⟨rfl, rfl⟩
  · have h1 : (len : Int) - n < p := by omega
    clear h
    go_enter Tryd.func58, Tryd.ntmps58
    go_wp2
    go_ret2
    exact ⟨rfl, rfl⟩
theorem join_yes (w : World) (b off len cap p n : Nat) (f : Nat → Nat) (hl : len ≤ 9223372036854775807) (h0 : 1 ≤ n) (hn : n ≤ 8) (h : p + n ≤ len)
    (hf : ∀ i, i < n → w.cell? ⟨b, off + (p + i), none⟩ = some (.int .u8 (f i : Nat))) (hb : ∀ i, f i < 256) :
    Calls Tryd.prog 58 #[.slice (some ⟨b, off, none⟩) len cap, .int .i64 p, .int .i64 n] w fun e w' => e = .returned (.tuple #[.int .u64 (joinN f n : Nat), .int .i64 0]) ∧ w = w' := by
  have Hf := hid hf
  have Hb := hid hb
  clear hf hb
  go_enter Tryd.func58, Tryd.ntmps58
  go_wp2
  go_loop [8, 21] (fun v k => ∃ j : Nat, j ≤ n ∧ k = .int .i64 j ∧ v = .int .u64 (joinN f j : Nat)) (fun _ k => n - (intOf k).toNat)
  case atStart => exact ⟨0, Nat.zero_le _, rfl, rfl⟩
  case round =>
    obtain ⟨j, hj, rfl, rfl⟩ := hrel
    by_cases hlt : j < n
    · have hcell := Hf.out j hlt
      have hbj := Hb.out j
      have hlo : joinN f j < 18446744073709551616 := joinN_lt64 f j (by omega) Hb.out
      go_wp2
      rw [join_step f j (by omega) Hb.out]
      go_round
      case rel => exact ⟨j + 1, by omega, by go_num, rfl⟩
      case measure => simp [intOf]; omega
    · obtain rfl : n = j := by omega
      go_wp2
      go_ret2
      exact ⟨rfl, rfl⟩
theorem word_no (w : World) (a : Option Addr) (len cap : Nat) (p : Int) (hl : len ≤ 9223372036854775807) (h : p < 0 ∨ (len : Int) - 4 < p) :
    Calls Tryd.prog 33 #[.slice a len cap, .int .i64 p] w fun e w' => e = .returned (.tuple #[.int .u32 0, .int .i64 4]) ∧ w = w' := by
  go_enter Tryd.func33, Tryd.ntmps33
  go_wp2_with (go_at_call 58; refine (join_no _ _ _ _ _ 4 hl (by omega) h).mono ?_; rintro e w' ⟨rfl, rfl⟩)
  go_ret2
  exact ⟨rfl, rfl⟩
theorem word_yes (w : World) (b off len cap p : Nat) (f : Nat → Nat) (hl : len ≤ 9223372036854775807) (h : p + 4 ≤ len)
    (hf : ∀ i, i < 4 → w.cell? ⟨b, off + (p + i), none⟩ = some (.int .u8 (f i : Nat))) (hb : ∀ i, f i < 256) :
    Calls Tryd.prog 33 #[.slice (some ⟨b, off, none⟩) len cap, .int .i64 p] w fun e w' => e = .returned (.tuple #[.int .u32 (joinN f 4 : Nat), .int .i64 0]) ∧ w = w' := by
  have hc := hid (fun W => join_yes W b off len cap p 4 f hl (by omega) (by omega) h)
  have hlt : joinN f 4 < 4294967296 := joinN_lt f 4 hb
  have Hf := hid hf
  have Hb := hid hb
  clear hf hb
  go_enter Tryd.func33, Tryd.ntmps33
  go_wp2_with (go_at_call 58; refine (hc.out _ Hf.out Hb.out).mono ?_; rintro e w' ⟨rfl, rfl⟩)
  go_ret2
  exact ⟨rfl, rfl⟩
theorem word_back {w : World} {B : Nat} {u : Value} {x : Nat} (h : RdB w B u (bytesN x 4)) (hx : x < 4294967296) :
    Calls Tryd.prog 33 #[u, .int .i64 0] w fun e w' => e = .returned (.tuple #[.int .u32 (x : Nat), .int .i64 0]) ∧ w = w' := by
  obtain ⟨a, cap, rfl, hc⟩ := h
  rw [bytesN_len] at hc ⊢
  obtain ⟨g, off, rfl, _, hc⟩ := hc (by omega)
  have hy := word_yes w g off 4 cap 0 (byteN x) (by omega) (by omega) (fun i hi => by
    rw [Nat.zero_add, hc i hi]; simp [bytesN_get x 4 i hi]) (fun i => byteN_lt x i)
  rw [joinN_bytes4 x hx] at hy
  exact hy
end Go.Proofs.YtppjkdlpmmalaaaDoor
