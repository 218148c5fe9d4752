/- Contracts of package word (layer 1) for bytes. -/
import Derived.Test.YtimgongaenpgkaaRows
import Derived.Test.YtimgongaenpgkaaPlain01
import Derived.Test.YtimgongaenpgkaaKit01
namespace Go.Proofs.Ytimgongaenpgkaa
open Go.RowKit

theorem splitInfo : (Try.prog.info? 5).map (fun i => (i.zero, i.size, i.bytes)) = some (some (.int .u8 0), 1, 1) := by kernel_rfl
/-- What split has written after j rounds. -/
def partB (v n j : Nat) : List Value := (bytesN v j).map byteV ++ List.replicate (n - j) (.int .u8 0)
theorem partB_get (v n j : Nat) (h : j < n) : (partB v n j)[j]? = some (.int .u8 0) := by
  unfold partB
  rw [List.getElem?_append_right (by simp [bytesN_len]), List.length_map, bytesN_len, Nat.sub_self, List.getElem?_replicate, if_pos (by omega)]
theorem partB_set (v n j : Nat) (h : j < n) : (partB v n j).set j (byteV (byteN v j)) = partB v n (j + 1) := by
  unfold partB
  rw [List.set_append_right _ _ (by simp [bytesN_len]), bytesN_succ, List.map_append, List.append_assoc]
  congr 1
  have e : n - j = (n - (j + 1)) + 1 := by omega
  simp [bytesN_len, e, List.replicate_succ]
theorem split_own (v n : Nat) (w : World) (h0 : 1 ≤ n) (hn : n ≤ 8) :
    Calls Try.prog 28 #[.int .u64 v, .int .i64 n] w (MkO 5 w (bytesN v n)) := by
  obtain ⟨i0, hi, hz0, hz1, hz2⟩ := info_parts splitInfo
  obtain ⟨B, hB⟩ : ∃ B, B = w.heap.size := ⟨_, rfl⟩
  have HB := hid hB
  have hle : B ≤ w.heap.size := by omega
  clear hB
  go_enter Try.func28, Try.ntmps28
  go_wp2_with (at_make; refine wpList_make_full _ rfl _ _ 30 rfl B 5 i0 (.int .u8 0) 1 Try.underlying30 hi hz0 hz1 _ _ _ _ n rfl rfl rfl rfl ?c1 ?c2 ?c3 ?_)
  case c1 => rw [hz2]; omega
  case c2 => unfold maxLen; omega
  case c3 => exact hle
  intro w1 hown hgrow
  have hown0 : w1.ownsRow B 5 1 (.slice (some ⟨w.heap.size, 0, none⟩) n n) n (partB v n 0) := by
    have e : (madeCells (Value.int .u8 0).cells (n * 1)).toList = partB v n 0 := by
      rw [Nat.mul_one]; exact toList_madeCells_one _ _
    rw [← e, Nat.mul_one]; exact hown
  have hbel : Below B w w1 := (Below.refl B w).grown hgrow hle (fun k hk => by cases hk)
  generalize w.heap.size = g at hown0 hgrow ⊢
  clear hown hgrow
  go_wp2
  go_loopw [10] (fun k wr => ∃ j : Nat, j ≤ n ∧ k = .int .i64 j ∧ wr.ownsRow B 5 1 (.slice (some ⟨g, 0, none⟩) n n) n (partB v n j) ∧ Below B w wr) (fun k _ => n - (intOf k).toNat)
  case atStart => exact ⟨0, Nat.zero_le _, rfl, hown0, hbel⟩
  case round =>
    obtain ⟨j, hj, rfl, hown, hbel⟩ := hrel
    by_cases hlt : j < n
    · have hfz := hown.frozenAt j
      have hcell : wr.cell? ⟨g, j, none⟩ = some (.int .u8 0) := by rw [hown.cellAt j (by omega)]; exact partB_get v n j hlt
      have Hown := hid hown
      clear hown hown0
      go_wp2
      rw [byte_eq v j]
      have hb := (Hown.out.lt g rfl).1
      have hn := (Hown.out.stored j (byteV (byteN v j))).1
      rw [partB_set v n j hlt] at hn
      go_roundw
      case rel => exact ⟨j + 1, by omega, by go_num, hn, hbel.setCell hb _⟩
      case measure => simp [intOf]; omega
    · obtain rfl : n = j := by omega
      go_wp2
      go_ret
      rw [HB.out] at hbel hown
      have e : partB v n n = (bytesN v n).map byteV := by simp [partB]
      rw [e] at hown
      exact ⟨_, rfl, by rw [bytesN_len]; exact hown, hbel⟩
theorem split_any (v n : Nat) (w : World) (h0 : 1 ≤ n) (hn : n ≤ 8) :
    Calls Try.prog 28 #[.int .u64 v, .int .i64 n] w (MkB w (bytesN v n)) := (split_own v n w h0 hn).mono fun _ _ h => h.mkB
theorem bytes_own (v : Nat) (w : World) (hv : v < 4294967296) :
    Calls Try.prog 18 #[.int .u32 v] w (MkO 5 w (bytesN v 4)) := by
  go_enter Try.func18, Try.ntmps18
  go_wp2_with (go_at_call 28; refine (split_own v 4 _ (by omega) (by omega)).mono ?_; rintro e w' ⟨u, rfl, hu, hb⟩)
  go_ret
  exact ⟨_, rfl, hu, hb⟩
theorem bytes_any (v : Nat) (w : World) (hv : v < 4294967296) :
    Calls Try.prog 18 #[.int .u32 v] w (MkB w (bytesN v 4)) := (bytes_own v w hv).mono fun _ _ h => h.mkB
theorem long_any (x : Int) (w : World) :
    Calls Try.prog 19 #[.int .i64 x] w (MkB w (bytesN (u64N x) 8)) := by
  have hv := u64N_lt x
  have hu := u64N_eq x
  go_enter Try.func19, Try.ntmps19
  go_wp2_with (go_at_call 28; refine (split_any (u64N x) 8 _ (by omega) (by omega)).mono ?_; rintro e w' ⟨u, rfl, hu, hb⟩)
  go_ret
  exact ⟨_, rfl, hu, hb⟩
theorem join_no (w : World) (a : Option Addr) (len cap : Nat) (p : Int) (n : Nat) (hl : len ≤ 9223372036854775807) (hn : n ≤ 8) (h : p < 0 ∨ (len : Int) - n < p) :
    Calls Try.prog 31 #[.slice a len cap, .int .i64 p, .int .i64 n] w fun e w' => e = .returned (.tuple #[.int .u64 0, .int .i64 4]) ∧ w = w' := by
  by_cases h0 : p < 0
  · go_enter Try.func31, Try.ntmps31
    go_wp2
    go_ret2
    exact ⟨rfl, rfl⟩
  · have h1 : (len : Int) - n < p := by omega
    clear h
    go_enter Try.func31, Try.ntmps31
    go_wp2
    go_ret2
    exact ⟨rfl, rfl⟩
theorem join_yes (w : World) (b off len cap p n : Nat) (f : Nat → Nat) (hl : len ≤ 9223372036854775807) (h0 : 1 ≤ n) (hn : n ≤ 8) (h : p + n ≤ len)
    (hf : ∀ i, i < n → w.cell? ⟨b, off + (p + i), none⟩ = some (.int .u8 (f i : Nat))) (hb : ∀ i, f i < 256) :
    Calls Try.prog 31 #[.slice (some ⟨b, off, none⟩) len cap, .int .i64 p, .int .i64 n] w fun e w' => e = .returned (.tuple #[.int .u64 (joinN f n : Nat), .int .i64 0]) ∧ w = w' := by
  have Hf := hid hf
  have Hb := hid hb
  clear hf hb
  go_enter Try.func31, Try.ntmps31
  go_wp2
  go_loop [8, 21] (fun v k => ∃ j : Nat, j ≤ n ∧ k = .int .i64 j ∧ v = .int .u64 (joinN f j : Nat)) (fun _ k => n - (intOf k).toNat)
  case atStart => exact ⟨0, Nat.zero_le _, rfl, rfl⟩
  case round =>
    obtain ⟨j, hj, rfl, rfl⟩ := hrel
    by_cases hlt : j < n
    · have hcell := Hf.out j hlt
      have hbj := Hb.out j
      have hlo : joinN f j < 18446744073709551616 := joinN_lt64 f j (by omega) Hb.out
      go_wp2
      rw [join_step f j (by omega) Hb.out]
      go_round
      case rel => exact ⟨j + 1, by omega, by go_num, rfl⟩
      case measure => simp [intOf]; omega
    · obtain rfl : n = j := by omega
      go_wp2
      go_ret2
      exact ⟨rfl, rfl⟩
theorem word_no (w : World) (a : Option Addr) (len cap : Nat) (p : Int) (hl : len ≤ 9223372036854775807) (h : p < 0 ∨ (len : Int) - 4 < p) :
    Calls Try.prog 29 #[.slice a len cap, .int .i64 p] w fun e w' => e = .returned (.tuple #[.int .u32 0, .int .i64 4]) ∧ w = w' := by
  go_enter Try.func29, Try.ntmps29
  go_wp2_with (go_at_call 31; refine (join_no _ _ _ _ _ 4 hl (by omega) h).mono ?_; rintro e w' ⟨rfl, rfl⟩)
  go_ret2
  exact ⟨rfl, rfl⟩
theorem word_yes (w : World) (b off len cap p : Nat) (f : Nat → Nat) (hl : len ≤ 9223372036854775807) (h : p + 4 ≤ len)
    (hf : ∀ i, i < 4 → w.cell? ⟨b, off + (p + i), none⟩ = some (.int .u8 (f i : Nat))) (hb : ∀ i, f i < 256) :
    Calls Try.prog 29 #[.slice (some ⟨b, off, none⟩) len cap, .int .i64 p] w fun e w' => e = .returned (.tuple #[.int .u32 (joinN f 4 : Nat), .int .i64 0]) ∧ w = w' := by
  have hc := hid (fun W => join_yes W b off len cap p 4 f hl (by omega) (by omega) h)
  have hlt : joinN f 4 < 4294967296 := joinN_lt f 4 hb
  have Hf := hid hf
  have Hb := hid hb
  clear hf hb
  go_enter Try.func29, Try.ntmps29
  go_wp2_with (go_at_call 31; refine (hc.out _ Hf.out Hb.out).mono ?_; rintro e w' ⟨rfl, rfl⟩)
  go_ret2
  exact ⟨rfl, rfl⟩
theorem number_no (w : World) (a : Option Addr) (len cap : Nat) (p : Int) (hl : len ≤ 9223372036854775807) (h : p < 0 ∨ (len : Int) - 8 < p) :
    Calls Try.prog 30 #[.slice a len cap, .int .i64 p] w fun e w' => e = .returned (.tuple #[.int .i64 0, .int .i64 4]) ∧ w = w' := by
  go_enter Try.func30, Try.ntmps30
  go_wp2_with (go_at_call 31; refine (join_no _ _ _ _ _ 8 hl (by omega) h).mono ?_; rintro e w' ⟨rfl, rfl⟩)
  go_ret2
  exact ⟨rfl, rfl⟩
theorem number_yes (w : World) (b off len cap p : Nat) (f : Nat → Nat) (hl : len ≤ 9223372036854775807) (h : p + 8 ≤ len)
    (hf : ∀ i, i < 8 → w.cell? ⟨b, off + (p + i), none⟩ = some (.int .u8 (f i : Nat))) (hb : ∀ i, f i < 256) :
    Calls Try.prog 30 #[.slice (some ⟨b, off, none⟩) len cap, .int .i64 p] w fun e w' => e = .returned (.tuple #[.int .i64 (i64N (joinN f 8)), .int .i64 0]) ∧ w = w' := by
  have hc := hid (fun W => join_yes W b off len cap p 8 f hl (by omega) (by omega) h)
  have Hf := hid hf
  have Hb := hid hb
  clear hf hb
  go_enter Try.func30, Try.ntmps30
  go_wp2_with (go_at_call 31; refine (hc.out _ Hf.out Hb.out).mono ?_; rintro e w' ⟨rfl, rfl⟩)
  go_ret2
  exact ⟨rfl, rfl⟩
theorem word_back {w : World} {B : Nat} {u : Value} {x : Nat} (h : RdB w B u (bytesN x 4)) (hx : x < 4294967296) :
    Calls Try.prog 29 #[u, .int .i64 0] w fun e w' => e = .returned (.tuple #[.int .u32 (x : Nat), .int .i64 0]) ∧ w = w' := by
  obtain ⟨a, cap, rfl, hc⟩ := h
  rw [bytesN_len] at hc ⊢
  obtain ⟨g, off, rfl, _, hc⟩ := hc (by omega)
  have hy := word_yes w g off 4 cap 0 (byteN x) (by omega) (by omega) (fun i hi => by
    rw [Nat.zero_add, hc i hi]; simp [bytesN_get x 4 i hi]) (fun i => byteN_lt x i)
  rw [joinN_bytes4 x hx] at hy
  exact hy
theorem number_back {w : World} {B : Nat} {u : Value} {x : Nat} (h : RdB w B u (bytesN x 8)) (hx : x < 18446744073709551616) :
    Calls Try.prog 30 #[u, .int .i64 0] w fun e w' => e = .returned (.tuple #[.int .i64 (i64N x), .int .i64 0]) ∧ w = w' := by
  obtain ⟨a, cap, rfl, hc⟩ := h
  rw [bytesN_len] at hc ⊢
  obtain ⟨g, off, rfl, _, hc⟩ := hc (by omega)
  have hy := number_yes w g off 8 cap 0 (byteN x) (by omega) (by omega) (fun i hi => by
    rw [Nat.zero_add, hc i hi]; simp [bytesN_get x 8 i hi]) (fun i => byteN_lt x i)
  rw [joinN_bytes8 x hx] at hy
  exact hy
end Go.Proofs.Ytimgongaenpgkaa
