/- Contracts of package word (layer 1) for bytes. -/
import Derived.Test.YtimgongaenpgkaaDoorRows
import Derived.Test.YtimgongaenpgkaaDoorPlain01
import Derived.Test.YtimgongaenpgkaaDoorKit01
namespace Go.Proofs.YtimgongaenpgkaaDoor
open Go.RowKit

theorem splitInfo : (Tryd.prog.info? 5).map (fun i => (i.zero, i.size, i.bytes)) = some (some (.int .u8 0), 1, 1) := by kernel_rfl
/-- What split has written after j rounds. -/
def partB (v n j : Nat) : List Value := (bytesN v j).map byteV ++ List.replicate (n - j) (.int .u8 0)
theorem partB_get (v n j : Nat) (h : j < n) : (partB v n j)[j]? = some (.int .u8 0) := by
  unfold partB
  rw [List.getElem?_append_right (by simp [bytesN_len]), List.length_map, bytesN_len, Nat.sub_self, List.getElem?_replicate, if_pos (by omega)]
theorem partB_set (v n j : Nat) (h : j < n) : (partB v n j).set j (byteV (byteN v j)) = partB v n (j + 1) := by
  unfold partB
  rw [List.set_append_right _ _ (by simp [bytesN_len]), bytesN_succ, List.map_append, List.append_assoc]
  congr 1
  have e : n - j = (n - (j + 1)) + 1 := by omega
  simp [bytesN_len, e, List.replicate_succ]
theorem split_own (v n : Nat) (w : World) (h0 : 1 ≤ n) (hn : n ≤ 8) :
    Calls Tryd.prog 37 #[.int .u64 v, .int .i64 n] w (MkO 5 w (bytesN v n)) := by
  obtain ⟨i0, hi, hz0, hz1, hz2⟩ := info_parts splitInfo
  obtain ⟨B, hB⟩ : ∃ B, B = w.heap.size := ⟨_, rfl⟩
  have HB := hid hB
  have hle : B ≤ w.heap.size := by omega
  clear hB
  go_enter Tryd.func37, Tryd.ntmps37
  go_wp2_with (at_make; refine wpList_make_full _ rfl _ _ 37 rfl B 5 i0 (.int .u8 0) 1 Tryd.underlying37 hi hz0 hz1 _ _ _ _ n rfl rfl rfl rfl ?c1 ?c2 ?c3 ?_)
  case c1 => rw [hz2]; omega
  case c2 => unfold maxLen; omega
  case c3 => exact hle
  intro w1 hown hgrow
  have hown0 : w1.ownsRow B 5 1 (.slice (some ⟨w.heap.size, 0, none⟩) n n) n (partB v n 0) := by
    have e : (madeCells (Value.int .u8 0).cells (n * 1)).toList = partB v n 0 := by
      rw [Nat.mul_one]; exact toList_madeCells_one _ _
    rw [← e, Nat.mul_one]; exact hown
  have hbel : Below B w w1 := (Below.refl B w).grown hgrow hle (fun k hk => by cases hk)
  generalize w.heap.size = g at hown0 hgrow ⊢
  clear hown hgrow
  go_wp2
  go_loopw [10] (fun k wr => ∃ j : Nat, j ≤ n ∧ k = .int .i64 j ∧ wr.ownsRow B 5 1 (.slice (some ⟨g, 0, none⟩) n n) n (partB v n j) ∧ Below B w wr) (fun k _ => n - (intOf k).toNat)
  case atStart => exact ⟨0, Nat.zero_le _, rfl, hown0, hbel⟩
  case round =>
    obtain ⟨j, hj, rfl, hown, hbel⟩ := hrel
    by_cases hlt : j < n
    · have hfz := hown.frozenAt j
      have hcell : wr.cell? ⟨g, j, none⟩ = some (.int .u8 0) := by rw [hown.cellAt j (by omega)]; exact partB_get v n j hlt
      have Hown := hid hown
      clear hown hown0
      go_wp2
      rw [byte_eq v j]
      have hb := (Hown.out.lt g rfl).1
      have hn := (Hown.out.stored j (byteV (byteN v j))).1
      rw [partB_set v n j hlt] at hn
      go_roundw
      case rel => exact ⟨j + 1, by omega, by go_num, hn, hbel.setCell hb _⟩
      case measure => simp [intOf]; omega
    · obtain rfl : n = j := by omega
      go_wp2
      go_ret
      rw [HB.out] at hbel hown
      have e : partB v n n = (bytesN v n).map byteV := by simp [partB]
      rw [e] at hown
      exact ⟨_, rfl, by rw [bytesN_len]; exact hown, hbel⟩
theorem split_any (v n : Nat) (w : World) (h0 : 1 ≤ n) (hn : n ≤ 8) :
    Calls Tryd.prog 37 #[.int .u64 v, .int .i64 n] w (MkB w (bytesN v n)) := (split_own v n w h0 hn).mono fun _ _ h => h.mkB
theorem bytes_own (v : Nat) (w : World) (hv : v < 4294967296) :
    Calls Tryd.prog 22 #[.int .u32 v] w (MkO 5 w (bytesN v 4)) := by
  go_enter Tryd.func22, Tryd.ntmps22
  go_wp2_with (go_at_call 37; refine (split_own v 4 _ (by omega) (by omega)).mono ?_; rintro e w' ⟨u, rfl, hu, hb⟩)
  go_ret
  exact ⟨_, rfl, hu, hb⟩
theorem bytes_any (v : Nat) (w : World) (hv : v < 4294967296) :
    Calls Tryd.prog 22 #[.int .u32 v] w (MkB w (bytesN v 4)) := (bytes_own v w hv).mono fun _ _ h => h.mkB
theorem long_any (x : Int) (w : World) :
    Calls Tryd.prog 23 #[.int .i64 x] w (MkB w (bytesN (u64N x) 8)) := by
  have hv := u64N_lt x
  have hu := u64N_eq x
  go_enter Tryd.func23, Tryd.ntmps23
  go_wp2_with (go_at_call 37; refine (split_any (u64N x) 8 _ (by omega) (by omega)).mono ?_; rintro e w' ⟨u, rfl, hu, hb⟩)
  go_ret
  exact ⟨_, rfl, hu, hb⟩
end Go.Proofs.YtimgongaenpgkaaDoor
