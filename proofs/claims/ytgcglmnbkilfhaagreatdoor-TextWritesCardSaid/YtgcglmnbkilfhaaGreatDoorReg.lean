/- Contracts of package reg (layer 2). -/
import Derived.Test.YtgcglmnbkilfhaaGreatDoorRows
import Derived.Test.YtgcglmnbkilfhaaGreatDoorPlain02
import Derived.Test.YtgcglmnbkilfhaaGreatDoorKit02
namespace Go.Proofs.YtgcglmnbkilfhaaGreatDoor
open Go.RowKit

theorem isRegister_yes (r : Int) (w : World) (h1 : 0 ≤ r) (h2 : r < 32) :
    Calls Tryz.prog 68 #[.int .i64 r] w fun e w' => e = .returned (.bool true) ∧ w = w' := by
  go_enter Tryz.func68, Tryz.ntmps68
  go_wp2
  go_ret
  exact ⟨rfl, rfl⟩
theorem isRegister_no (r : Int) (w : World) (h : r < 0 ∨ 32 ≤ r) :
    Calls Tryz.prog 68 #[.int .i64 r] w fun e w' => e = .returned (.bool false) ∧ w = w' := by
  rcases h with h | h
  · go_enter Tryz.func68, Tryz.ntmps68
    go_wp2
    go_ret
    exact ⟨rfl, rfl⟩
  · have h0 : 0 ≤ r := by omega
    have hd : decide (r < 32) = false := by simpa using h
    go_enter Tryz.func68, Tryz.ntmps68
    go_wp2
    go_ret
    exact ⟨rfl, rfl⟩
theorem decimal_one (n : Nat) (w : World) (h : n < 10) :
    Calls Tryz.prog 69 #[.int .i64 (n : Nat)] w fun e w' => e = .returned (.string (digS n)) ∧ w = w' := by
  go_enter Tryz.func69, Tryz.ntmps69
  go_wp2_with fail
  rw [digS_eq n h]
  go_ret
  exact ⟨rfl, rfl⟩
theorem decimal_any (n : Nat) (w : World) (h : n < 100) :
    Calls Tryz.prog 69 #[.int .i64 (n : Nat)] w fun e w' => e = .returned (.string (decS n)) ∧ w = w' := by
  by_cases hlt : n < 10
  · rw [decS_lo n hlt]; exact decimal_one n w hlt
  · rw [decS_hi n hlt]
    go_enter Tryz.func69, Tryz.ntmps69
    go_wp2_with fail
    refine (decimal_one (n / 10) _ (by omega)).mono ?_
    rintro e w' ⟨rfl, rfl⟩
    go_wp2_with fail
    refine (decimal_one (n % 10) _ (by omega)).mono ?_
    rintro e w' ⟨rfl, rfl⟩
    go_wp2_with fail
    go_ret
    exact ⟨rfl, rfl⟩
theorem regName_yes (r : Nat) (w : World) (h : r < 32) :
    Calls Tryz.prog 45 #[.int .i64 (r : Nat)] w fun e w' => e = .returned (.string (numS r)) ∧ w = w' := by
  have hs := decS_size r
  go_enter Tryz.func45, Tryz.ntmps45
  go_wp2_with (first | (go_at_call 68; refine (isRegister_yes _ _ (by omega) (by omega)).mono ?_; rintro e w' ⟨rfl, rfl⟩) | (go_at_call 69; refine (decimal_any r _ (by omega)).mono ?_; rintro e w' ⟨rfl, rfl⟩))
  go_ret
  exact ⟨rfl, rfl⟩
theorem regName_no (r : Int) (w : World) (h : r < 0 ∨ 32 ≤ r) :
    Calls Tryz.prog 45 #[.int .i64 r] w fun e w' => e = .returned (.string ⟨#[]⟩) ∧ w = w' := by
  go_enter Tryz.func45, Tryz.ntmps45
  go_wp2_with (go_at_call 68; refine (isRegister_no _ _ h).mono ?_; rintro e w' ⟨rfl, rfl⟩)
  go_ret
  exact ⟨rfl, rfl⟩
/-- The table of ABI names reads as the document lists it. -/
def AbiIs (w : World) : Prop := ∀ i, i < 32 → w.cell? ⟨2, i, none⟩ = some (.string (useS i))
theorem AbiIs.below {w w' : World} {B : Nat} (h : AbiIs w) (hB : 2 < B) (hb : Below B w w') : AbiIs w' :=
  fun i hi => (hb.cell (p := ⟨2, i, none⟩) hB).trans (h i hi)
theorem regUse_yes (r : Nat) (w : World) (h : r < 32) (ha : AbiIs w) :
    Calls Tryz.prog 77 #[.int .i64 (r : Nat)] w fun e w' => e = .returned (.string (useS r)) ∧ w = w' := by
  have hc := ha r h
  clear ha
  go_enter Tryz.func77, Tryz.ntmps77
  go_wp2_with (first | (go_at_call 68; refine (isRegister_yes _ _ (by omega) (by omega)).mono ?_; rintro e w' ⟨rfl, rfl⟩))
  go_ret
  exact ⟨rfl, rfl⟩
theorem regUse_no (r : Int) (w : World) (h : r < 0 ∨ 32 ≤ r) :
    Calls Tryz.prog 77 #[.int .i64 r] w fun e w' => e = .returned (.string ⟨#[]⟩) ∧ w = w' := by
  go_enter Tryz.func77, Tryz.ntmps77
  go_wp2_with (go_at_call 68; refine (isRegister_no _ _ h).mono ?_; rintro e w' ⟨rfl, rfl⟩)
  go_ret
  exact ⟨rfl, rfl⟩
/-- What Parse answers. -/
def Parsed (s : ByteArray) (w : World) (e : Ending) (w' : World) : Prop :=
  w = w' ∧ ((∃ r : Nat, r < 32 ∧ isNameB s r = true ∧ (∀ i, i < r → isNameB s i = false) ∧ e = .returned (.tuple #[.int .i64 (r : Nat), .bool true])) ∨
    ((∀ i, i < 32 → isNameB s i = false) ∧ e = .returned (.tuple #[.int .i64 0, .bool false])))
theorem regParse_any (s : ByteArray) (w : World) (ha : AbiIs w) :
    Calls Tryz.prog 58 #[.string s] w (Parsed s w) := by
  have Ha := hid ha
  clear ha
  go_enter Tryz.func58, Tryz.ntmps58
  go_wp2
  go_loop [4, 5] (fun _ k => ∃ j : Nat, j ≤ 32 ∧ k = .int .i64 j ∧ NotYet s j) (fun _ k => 32 - (intOf k).toNat)
  case atStart => exact ⟨0, Nat.zero_le _, rfl, fun i hi => by omega⟩
  case round =>
    obtain ⟨j, hj, rfl, hny⟩ := hrel
    by_cases hlt : j < 32
    · have hu := hid (fun W h => regUse_yes j W hlt h)
      have hn := hid (fun W => regName_yes j W hlt)
      go_wp2_with (first | (go_at_call 77; refine (hu.out _ Ha.out).mono ?_; rintro e w' ⟨rfl, rfl⟩) | (go_at_call 45; refine (hn.out _).mono ?_; rintro e w' ⟨rfl, rfl⟩))
      · have h : s.toList = (useS j).toList := by assumption
        go_ret2
        exact ⟨rfl, .inl ⟨j, hlt, isNameB_use h, hny, rfl⟩⟩
      · have h : (s.toList == (useS j).toList) = true ∨ (s.toList == (numS j).toList) = true := by assumption
        go_ret2
        exact ⟨rfl, .inl ⟨j, hlt, isNameB_or h, hny, rfl⟩⟩
      · have h : (s.toList == (useS j).toList) = false ∧ (s.toList == (numS j).toList) = false := by assumption
        go_round
        case rel => exact ⟨j + 1, by omega, by go_num, hny.succ (isNameB_no h)⟩
        case measure => simp [intOf]; omega
    · obtain rfl : j = 32 := by omega
      go_wp2_with fail
      go_ret2
      exact ⟨rfl, .inr ⟨hny, rfl⟩⟩
theorem regParse_some (s : ByteArray) (r : Nat) (w : World) (ha : AbiIs w) (hr : r < 32) (h : isNameB s r = true) (hn : ∀ i, i < r → isNameB s i = false) :
    Calls Tryz.prog 58 #[.string s] w fun e w' => e = .returned (.tuple #[.int .i64 (r : Nat), .bool true]) ∧ w = w' :=
  (regParse_any s w ha).mono fun e w' ⟨hw, hh⟩ => by
    refine ⟨?_, hw⟩
    rcases hh with ⟨r', hr', h', hn', rfl⟩ | ⟨hn', _⟩
    · obtain rfl : r' = r := by
        rcases Nat.lt_trichotomy r r' with hl | hl | hl
        · rw [hn' r hl] at h; cases h
        · exact hl.symm
        · rw [hn r' hl] at h'; cases h'
      rfl
    · rw [hn' r hr] at h; cases h
theorem regParse_none (s : ByteArray) (w : World) (ha : AbiIs w) (hn : ∀ i, i < 32 → isNameB s i = false) :
    Calls Tryz.prog 58 #[.string s] w fun e w' => e = .returned (.tuple #[.int .i64 0, .bool false]) ∧ w = w' :=
  (regParse_any s w ha).mono fun e w' ⟨hw, hh⟩ => by
    refine ⟨?_, hw⟩
    rcases hh with ⟨r', hr', h', _, rfl⟩ | ⟨_, rfl⟩
    · rw [hn r' hr'] at h'; cases h'
    · rfl
end Go.Proofs.YtgcglmnbkilfhaaGreatDoor
