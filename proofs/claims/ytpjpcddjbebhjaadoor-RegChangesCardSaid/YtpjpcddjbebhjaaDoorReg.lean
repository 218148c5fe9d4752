/- Contracts of package reg (layer 2). -/
import Derived.Test.YtpjpcddjbebhjaaDoorRows
import Derived.Test.YtpjpcddjbebhjaaDoorPlain02
import Derived.Test.YtpjpcddjbebhjaaDoorKit02
namespace Go.Proofs.YtpjpcddjbebhjaaDoor
open Go.RowKit

theorem isRegister_yes (r : Int) (w : World) (h1 : 0 ≤ r) (h2 : r < 32) :
    Calls Tryd.prog 25 #[.int .i64 r] w fun e w' => e = .returned (.bool true) ∧ w = w' := by
  go_enter Tryd.func25, Tryd.ntmps25
  go_wp2
  go_ret
  exact ⟨rfl, rfl⟩
theorem isRegister_no (r : Int) (w : World) (h : r < 0 ∨ 32 ≤ r) :
    Calls Tryd.prog 25 #[.int .i64 r] w fun e w' => e = .returned (.bool false) ∧ w = w' := by
  rcases h with h | h
  · go_enter Tryd.func25, Tryd.ntmps25
    go_wp2
    go_ret
    exact ⟨rfl, rfl⟩
  · have h0 : 0 ≤ r := by omega
    have hd : decide (r < 32) = false := by simpa using h
    go_enter Tryd.func25, Tryd.ntmps25
    go_wp2
    go_ret
    exact ⟨rfl, rfl⟩
theorem decimal_one (n : Nat) (w : World) (h : n < 10) :
    Calls Tryd.prog 26 #[.int .i64 (n : Nat)] w fun e w' => e = .returned (.string (digS n)) ∧ w = w' := by
  go_enter Tryd.func26, Tryd.ntmps26
  go_wp2_with fail
  rw [digS_eq n h]
  go_ret
  exact ⟨rfl, rfl⟩
theorem decimal_any (n : Nat) (w : World) (h : n < 100) :
    Calls Tryd.prog 26 #[.int .i64 (n : Nat)] w fun e w' => e = .returned (.string (decS n)) ∧ w = w' := by
  by_cases hlt : n < 10
  · rw [decS_lo n hlt]; exact decimal_one n w hlt
  · rw [decS_hi n hlt]
    go_enter Tryd.func26, Tryd.ntmps26
    go_wp2_with fail
    refine (decimal_one (n / 10) _ (by omega)).mono ?_
    rintro e w' ⟨rfl, rfl⟩
    go_wp2_with fail
    refine (decimal_one (n % 10) _ (by omega)).mono ?_
    rintro e w' ⟨rfl, rfl⟩
    go_wp2_with fail
    go_ret
    exact ⟨rfl, rfl⟩
theorem regName_yes (r : Nat) (w : World) (h : r < 32) :
    Calls Tryd.prog 7 #[.int .i64 (r : Nat)] w fun e w' => e = .returned (.string (numS r)) ∧ w = w' := by
  have hs := decS_size r
  go_enter Tryd.func7, Tryd.ntmps7
  go_wp2_with (first | (go_at_call 25; refine (isRegister_yes _ _ (by omega) (by omega)).mono ?_; rintro e w' ⟨rfl, rfl⟩) | (go_at_call 26; refine (decimal_any r _ (by omega)).mono ?_; rintro e w' ⟨rfl, rfl⟩))
  go_ret
  exact ⟨rfl, rfl⟩
theorem regName_no (r : Int) (w : World) (h : r < 0 ∨ 32 ≤ r) :
    Calls Tryd.prog 7 #[.int .i64 r] w fun e w' => e = .returned (.string ⟨#[]⟩) ∧ w = w' := by
  go_enter Tryd.func7, Tryd.ntmps7
  go_wp2_with (go_at_call 25; refine (isRegister_no _ _ h).mono ?_; rintro e w' ⟨rfl, rfl⟩)
  go_ret
  exact ⟨rfl, rfl⟩
/-- The table of ABI names reads as the document lists it. -/
def AbiIs (w : World) : Prop := ∀ i, i < 32 → w.cell? ⟨0, i, none⟩ = some (.string (useS i))
theorem AbiIs.below {w w' : World} {B : Nat} (h : AbiIs w) (hB : 0 < B) (hb : Below B w w') : AbiIs w' :=
  fun i hi => (hb.cell (p := ⟨0, i, none⟩) hB).trans (h i hi)
theorem regUse_yes (r : Nat) (w : World) (h : r < 32) (ha : AbiIs w) :
    Calls Tryd.prog 8 #[.int .i64 (r : Nat)] w fun e w' => e = .returned (.string (useS r)) ∧ w = w' := by
  have hc := ha r h
  clear ha
  go_enter Tryd.func8, Tryd.ntmps8
  go_wp2_with (first | (go_at_call 25; refine (isRegister_yes _ _ (by omega) (by omega)).mono ?_; rintro e w' ⟨rfl, rfl⟩))
  go_ret
  exact ⟨rfl, rfl⟩
theorem regUse_no (r : Int) (w : World) (h : r < 0 ∨ 32 ≤ r) :
    Calls Tryd.prog 8 #[.int .i64 r] w fun e w' => e = .returned (.string ⟨#[]⟩) ∧ w = w' := by
  go_enter Tryd.func8, Tryd.ntmps8
  go_wp2_with (go_at_call 25; refine (isRegister_no _ _ h).mono ?_; rintro e w' ⟨rfl, rfl⟩)
  go_ret
  exact ⟨rfl, rfl⟩
/-- What Parse answers. -/
def Parsed (s : ByteArray) (w : World) (e : Ending) (w' : World) : Prop :=
  w = w' ∧ ((∃ r : Nat, r < 32 ∧ isNameB s r = true ∧ (∀ i, i < r → isNameB s i = false) ∧ e = .returned (.tuple #[.int .i64 (r : Nat), .bool true])) ∨
    ((∀ i, i < 32 → isNameB s i = false) ∧ e = .returned (.tuple #[.int .i64 0, .bool false])))
theorem regParse_any (s : ByteArray) (w : World) (ha : AbiIs w) :
    Calls Tryd.prog 12 #[.string s] w (Parsed s w) := by
  have Ha := hid ha
  clear ha
  go_enter Tryd.func12, Tryd.ntmps12
  go_wp2
  go_loop [4, 5] (fun _ k => ∃ j : Nat, j ≤ 32 ∧ k = .int .i64 j ∧ NotYet s j) (fun _ k => 32 - (intOf k).toNat)
  case atStart => exact ⟨0, Nat.zero_le _, rfl, fun i hi => by omega⟩
  case round =>
    obtain ⟨j, hj, rfl, hny⟩ := hrel
    by_cases hlt : j < 32
    · have hu := hid (fun W h => regUse_yes j W hlt h)
      have hn := hid (fun W => regName_yes j W hlt)
      go_wp2_with (first | (go_at_call 8; refine (hu.out _ Ha.out).mono ?_; rintro e w' ⟨rfl, rfl⟩) | (go_at_call 7; refine (hn.out _).mono ?_; rintro e w' ⟨rfl, rfl⟩))
      · have h : s.toList = (useS j).toList := by assumption
        go_ret2
        exact ⟨rfl, .inl ⟨j, hlt, isNameB_use h, hny, rfl⟩⟩
      · have h : (s.toList == (useS j).toList) = true ∨ (s.toList == (numS j).toList) = true := by assumption
        go_ret2
        exact ⟨rfl, .inl ⟨j, hlt, isNameB_or h, hny, rfl⟩⟩
      · have h : (s.toList == (useS j).toList) = false ∧ (s.toList == (numS j).toList) = false := by assumption
        go_round
        case rel => exact ⟨j + 1, by omega, by go_num, hny.succ (isNameB_no h)⟩
        case measure => simp [intOf]; omega
    · obtain rfl : j = 32 := by omega
      go_wp2_with fail
      go_ret2
      exact ⟨rfl, .inr ⟨hny, rfl⟩⟩
theorem only_yes (r : Nat) (w : World) (h : r < 32) :
    Calls Tryd.prog 28 #[.int .i64 (r : Nat)] w fun e w' => e = .returned (.int .u32 (powN r : Nat)) ∧ w = w' := by
  have hp := powN_u32 r h
  go_enter Tryd.func28, Tryd.ntmps28
  go_wp2_with (first | (go_at_call 25; refine (isRegister_yes _ _ (by omega) (by omega)).mono ?_; rintro e w' ⟨rfl, rfl⟩))
  go_ret
  exact ⟨ret_int hp, rfl⟩
theorem only_no (r : Int) (w : World) (h : r < 0 ∨ 32 ≤ r) :
    Calls Tryd.prog 28 #[.int .i64 r] w fun e w' => e = .returned (.int .u32 0) ∧ w = w' := by
  go_enter Tryd.func28, Tryd.ntmps28
  go_wp2_with (go_at_call 25; refine (isRegister_no _ _ h).mono ?_; rintro e w' ⟨rfl, rfl⟩)
  go_ret
  exact ⟨rfl, rfl⟩
theorem has_yes (x r : Nat) (w : World) (hx : x < 4294967296) (h : r < 32) :
    Calls Tryd.prog 20 #[.int .u32 x, .int .i64 (r : Nat)] w fun e w' => e = .returned (.bool (x.testBit r)) ∧ w = w' := by
  have hb := hid (has_eq x r hx h)
  go_enter Tryd.func20, Tryd.ntmps20
  go_wp2_with (first | (go_at_call 28; refine (only_yes r _ h).mono ?_; rintro e w' ⟨rfl, rfl⟩))
  go_ret
  exact ⟨ret_bool hb.out, rfl⟩
theorem has_no (x : Nat) (r : Int) (w : World) (hx : x < 4294967296) (h : r < 0 ∨ 32 ≤ r) :
    Calls Tryd.prog 20 #[.int .u32 x, .int .i64 r] w fun e w' => e = .returned (.bool false) ∧ w = w' := by
  have hb := and_zero x hx
  go_enter Tryd.func20, Tryd.ntmps20
  go_wp2_with (first | (go_at_call 28; refine (only_no r _ h).mono ?_; rintro e w' ⟨rfl, rfl⟩))
  go_ret
  exact ⟨rfl, rfl⟩
theorem has_any (x : Nat) (r : Int) (w : World) (hx : x < 4294967296) :
    Calls Tryd.prog 20 #[.int .u32 x, .int .i64 r] w fun e w' => e = .returned (.bool (hasB x r)) ∧ w = w' := by
  by_cases h : r < 0 ∨ 32 ≤ r
  · rw [hasB_no x r h]; exact has_no x r w hx h
  · obtain ⟨n, rfl⟩ : ∃ n : Nat, r = n := ⟨r.toNat, by omega⟩
    rw [hasB_yes x n (by omega)]; exact has_yes x n w hx (by omega)
theorem with_yes (x r : Nat) (w : World) (hx : x < 4294967296) (h : r < 32) :
    Calls Tryd.prog 22 #[.int .u32 x, .int .i64 (r : Nat)] w fun e w' => e = .returned (.int .u32 (withN x r : Nat)) ∧ w = w' := by
  have hb := hid (with_eq x r hx h)
  go_enter Tryd.func22, Tryd.ntmps22
  go_wp2_with (first | (go_at_call 28; refine (only_yes r _ h).mono ?_; rintro e w' ⟨rfl, rfl⟩))
  go_ret
  exact ⟨ret_int hb.out, rfl⟩
theorem with_no (x : Nat) (r : Int) (w : World) (hx : x < 4294967296) (h : r < 0 ∨ 32 ≤ r) :
    Calls Tryd.prog 22 #[.int .u32 x, .int .i64 r] w fun e w' => e = .returned (.int .u32 x) ∧ w = w' := by
  have hb := hid (or_zero x hx)
  go_enter Tryd.func22, Tryd.ntmps22
  go_wp2_with (first | (go_at_call 28; refine (only_no r _ h).mono ?_; rintro e w' ⟨rfl, rfl⟩))
  go_ret
  exact ⟨ret_int hb.out, rfl⟩
theorem less_yes (x r : Nat) (w : World) (hx : x < 4294967296) (h : r < 32) :
    Calls Tryd.prog 23 #[.int .u32 x, .int .i64 (r : Nat)] w fun e w' => e = .returned (.int .u32 (lessN x r : Nat)) ∧ w = w' := by
  have hb := hid (less_eq x r hx h)
  go_enter Tryd.func23, Tryd.ntmps23
  go_wp2_with (first | (go_at_call 28; refine (only_yes r _ h).mono ?_; rintro e w' ⟨rfl, rfl⟩))
  go_ret
  exact ⟨ret_int hb.out, rfl⟩
theorem less_no (x : Nat) (r : Int) (w : World) (hx : x < 4294967296) (h : r < 0 ∨ 32 ≤ r) :
    Calls Tryd.prog 23 #[.int .u32 x, .int .i64 r] w fun e w' => e = .returned (.int .u32 x) ∧ w = w' := by
  have hb := hid (andNot_zero x hx)
  go_enter Tryd.func23, Tryd.ntmps23
  go_wp2_with (first | (go_at_call 28; refine (only_no r _ h).mono ?_; rintro e w' ⟨rfl, rfl⟩))
  go_ret
  exact ⟨ret_int hb.out, rfl⟩
theorem with_any (x : Nat) (r : Int) (w : World) (hx : x < 4294967296) :
    Calls Tryd.prog 22 #[.int .u32 x, .int .i64 r] w fun e w' => e = .returned (.int .u32 (withZ x r : Nat)) ∧ w = w' := by
  unfold withZ
  by_cases h : 0 ≤ r ∧ r < 32
  · obtain ⟨n, rfl⟩ : ∃ n : Nat, r = n := ⟨r.toNat, by omega⟩
    rw [if_pos h, Int.toNat_natCast]; exact with_yes x n w hx (by omega)
  · rw [if_neg h]; exact with_no x r w hx (by omega)
theorem less_any (x : Nat) (r : Int) (w : World) (hx : x < 4294967296) :
    Calls Tryd.prog 23 #[.int .u32 x, .int .i64 r] w fun e w' => e = .returned (.int .u32 (lessZ x r : Nat)) ∧ w = w' := by
  unfold lessZ
  by_cases h : 0 ≤ r ∧ r < 32
  · obtain ⟨n, rfl⟩ : ∃ n : Nat, r = n := ⟨r.toNat, by omega⟩
    rw [if_pos h, Int.toNat_natCast]; exact less_yes x n w hx (by omega)
  · rw [if_neg h]; exact less_no x r w hx (by omega)
theorem regOf_none (a : Option Addr) (cap : Nat) (w : World) :
    Calls Tryd.prog 14 #[.slice a 0 cap] w fun e w' => e = .returned (.int .u32 0) ∧ w = w' := by
  go_enter Tryd.func14, Tryd.ntmps14
  go_wp2
  refine wp_loop_rounds 1 ?_
  rw [rounds_succ]
  go_wp2
  go_ret
  exact ⟨rfl, rfl⟩
theorem regOf_some (b off n cap : Nat) (f : Nat → Int) (w : World) (hm : n ≤ 9223372036854775807) (hf : ∀ i, i < n → w.cell? ⟨b, off + i, none⟩ = some (.int .i64 (f i))) :
    Calls Tryd.prog 14 #[.slice (some ⟨b, off, none⟩) n cap] w fun e w' => e = .returned (.int .u32 (ofN f n : Nat)) ∧ w = w' := by
  have Hf := hid hf
  clear hf
  go_enter Tryd.func14, Tryd.ntmps14
  go_wp2
  go_loop [3, 8] (fun s k => ∃ j : Nat, j ≤ n ∧ k = .int .i64 j ∧ s = .int .u32 (ofN f j : Nat)) (fun _ k => n - (intOf k).toNat)
  case atStart => exact ⟨0, Nat.zero_le _, rfl, rfl⟩
  case round =>
    obtain ⟨j, hj, rfl, rfl⟩ := hrel
    have hlo := ofN_lt f j
    by_cases hlt : j < n
    · have hc := Hf.out j hlt
      by_cases hr : 0 ≤ f j ∧ f j < 32
      · obtain ⟨r, hr2⟩ : ∃ r : Nat, f j = (r : Int) := ⟨(f j).toNat, by omega⟩
        have hs := hid (ofN_yes f j r (by omega) hr2)
        have hw := hid (fun W => with_yes (ofN f j) r W hlo (by omega))
        rw [hr2] at hc
        clear hr2 hr
        go_wp2_with (go_at_call 22; refine (hw.out _).mono ?_; rintro e w' ⟨rfl, rfl⟩)
        go_round
        case rel => exact ⟨j + 1, by omega, by go_num, by rw [hs.out]⟩
        case measure => simp [intOf]; omega
      · have hs := hid (ofN_no f j (by omega))
        have hw := hid (fun W => with_no (ofN f j) (f j) W hlo (by omega))
        clear hr
        go_wp2_with (go_at_call 22; refine (hw.out _).mono ?_; rintro e w' ⟨rfl, rfl⟩)
        go_round
        case rel => exact ⟨j + 1, by omega, by go_num, by rw [hs.out]⟩
        case measure => simp [intOf]; omega
    · obtain rfl : n = j := by omega
      go_wp2_with fail
      go_ret
      exact ⟨rfl, rfl⟩
theorem regOf_rd {w : World} {B : Nat} {v : Value} {xs : List Int} (hm : xs.length ≤ 9223372036854775807) (h : RdI .i64 w B v xs) :
    Calls Tryd.prog 14 #[v] w fun e w' => e = .returned (.int .u32 (ofL xs : Nat)) ∧ w = w' := by
  unfold ofL
  obtain ⟨a, cap, rfl, hc⟩ := h
  rcases Nat.eq_zero_or_pos xs.length with h0 | h0
  · rw [h0]; exact regOf_none a cap w
  · obtain ⟨b, off, rfl, _, hc⟩ := hc h0
    exact regOf_some b off _ cap _ w hm hc
theorem intInfo : (Tryd.prog.info? 3).map (fun i => (i.zero, i.size, i.bytes)) = some (some (.int .i64 0), 1, 8) := by kernel_rfl
theorem setList_any (x : Nat) (w : World) (hx : x < 4294967296) :
    Calls Tryd.prog 18 #[.int .u32 x] w (MkI .i64 w (listP x.testBit 32)) := by
  obtain ⟨i0, hi, hz0, hz1, hz2⟩ := info_parts intInfo
  obtain ⟨B, hB⟩ : ∃ B, B = w.heap.size := ⟨_, rfl⟩
  have HB := hid hB
  have hle : B ≤ w.heap.size := by omega
  clear hB
  go_enter Tryd.func18, Tryd.ntmps18
  go_wp2
  go_loopw [3, 5] (fun o k wr => ∃ j : Nat, j ≤ 32 ∧ k = .int .i64 j ∧ wr.ownsRow B 3 1 o (listP x.testBit j).length ((listP x.testBit j).map (Value.int .i64)) ∧ Below B w wr) (fun _ k _ => 32 - (intOf k).toNat)
  case atStart => exact ⟨0, Nat.zero_le _, rfl, ⟨rfl, .inl ⟨rfl, rfl⟩⟩, Below.refl _ _⟩
  case round =>
    obtain ⟨j, hj, rfl, hown, hbel⟩ := hrel
    have hsz := hbel.size
    have hll := listP_len x.testBit j
    by_cases hlt : j < 32
    · have hh := hid (fun W => has_yes x j W hx hlt)
      cases hb : x.testBit j
      · rw [hb] at hh
        have hn := hid (listP_no hb)
        clear hb
        go_wp2_with (go_at_call 20; refine (hh.out _).mono ?_; rintro e w' ⟨rfl, rfl⟩)
        go_roundw
        case rel => exact ⟨j + 1, by omega, by go_num, by rw [hn.out]; exact hown, hbel⟩
        case measure => simp [intOf]; omega
      · rw [hb] at hh
        have hn := hid (listP_yes hb)
        clear hb
        go_wp2_with (first | (go_at_call 20; refine (hh.out _).mono ?_; rintro e w' ⟨rfl, rfl⟩) | (at_builtin; refine wpList_append_own _ rfl _ _ 29 rfl B 3 i0 (.int .i64 0) 1 8 Tryd.underlying29 hi hz0 hz1 hz2 rfl (by decide) _ _ _ rfl (hown.alloc _) ⟨wr.heap.size, 0, none⟩ 1 1 [.int .i64 j] rfl rfl ?c1 ?c2 ?c3 ?c4 ?c5 ?_))
        case c1 => exact cell_one_new _ _ _
        case c2 => simp [Value.oneCell']
        case c3 => unfold maxLen; omega
        case c4 => omega
        case c5 => simp; omega
        intro v' w1 hown1 hgrow _
        have hown2 : w1.ownsRow B 3 1 v' (listP x.testBit (j + 1)).length ((listP x.testBit (j + 1)).map (Value.int .i64)) := by rw [hn.out, List.map_append, List.length_append]; exact hown1
        have hbel2 : Below B w w1 := (hbel.alloc (by omega) _).grown hgrow (by simp; omega) (fun k hk => (hown.lt k hk).1)
        clear hown hown1 hgrow hbel
        go_wp2
        go_roundw
        case rel => exact ⟨j + 1, by omega, by go_num, hown2, hbel2⟩
        case measure => simp [intOf]; omega
    · obtain rfl : j = 32 := by omega
      go_wp2_with fail
      go_ret
      rw [HB.out] at hbel
      exact ⟨_, rfl, RdI.of_own hown, hbel⟩
theorem setLen_any (x : Nat) (w : World) (hx : x < 4294967296) :
    Calls Tryd.prog 19 #[.int .u32 x] w fun e w' => e = .returned (.int .i64 ((listP x.testBit 32).length : Nat)) ∧ Below w.heap.size w w' := by
  have hl := hid (fun W => setList_any x W hx)
  have hll := listP_len x.testBit 32
  go_enter Tryd.func19, Tryd.ntmps19
  go_wp2_with fail
  refine (hl.out _).mono ?_
  rintro e w1 ⟨v, rfl, ⟨a, cap, rfl, -⟩, hb⟩
  go_wp2_with fail
  go_ret
  exact ⟨rfl, hb⟩
theorem first_some (x r : Nat) (w : World) (hx : x < 4294967296) (hr : r < 32) (ht : x.testBit r = true) (hn : ∀ i, i < r → x.testBit i = false) :
    Calls Tryd.prog 16 #[.int .u32 x] w fun e w' => e = .returned (.tuple #[.int .i64 (r : Nat), .bool true]) ∧ w = w' := by
  have Hn := hid hn
  clear hn
  have Ht := hid ht
  clear ht
  go_enter Tryd.func16, Tryd.ntmps16
  go_wp2
  go_loop [4, 5] (fun _ k => ∃ j : Nat, j ≤ r ∧ k = .int .i64 j) (fun _ k => 32 - (intOf k).toNat)
  case atStart => exact ⟨0, Nat.zero_le _, rfl⟩
  case round =>
    obtain ⟨j, hj, rfl⟩ := hrel
    have hh := hid (fun W => has_yes x j W hx (by omega))
    by_cases hlt : j < r
    · rw [Hn.out j hlt] at hh
      go_wp2_with (go_at_call 20; refine (hh.out _).mono ?_; rintro e w' ⟨rfl, rfl⟩)
      go_round
      case rel => exact ⟨j + 1, by omega, by go_num⟩
      case measure => simp [intOf]; omega
    · obtain rfl : r = j := by omega
      rw [Ht.out] at hh
      go_wp2_with (go_at_call 20; refine (hh.out _).mono ?_; rintro e w' ⟨rfl, rfl⟩)
      go_ret2
      exact ⟨rfl, rfl⟩
theorem first_none (x : Nat) (w : World) (hx : x < 4294967296) (hn : ∀ i, i < 32 → x.testBit i = false) :
    Calls Tryd.prog 16 #[.int .u32 x] w fun e w' => e = .returned (.tuple #[.int .i64 0, .bool false]) ∧ w = w' := by
  have Hn := hid hn
  clear hn
  go_enter Tryd.func16, Tryd.ntmps16
  go_wp2
  go_loop [4, 5] (fun _ k => ∃ j : Nat, j ≤ 32 ∧ k = .int .i64 j) (fun _ k => 32 - (intOf k).toNat)
  case atStart => exact ⟨0, Nat.zero_le _, rfl⟩
  case round =>
    obtain ⟨j, hj, rfl⟩ := hrel
    by_cases hlt : j < 32
    · have hh := hid (fun W => has_yes x j W hx (by omega))
      rw [Hn.out j hlt] at hh
      go_wp2_with (go_at_call 20; refine (hh.out _).mono ?_; rintro e w' ⟨rfl, rfl⟩)
      go_round
      case rel => exact ⟨j + 1, by omega, by go_num⟩
      case measure => simp [intOf]; omega
    · obtain rfl : j = 32 := by omega
      go_wp2_with fail
      go_ret2
      exact ⟨rfl, rfl⟩
theorem regParse_some (s : ByteArray) (r : Nat) (w : World) (ha : AbiIs w) (hr : r < 32) (h : isNameB s r = true) (hn : ∀ i, i < r → isNameB s i = false) :
    Calls Tryd.prog 12 #[.string s] w fun e w' => e = .returned (.tuple #[.int .i64 (r : Nat), .bool true]) ∧ w = w' :=
  (regParse_any s w ha).mono fun e w' ⟨hw, hh⟩ => by
    refine ⟨?_, hw⟩
    rcases hh with ⟨r', hr', h', hn', rfl⟩ | ⟨hn', _⟩
    · obtain rfl : r' = r := by
        rcases Nat.lt_trichotomy r r' with hl | hl | hl
        · rw [hn' r hl] at h; cases h
        · exact hl.symm
        · rw [hn r' hl] at h'; cases h'
      rfl
    · rw [hn' r hr] at h; cases h
theorem regParse_none (s : ByteArray) (w : World) (ha : AbiIs w) (hn : ∀ i, i < 32 → isNameB s i = false) :
    Calls Tryd.prog 12 #[.string s] w fun e w' => e = .returned (.tuple #[.int .i64 0, .bool false]) ∧ w = w' :=
  (regParse_any s w ha).mono fun e w' ⟨hw, hh⟩ => by
    refine ⟨?_, hw⟩
    rcases hh with ⟨r', hr', h', _, rfl⟩ | ⟨_, rfl⟩
    · rw [hn r' hr'] at h'; cases h'
    · rfl
end Go.Proofs.YtpjpcddjbebhjaaDoor
