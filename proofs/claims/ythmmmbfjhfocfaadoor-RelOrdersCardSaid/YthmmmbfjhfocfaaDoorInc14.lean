/- include, Union of package rel. -/
import Derived.Test.YthmmmbfjhfocfaaDoorPrs14
import Derived.StillTailTactics
namespace Go.Proofs.YthmmmbfjhfocfaaDoor
open Go Go.RowKit
set_option linter.unusedVariables false
set_option linter.unusedSimpArgs false

/-- An end of a piece of code: these slots, and a world of which R holds. -/
def AtR (A : Act) (R : World → Prop) : Exit → Act → World → Prop := fun e a w => e = .normal ∧ a = A ∧ R w
/-- The pairs of m, and those of m' whose first component is below j, within n elements. -/
def incJ (n : Nat) (m m' : Nat → Nat → Bool) (j : Nat) : Nat → Nat → Bool := fun a b => m a b || (decide (a < j) && m' a b && decide (b < n))
theorem incJ_0 (n : Nat) (m m' : Nat → Nat → Bool) : incJ n m m' 0 = m := by funext a b; simp [incJ]
theorem incJ_row {n : Nat} {m m' : Nat → Nat → Bool} {j : Nat} (hm : ∀ a b, m a b = true → a < n ∧ b < n) : updF (updF (incJ n m m' j) j (fun x => incJ n m m' j j x || m' j x)) j (fun x => (incJ n m m' j j x || m' j x) && elF n x) = incJ n m m' (j + 1) := by
  funext a b
  by_cases ha : a = j
  · subst ha
    rw [updF_same]
    unfold incJ elF
    rw [decide_eq_false (Nat.lt_irrefl a), decide_eq_true (Nat.lt_succ_self a)]
    cases h1 : m a b
    · simp
    · have := (hm a b h1).2
      simp [this]
  · rw [updF_other _ _ ha, updF_other _ _ ha]
    unfold incJ
    have : decide (a < j + 1) = decide (a < j) := by
      by_cases h : a < j
      · rw [decide_eq_true h, decide_eq_true (by omega)]
      · rw [decide_eq_false h, decide_eq_false (by omega)]
    rw [this]
theorem incJ_in {n : Nat} {m m' : Nat → Nat → Bool} {j : Nat} (hj : j ≤ n) (hm : ∀ a b, m a b = true → a < n ∧ b < n) : ∀ a b, incJ n m m' j a b = true → a < n ∧ b < n := fun a b h => by
  unfold incJ at h
  rcases Bool.or_eq_true_iff.1 h with h | h
  · exact hm a b h
  · simp at h; omega
set_option maxRecDepth 100000 in
set_option maxHeartbeats 4000000 in
theorem include_lt {w : World} {b0 b1 n c0 c1 n' : Nat} {m m' : Nat → Nat → Bool} {q : Option Addr} (h : RelC w b0 b1 n m) (h' : RelP w q c0 c1 n' m') (hd : q ≠ none → b1 ≠ c0 ∧ b1 ≠ c1) (hk : n' < n) :
    Calls Tryd.prog 36 #[.pointer (some ⟨b0, 0, none⟩), .pointer q] w fun e w' => e = .returned (.tuple #[]) ∧ RelC w' b0 b1 n (incJ n m m' n') ∧ Fr [b1] w w' := by
  have HL := hid (len_ret h.v)
  have HL2 := hid (len_ret h'.v)
  have hn5 := h.n512
  have Hh := hid h
  have Hh' := hid h'
  have Hd := hid hd
  clear h h' hd
  go_enter Tryd.func36, Tryd.ntmps36
  go_wp2_with (first | (go_at_call 10; refine HL.out.mono ?_; clear HL; rintro e' w2 ⟨rfl, rfl⟩) | (go_at_call 10; refine HL2.out.mono ?_; clear HL2; rintro e' w2 ⟨rfl, rfl⟩))
  go_loopw [10] (fun v wr => ∃ j : Nat, j ≤ n' ∧ v = .int .i64 j ∧ RelC wr b0 b1 n (incJ n m m' j) ∧ Fr [b1] w2 wr) (fun v _ => n' - (intOf v).toNat)
  case atStart => exact ⟨0, Nat.zero_le _, rfl, by rw [incJ_0]; exact Hh.out, Fr.refl _ _⟩
  case round =>
    obtain ⟨j, hj, rfl, hr, hf⟩ := hrel
    by_cases hlt : j < n'
    · obtain ⟨rfl, hs0⟩ := Hh'.out.nz (by omega)
      obtain ⟨d0, d1⟩ := Hd.out (by simp)
      have hs := hs0.fr hf (by simpa using d0.symm) (by simpa using d1.symm)
      have q1 : j < n := by omega
      have q2 : j < n' := by omega
      have c1' := hr.rcell
      have c2' := hs.rcell
      have HJ := hid (fun (W : World) (h1 : Hb W b1 55 (n * 8) (rowsV (incJ n m m' j))) (h2 : Hb W c1 55 (n' * 8) (rowsV m')) => sjoin h1 (hr.row (by omega : j < n)) (by omega) (g := m' j) (fun i hi => by rw [h2.cell (by omega : j * 8 + i < n' * 8), hs.row (by omega : j < n') i hi]) (.inl d1.symm) h2.lt (fun e => absurd e.symm d1))
      have Hr := hid hr
      have Hs := hid hs
      have Hf := hid hf
      clear hr hs hf hs0
      go_wp2
      refine wp_mono (Q := AtR { tmps := #[.pointer (some ⟨b0, 0, none⟩), .pointer (some ⟨c0, 0, none⟩), undef, undef, .int .i64 j, .pointer (some ⟨b0, 0, none⟩), .int .i64 n, .pointer (some ⟨c0, 0, none⟩), .int .i64 n', .int .i64 n', .int .i64 j, .bool true, .int .i64 j, .pointer (some ⟨b0, 0, none⟩), .pointer (some ⟨b0, 0, none⟩), .pointer (some ⟨b0, 8, none⟩), .slice (some ⟨b1, 0, none⟩) n n, .int .i64 j, .pointer (some ⟨b1, j * 8, none⟩), .pointer (some ⟨c0, 0, none⟩), .pointer (some ⟨c0, 0, none⟩), .pointer (some ⟨c0, 8, none⟩), .slice (some ⟨c1, 0, none⟩) n' n', .int .i64 j, .pointer (some ⟨c1, j * 8, none⟩), .tuple #[], u26, u27, u28, u29, u30, u31, u32, u33, u34, u35, u36], defers := [] } (fun W => Hb W b1 55 (n * 8) (setF (rowsV (incJ n m m' j)) (j * 8) (fun x => incJ n m m' j j x || m' j x)) ∧ Fr [b1] wr W)) ?reg ?cont
      case reg =>
        go_still_tail 12, (by kernel_rfl)
        go_wp2_with (go_at_call 37; refine (HJ.out _ (by exact Hr.out.rows) (by exact Hs.out.rows)).mono ?_; rintro e' w3 ⟨rfl, h3, f3⟩)
        exact ⟨rfl, rfl, h3, f3.of_drawn⟩
      rintro _ _ w3 ⟨rfl, rfl, h3, f3⟩
      rw [rows_set] at h3
      have e3 := (Hr.out.hd.fr f3 (by simpa using Hr.out.ne))
      have c3' := e3.cell (i := 8) (by omega)
      have HK := hid (fun (W : World) (h1 : Hb W b1 55 (n * 8) (rowsV (updF (incJ n m m' j) j (fun x => incJ n m m' j j x || m' j x)))) (h2 : Hb W b0 57 9 (relV b1 n)) => skeep (f := fun x => incJ n m m' j j x || m' j x) h1 (fun i hi => by unfold rowsV; rw [show (j * 8 + i) / 8 = j by omega, show (j * 8 + i) % 8 = i by omega, updF_same]) (by omega) (b2 := b0) (o2 := 0) (g := elF n) (fun i hi => by rw [h2.cell (by omega), Hr.out.els i hi]) (.inl Hr.out.ne) h2.lt (fun e => absurd e Hr.out.ne))
      have e3' : relV b1 n 8 = .slice (some ⟨b1, 0, none⟩) n n := rfl
      rw [e3'] at c3'
      have H3 := hid h3
      have E3 := hid e3
      clear h3 e3 e3' c1' c2'
      go_wp2
      refine wp_mono (Q := AtR { tmps := #[.pointer (some ⟨b0, 0, none⟩), .pointer (some ⟨c0, 0, none⟩), undef, undef, .int .i64 j, .pointer (some ⟨b0, 0, none⟩), .int .i64 n, .pointer (some ⟨c0, 0, none⟩), .int .i64 n', .int .i64 n', .int .i64 j, .bool true, .int .i64 j, .pointer (some ⟨b0, 0, none⟩), .pointer (some ⟨b0, 0, none⟩), .pointer (some ⟨b0, 8, none⟩), .slice (some ⟨b1, 0, none⟩) n n, .int .i64 j, .pointer (some ⟨b1, j * 8, none⟩), .pointer (some ⟨c0, 0, none⟩), .pointer (some ⟨c0, 0, none⟩), .pointer (some ⟨c0, 8, none⟩), .slice (some ⟨c1, 0, none⟩) n' n', .int .i64 j, .pointer (some ⟨c1, j * 8, none⟩), .tuple #[], .pointer (some ⟨b0, 0, none⟩), .pointer (some ⟨b0, 0, none⟩), .pointer (some ⟨b0, 8, none⟩), .slice (some ⟨b1, 0, none⟩) n n, .int .i64 j, .pointer (some ⟨b1, j * 8, none⟩), .pointer (some ⟨b0, 0, none⟩), .pointer (some ⟨b0, 0, none⟩), .pointer (some ⟨b0, 0, none⟩), .tuple #[], u36], defers := [] } (fun W => Hb W b1 55 (n * 8) (setF (rowsV (updF (incJ n m m' j) j (fun x => incJ n m m' j j x || m' j x))) (j * 8) (fun x => (incJ n m m' j j x || m' j x) && elF n x)) ∧ Fr [b1] w3 W)) ?reg2 ?cont2
      case reg2 =>
        go_still_tail 9, (by kernel_rfl)
        go_wp2_with (go_at_call 38; refine (HK.out _ (by exact H3.out) (by exact E3.out)).mono ?_; rintro e' w4 ⟨rfl, h4, f4⟩)
        exact ⟨rfl, rfl, h4, f4.of_drawn⟩
      rintro _ _ w4 ⟨rfl, rfl, h4, f4⟩
      rw [rows_set, incJ_row Hh.out.inn] at h4
      have hr4 : RelC w4 b0 b1 n (incJ n m m' (j + 1)) := ⟨E3.out.fr f4 (by simpa using Hr.out.ne), h4, Hr.out.ne, Hr.out.n512, incJ_in (by omega) Hh.out.inn⟩
      have hf4 : Fr [b1] w2 w4 := (Hf.out.trans f3).trans f4
      clear h4
      go_wp2
      go_roundw
      case rel => exact ⟨j + 1, by omega, by go_num, hr4, hf4⟩
      case measure => simp [intOf]; omega
    · obtain rfl : j = n' := by omega
      go_wp2
      go_end0
      exact ⟨rfl, hr, hf⟩
set_option maxRecDepth 100000 in
set_option maxHeartbeats 4000000 in
theorem include_le {w : World} {b0 b1 n c0 c1 n' : Nat} {m m' : Nat → Nat → Bool} {q : Option Addr} (h : RelC w b0 b1 n m) (h' : RelP w q c0 c1 n' m') (hd : q ≠ none → b1 ≠ c0 ∧ b1 ≠ c1) (hk : n ≤ n') :
    Calls Tryd.prog 36 #[.pointer (some ⟨b0, 0, none⟩), .pointer q] w fun e w' => e = .returned (.tuple #[]) ∧ RelC w' b0 b1 n (incJ n m m' n) ∧ Fr [b1] w w' := by
  have HL := hid (len_ret h.v)
  have HL2 := hid (len_ret h'.v)
  have hn5 := h.n512
  have Hh := hid h
  have Hh' := hid h'
  have Hd := hid hd
  clear h h' hd
  go_enter Tryd.func36, Tryd.ntmps36
  go_wp2_with (first | (go_at_call 10; refine HL.out.mono ?_; clear HL; rintro e' w2 ⟨rfl, rfl⟩) | (go_at_call 10; refine HL2.out.mono ?_; clear HL2; rintro e' w2 ⟨rfl, rfl⟩))
  go_loopw [10] (fun v wr => ∃ j : Nat, j ≤ n ∧ v = .int .i64 j ∧ RelC wr b0 b1 n (incJ n m m' j) ∧ Fr [b1] w2 wr) (fun v _ => n - (intOf v).toNat)
  case atStart => exact ⟨0, Nat.zero_le _, rfl, by rw [incJ_0]; exact Hh.out, Fr.refl _ _⟩
  case round =>
    obtain ⟨j, hj, rfl, hr, hf⟩ := hrel
    by_cases hlt : j < n
    · obtain ⟨rfl, hs0⟩ := Hh'.out.nz (by omega)
      obtain ⟨d0, d1⟩ := Hd.out (by simp)
      have hs := hs0.fr hf (by simpa using d0.symm) (by simpa using d1.symm)
      have q1 : j < n := by omega
      have q2 : j < n' := by omega
      have c1' := hr.rcell
      have c2' := hs.rcell
      have HJ := hid (fun (W : World) (h1 : Hb W b1 55 (n * 8) (rowsV (incJ n m m' j))) (h2 : Hb W c1 55 (n' * 8) (rowsV m')) => sjoin h1 (hr.row (by omega : j < n)) (by omega) (g := m' j) (fun i hi => by rw [h2.cell (by omega : j * 8 + i < n' * 8), hs.row (by omega : j < n') i hi]) (.inl d1.symm) h2.lt (fun e => absurd e.symm d1))
      have Hr := hid hr
      have Hs := hid hs
      have Hf := hid hf
      clear hr hs hf hs0
      go_wp2
      refine wp_mono (Q := AtR { tmps := #[.pointer (some ⟨b0, 0, none⟩), .pointer (some ⟨c0, 0, none⟩), undef, undef, .int .i64 j, .pointer (some ⟨b0, 0, none⟩), .int .i64 n, .pointer (some ⟨c0, 0, none⟩), .int .i64 n', .int .i64 n, .int .i64 j, .bool true, .int .i64 j, .pointer (some ⟨b0, 0, none⟩), .pointer (some ⟨b0, 0, none⟩), .pointer (some ⟨b0, 8, none⟩), .slice (some ⟨b1, 0, none⟩) n n, .int .i64 j, .pointer (some ⟨b1, j * 8, none⟩), .pointer (some ⟨c0, 0, none⟩), .pointer (some ⟨c0, 0, none⟩), .pointer (some ⟨c0, 8, none⟩), .slice (some ⟨c1, 0, none⟩) n' n', .int .i64 j, .pointer (some ⟨c1, j * 8, none⟩), .tuple #[], u26, u27, u28, u29, u30, u31, u32, u33, u34, u35, u36], defers := [] } (fun W => Hb W b1 55 (n * 8) (setF (rowsV (incJ n m m' j)) (j * 8) (fun x => incJ n m m' j j x || m' j x)) ∧ Fr [b1] wr W)) ?reg ?cont
      case reg =>
        go_still_tail 12, (by kernel_rfl)
        go_wp2_with (go_at_call 37; refine (HJ.out _ (by exact Hr.out.rows) (by exact Hs.out.rows)).mono ?_; rintro e' w3 ⟨rfl, h3, f3⟩)
        exact ⟨rfl, rfl, h3, f3.of_drawn⟩
      rintro _ _ w3 ⟨rfl, rfl, h3, f3⟩
      rw [rows_set] at h3
      have e3 := (Hr.out.hd.fr f3 (by simpa using Hr.out.ne))
      have c3' := e3.cell (i := 8) (by omega)
      have HK := hid (fun (W : World) (h1 : Hb W b1 55 (n * 8) (rowsV (updF (incJ n m m' j) j (fun x => incJ n m m' j j x || m' j x)))) (h2 : Hb W b0 57 9 (relV b1 n)) => skeep (f := fun x => incJ n m m' j j x || m' j x) h1 (fun i hi => by unfold rowsV; rw [show (j * 8 + i) / 8 = j by omega, show (j * 8 + i) % 8 = i by omega, updF_same]) (by omega) (b2 := b0) (o2 := 0) (g := elF n) (fun i hi => by rw [h2.cell (by omega), Hr.out.els i hi]) (.inl Hr.out.ne) h2.lt (fun e => absurd e Hr.out.ne))
      have e3' : relV b1 n 8 = .slice (some ⟨b1, 0, none⟩) n n := rfl
      rw [e3'] at c3'
      have H3 := hid h3
      have E3 := hid e3
      clear h3 e3 e3' c1' c2'
      go_wp2
      refine wp_mono (Q := AtR { tmps := #[.pointer (some ⟨b0, 0, none⟩), .pointer (some ⟨c0, 0, none⟩), undef, undef, .int .i64 j, .pointer (some ⟨b0, 0, none⟩), .int .i64 n, .pointer (some ⟨c0, 0, none⟩), .int .i64 n', .int .i64 n, .int .i64 j, .bool true, .int .i64 j, .pointer (some ⟨b0, 0, none⟩), .pointer (some ⟨b0, 0, none⟩), .pointer (some ⟨b0, 8, none⟩), .slice (some ⟨b1, 0, none⟩) n n, .int .i64 j, .pointer (some ⟨b1, j * 8, none⟩), .pointer (some ⟨c0, 0, none⟩), .pointer (some ⟨c0, 0, none⟩), .pointer (some ⟨c0, 8, none⟩), .slice (some ⟨c1, 0, none⟩) n' n', .int .i64 j, .pointer (some ⟨c1, j * 8, none⟩), .tuple #[], .pointer (some ⟨b0, 0, none⟩), .pointer (some ⟨b0, 0, none⟩), .pointer (some ⟨b0, 8, none⟩), .slice (some ⟨b1, 0, none⟩) n n, .int .i64 j, .pointer (some ⟨b1, j * 8, none⟩), .pointer (some ⟨b0, 0, none⟩), .pointer (some ⟨b0, 0, none⟩), .pointer (some ⟨b0, 0, none⟩), .tuple #[], u36], defers := [] } (fun W => Hb W b1 55 (n * 8) (setF (rowsV (updF (incJ n m m' j) j (fun x => incJ n m m' j j x || m' j x))) (j * 8) (fun x => (incJ n m m' j j x || m' j x) && elF n x)) ∧ Fr [b1] w3 W)) ?reg2 ?cont2
      case reg2 =>
        go_still_tail 9, (by kernel_rfl)
        go_wp2_with (go_at_call 38; refine (HK.out _ (by exact H3.out) (by exact E3.out)).mono ?_; rintro e' w4 ⟨rfl, h4, f4⟩)
        exact ⟨rfl, rfl, h4, f4.of_drawn⟩
      rintro _ _ w4 ⟨rfl, rfl, h4, f4⟩
      rw [rows_set, incJ_row Hh.out.inn] at h4
      have hr4 : RelC w4 b0 b1 n (incJ n m m' (j + 1)) := ⟨E3.out.fr f4 (by simpa using Hr.out.ne), h4, Hr.out.ne, Hr.out.n512, incJ_in (by omega) Hh.out.inn⟩
      have hf4 : Fr [b1] w2 w4 := (Hf.out.trans f3).trans f4
      clear h4
      go_wp2
      go_roundw
      case rel => exact ⟨j + 1, by omega, by go_num, hr4, hf4⟩
      case measure => simp [intOf]; omega
    · obtain rfl : j = n := by omega
      go_wp2
      go_end0
      exact ⟨rfl, hr, hf⟩
theorem include_ret {w : World} {b0 b1 n c0 c1 n' : Nat} {m m' : Nat → Nat → Bool} {q : Option Addr} (h : RelC w b0 b1 n m) (h' : RelP w q c0 c1 n' m') (hd : q ≠ none → b1 ≠ c0 ∧ b1 ≠ c1) :
    Calls Tryd.prog 36 #[.pointer (some ⟨b0, 0, none⟩), .pointer q] w fun e w' => e = .returned (.tuple #[]) ∧ RelC w' b0 b1 n (incJ n m m' (min n n')) ∧ Fr [b1] w w' := by
  by_cases hk : n' < n
  · rw [Nat.min_eq_right (by omega)]; exact include_lt h h' hd hk
  · rw [Nat.min_eq_left (by omega)]; exact include_le h h' hd (by omega)
end Go.Proofs.YthmmmbfjhfocfaaDoor
