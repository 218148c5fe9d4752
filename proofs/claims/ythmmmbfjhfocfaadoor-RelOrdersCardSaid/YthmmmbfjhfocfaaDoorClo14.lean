/- Closure of package rel. -/
import Derived.Test.YthmmmbfjhfocfaaDoorUni14
namespace Go.Proofs.YthmmmbfjhfocfaaDoor
open Go Go.RowKit
set_option linter.unusedVariables false
set_option linter.unusedSimpArgs false

/-- One step: what x leads to, a leads to, if there is a pair (a, x). -/
def wsA (m : Nat → Nat → Bool) (x a : Nat) : Nat → Nat → Bool := if m a x = true then updF m a (fun y => m a y || m x y) else m
def wsI (m : Nat → Nat → Bool) (x : Nat) : Nat → Nat → Nat → Bool
  | 0 => m
  | a + 1 => wsA (wsI m x a) x a
def wsO (m : Nat → Nat → Bool) (n : Nat) : Nat → Nat → Nat → Bool
  | 0 => m
  | x + 1 => wsI (wsO m n x) x n
theorem wsA_in {m : Nat → Nat → Bool} {n x a : Nat} (ha : a < n) (hm : ∀ a b, m a b = true → a < n ∧ b < n) : ∀ p q, wsA m x a p q = true → p < n ∧ q < n := fun p q h => by
  unfold wsA at h
  split at h
  · by_cases hp : p = a
    · subst hp
      rw [updF_same] at h
      rcases Bool.or_eq_true_iff.1 h with h | h
      · exact hm _ _ h
      · exact ⟨ha, (hm _ _ h).2⟩
    · rw [updF_other _ _ hp] at h; exact hm _ _ h
  · exact hm _ _ h
set_option maxRecDepth 100000 in
set_option maxHeartbeats 4000000 in
theorem closure_ret {w : World} {p : Option Addr} {b0 b1 n : Nat} {m : Nat → Nat → Bool} (h : RelP w p b0 b1 n m) : Calls Tryd.prog 23 #[.pointer p] w (MkR w n (wsO m n n)) := by
  have HU := hid (union0_ret h)
  have hn5 := h.n512
  clear h
  go_enter Tryd.func23, Tryd.ntmps23
  go_wp2_with (go_at_call 20; refine HU.out.mono ?_; rintro e' w1 ⟨d0, d1, rfl, hr1, hd0, hd1, hb1⟩; refine Hid.out ?_)
  have c1 := hr1.rcell
  have Hr1 := hid hr1
  have HBl1 := hid hb1
  clear hr1 hb1
  refine hid ?_
  go_wp2
  go_loopw [13] (fun v wr => ∃ x : Nat, x ≤ n ∧ v = .int .i64 x ∧ RelC wr d0 d1 n (wsO m n x) ∧ Below w.heap.size w wr) (fun v _ => n - (intOf v).toNat)
  case atStart => exact ⟨0, Nat.zero_le _, rfl, Hr1.out, HBl1.out⟩
  case round =>
    obtain ⟨x, hx, rfl, hr, hb⟩ := hrel
    by_cases hlt : x < n
    · have c2 := hr.rcell
      have Hr := hid hr
      have HBl := hid hb
      clear hr hb
      go_wp2
      go_loopw [21] (fun v wr => ∃ a : Nat, a ≤ n ∧ v = .int .i64 a ∧ RelC wr d0 d1 n (wsI (wsO m n x) x a) ∧ Below w.heap.size w wr) (fun v _ => n - (intOf v).toNat)
      case atStart => exact ⟨0, Nat.zero_le _, rfl, Hr.out, HBl.out⟩
      case round =>
        obtain ⟨a, ha, rfl, hr, hb⟩ := hrel
        by_cases hla : a < n
        · have c3 := hr.rcell
          have HH := hid (shas hr.rows (hr.row hla) (e := x) (by omega) (by omega))
          obtain ⟨mm, hmm⟩ : ∃ mm, mm = wsI (wsO m n x) x a := ⟨_, rfl⟩
          have hst : wsI (wsO m n x) x (a + 1) = wsA mm x a := by rw [hmm]; rfl
          rw [← hmm] at hr HH
          have HJ := hid (fun (W : World) (h1 : Hb W d1 55 (n * 8) (rowsV mm)) => sjoin h1 (hr.row hla) (by omega) (b2 := d1) (o2 := x * 8) (g := mm x) (fun i hi => by rw [h1.cell (by omega : x * 8 + i < n * 8), hr.row hlt i hi]) (by omega) h1.lt (fun _ => by omega))
          have Hr := hid hr
          have HBl := hid hb
          have Hst := hid hst
          clear hr hb hst hmm
          cases hax : mm a x
          · rw [hax] at HH
            go_wp2_with (go_at_call 34; refine HH.out.mono ?_; rintro e' w5 ⟨rfl, rfl⟩)
            have hn : RelC w5 d0 d1 n (wsI (wsO m n x) x (a + 1)) := by
              rw [Hst.out]; unfold wsA; rw [if_neg (by rw [hax]; simp)]; exact Hr.out
            go_roundw
            case rel => exact ⟨a + 1, by omega, by go_num, hn, HBl.out⟩
            case measure => simp [intOf]; omega
          · rw [hax] at HH
            go_wp2_with (go_at_call 34; refine HH.out.mono ?_; rintro e' w5 ⟨rfl, rfl⟩)
            refine wp_mono (Q := AtR { tmps := #[.pointer p, undef, .pointer none, .pointer (some ⟨d0, 0, none⟩), .int .i64 x, .int .i64 a, .pointer p, .pointer (some ⟨d0, 0, none⟩), .pointer (some ⟨d0, 0, none⟩), .pointer (some ⟨d0, 0, none⟩), .pointer (some ⟨d0, 8, none⟩), .slice (some ⟨d1, 0, none⟩) n n, .int .i64 n, .int .i64 x, .bool true, .int .i64 x, .pointer (some ⟨d0, 0, none⟩), .pointer (some ⟨d0, 0, none⟩), .pointer (some ⟨d0, 8, none⟩), .slice (some ⟨d1, 0, none⟩) n n, .int .i64 n, .int .i64 a, .bool true, .int .i64 a, .pointer (some ⟨d0, 0, none⟩), .pointer (some ⟨d0, 0, none⟩), .pointer (some ⟨d0, 8, none⟩), .slice (some ⟨d1, 0, none⟩) n n, .int .i64 a, .pointer (some ⟨d1, a * 8, none⟩), .int .i64 x, .bool true, .pointer (some ⟨d0, 0, none⟩), .pointer (some ⟨d0, 0, none⟩), .pointer (some ⟨d0, 8, none⟩), .slice (some ⟨d1, 0, none⟩) n n, .int .i64 a, .pointer (some ⟨d1, a * 8, none⟩), .pointer (some ⟨d0, 0, none⟩), .pointer (some ⟨d0, 0, none⟩), .pointer (some ⟨d0, 8, none⟩), .slice (some ⟨d1, 0, none⟩) n n, .int .i64 x, .pointer (some ⟨d1, x * 8, none⟩), .tuple #[], u45, u46, undef], defers := [] } (fun W => Hb W d1 55 (n * 8) (setF (rowsV mm) (a * 8) (fun y => mm a y || mm x y)) ∧ Fr [d1] w5 W)) ?reg ?cont
            case reg =>
              go_still_tail 12, (by kernel_rfl)
              go_wp2_with (go_at_call 37; refine (HJ.out _ (by exact Hr.out.rows)).mono ?_; rintro e' w6 ⟨rfl, h6, f6⟩)
              exact ⟨rfl, rfl, h6, f6.of_drawn⟩
            rintro _ _ w6 ⟨rfl, rfl, h6, f6⟩
            have hn : RelC w6 d0 d1 n (wsI (wsO m n x) x (a + 1)) := by
              rw [Hst.out]; unfold wsA; rw [if_pos hax]
              exact Hr.out.put hla (fun y hy => by
                rcases Bool.or_eq_true_iff.1 hy with h | h
                · exact (Hr.out.inn _ _ h).2
                · exact (Hr.out.inn _ _ h).2) h6 f6
            have hb6 := Fr.below HBl.out f6 (by have := HBl.out.size; omega) (by simpa using hd1)
            clear h6
            go_wp2
            go_roundw
            case rel => exact ⟨a + 1, by omega, by go_num, hn, hb6⟩
            case measure => simp [intOf]; omega
        · obtain rfl : a = n := by omega
          go_wp2
          go_roundw
          case rel => exact ⟨x + 1, by omega, by go_num, hr, hb⟩
          case measure => simp [intOf]; omega
    · obtain rfl : x = n := by omega
      go_wp2
      go_ret
      exact ⟨d0, d1, rfl, hr, hd0, hd1, hb⟩
end Go.Proofs.YthmmmbfjhfocfaaDoor
