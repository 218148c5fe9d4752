/- Rul16, Rfr16. -/
import Derived.Test.YtchjjbcmbdmlgaaK01
import Derived.Test.YtchjjbcmbdmlgaaOrw16
set_option linter.unusedVariables false
set_option linter.unusedSimpArgs false
namespace Go.Proofs.Ytchjjbcmbdmlgaa
open Go Go.RowKit Sim
section
variable {w : World} {B sb : Nat} {s : SpZ} {ps : List (Int × Int)} {e m : EvZ} {va vd vc va' vd' vc' : Value} {b o na nd nc : Nat} {Fa Fd Fc : Nat → Int}
theorem orders_w (H : OrC w B sb s ps e m va vd vc va' vd' vc' b o na nd nc Fa Fd Fc) (hlen : ps.length ≤ 10000) (k : Int) : Calls Try.prog 21 #[.pointer (some ⟨sb, 0, none⟩), .pointer (some ⟨b, o, none⟩), .int .i64 k] w (OrE w (ordZ s ps e m (inF Fa na s.ix) (inF Fd nd s.ix) (inF Fc nc s.ix) k)) := by
  by_cases hk : k < 1 ∨ 13 < k
  · have h := orders_none H k hk
    have e1 : ordZ s ps e m (inF Fa na s.ix) (inF Fd nd s.ix) (inF Fc nc s.ix) k = (memB e && (memB m && false)) := by
      unfold ordZ
      rcases hk with hk | hk
      · by_cases h0 : 0 ≤ k
        · obtain rfl : k = 0 := by omega
          rfl
        · rw [decide_eq_false h0, Bool.false_and]
      · obtain ⟨n, rfl⟩ : ∃ n : Nat, k = ((n + 14 : Nat) : Int) := ⟨(k - 14).toNat, by omega⟩
        rw [Int.toNat_natCast]
        have : ordR s ps e m (inF Fa na s.ix) (inF Fd nd s.ix) (inF Fc nc s.ix) (n + 14) = false := rfl
        rw [this, Bool.and_false]
    rw [e1]; exact h
  · have : k = 1 ∨ k = 2 ∨ k = 3 ∨ k = 4 ∨ k = 5 ∨ k = 6 ∨ k = 7 ∨ k = 8 ∨ k = 9 ∨ k = 10 ∨ k = 11 ∨ k = 12 ∨ k = 13 := by omega
    rcases this with rfl | rfl | rfl | rfl | rfl | rfl | rfl | rfl | rfl | rfl | rfl | rfl | rfl
    · exact orders_1 H
    · exact orders_2 H
    · exact orders_3 H
    · exact orders_4 H
    · exact orders_5 H
    · exact orders_6 H
    · exact orders_7 H
    · exact orders_8 H
    · exact orders_9 H
    · exact orders_10 H
    · exact orders_11 H
    · exact orders_12 H hlen
    · exact orders_13 H
def leastR (f : Int → Bool) : Nat → Nat → Int
  | 0, _ => 0
  | n + 1, k => if f k then (k : Int) else leastR f n (k + 1)
set_option maxHeartbeats 2000000 in
theorem rule_w (H : OrC w B sb s ps e m va vd vc va' vd' vc' b o na nd nc Fa Fd Fc) (hlen : ps.length ≤ 10000) (hsm : ∀ W, Below w.heap.size w W → OrC W B sb s ps e m va vd vc va' vd' vc' b o na nd nc Fa Fd Fc) : Calls Try.prog 20 #[.pointer (some ⟨sb, 0, none⟩), .pointer (some ⟨b, o, none⟩)] w (fun x w' => x = .returned (.int .i64 (leastR (ordZ s ps e m (inF Fa na s.ix) (inF Fd nd s.ix) (inF Fc nc s.ix)) 13 1)) ∧ Below w.heap.size w w') := by
  have HO := hid (fun W hW k => orders_w (hsm W hW) hlen k)
  clear hsm H
  generalize ordZ s ps e m (inF Fa na s.ix) (inF Fd nd s.ix) (inF Fc nc s.ix) = f at HO ⊢
  obtain ⟨r, hr⟩ : ∃ r, r = leastR f 13 1 := ⟨_, rfl⟩
  rw [← hr]
  have Hr := hid hr
  clear hr
  go_enter Try.func20, Try.ntmps20
  go_wp2
  go_loopw [5] (fun v wr => ∃ k : Nat, 1 ≤ k ∧ k ≤ 14 ∧ v = .int .i64 k ∧ r = leastR f (14 - k) k ∧ Below w.heap.size w wr) (fun v _ => 14 - (intOf v).toNat)
  case atStart => exact ⟨1, by omega, by omega, rfl, Hr.out, Below.refl _ _⟩
  case round =>
    obtain ⟨k, h1, h2, rfl, hr, hB⟩ := hrel
    have HR := hid hr
    have HB := hid hB
    clear hr hB
    by_cases hlt : k ≤ 13
    · have hO := hid (HO.out wr HB.out (k : Int))
      obtain ⟨u, hu⟩ : ∃ u, f (k : Int) = u := ⟨_, rfl⟩
      have HU := hid hu
      rw [hu] at hO
      clear hu
      have e1 : 14 - k = (13 - k) + 1 := by omega
      cases u
      · go_wp2_with (go_at_call 21; refine hO.out.mono ?_; rintro x w5 ⟨rfl, hB5⟩; have HB5 := hid (HB.out.trans (hB5.mono HB.out.size)); clear hB5)
        go_roundw
        case rel => exact ⟨k + 1, by omega, by omega, by go_num, by rw [HR.out, e1]; show (if f (k : Int) = true then _ else _) = _; rw [HU.out, show 14 - (k + 1) = 13 - k by omega]; rfl, HB5.out⟩
        case measure => simp [intOf]; omega
      · go_wp2_with (go_at_call 21; refine hO.out.mono ?_; rintro x w5 ⟨rfl, hB5⟩; have HB5 := hid (HB.out.trans (hB5.mono HB.out.size)); clear hB5)
        go_ret
        exact ⟨by rw [HR.out, e1]; show _ = Ending.returned (.int .i64 (if f (k : Int) = true then _ else _)); rw [HU.out]; rfl, HB5.out⟩
    · obtain rfl : k = 14 := by omega
      go_wp2
      go_ret
      exact ⟨by rw [HR.out]; rfl, HB.out⟩
end
end Go.Proofs.Ytchjjbcmbdmlgaa
namespace Go.Proofs.Ytchjjbcmbdmlgaa
open Go Go.RowKit
set_option maxHeartbeats 2000000 in
theorem refRule_of {v : Value} {a c : Int} {f : Int → Bool} (w : World) (HO : Hid (∀ W, Below w.heap.size w W → ∀ k : Int, Calls Try.prog 10 #[v, .int .i64 k, .int .i64 a, .int .i64 c] W (fun x w' => x = .returned (.bool (f k)) ∧ Below W.heap.size W w'))) :
    Calls Try.prog 8 #[v, .int .i64 a, .int .i64 c] w (fun x w' => x = .returned (.int .i64 (leastR f 13 1)) ∧ Below w.heap.size w w') := by
  obtain ⟨r, hr⟩ : ∃ r, r = leastR f 13 1 := ⟨_, rfl⟩
  rw [← hr]
  have Hr := hid hr
  clear hr
  go_enter Try.func8, Try.ntmps8
  go_wp2
  go_loopw [7] (fun v wr => ∃ k : Nat, 1 ≤ k ∧ k ≤ 14 ∧ v = .int .i64 k ∧ r = leastR f (14 - k) k ∧ Below w.heap.size w wr) (fun v _ => 14 - (intOf v).toNat)
  case atStart => exact ⟨1, by omega, by omega, rfl, Hr.out, Below.refl _ _⟩
  case round =>
    obtain ⟨k, h1, h2, rfl, hr, hB⟩ := hrel
    have HR := hid hr
    have HB := hid hB
    clear hr hB
    by_cases hlt : k ≤ 13
    · have hO := hid (HO.out wr HB.out (k : Int))
      obtain ⟨u, hu⟩ : ∃ u, f (k : Int) = u := ⟨_, rfl⟩
      have HU := hid hu
      rw [hu] at hO
      clear hu
      have e1 : 14 - k = (13 - k) + 1 := by omega
      cases u
      · go_wp2_with (go_at_call 10; refine hO.out.mono ?_; rintro x w5 ⟨rfl, hB5⟩; have HB5 := hid (HB.out.trans (hB5.mono HB.out.size)); clear hB5)
        go_roundw
        case rel => exact ⟨k + 1, by omega, by omega, by go_num, by rw [HR.out, e1]; show (if f (k : Int) = true then _ else _) = _; rw [HU.out, show 14 - (k + 1) = 13 - k by omega]; rfl, HB5.out⟩
        case measure => simp [intOf]; omega
      · go_wp2_with (go_at_call 10; refine hO.out.mono ?_; rintro x w5 ⟨rfl, hB5⟩; have HB5 := hid (HB.out.trans (hB5.mono HB.out.size)); clear hB5)
        go_ret
        exact ⟨by rw [HR.out, e1]; show _ = Ending.returned (.int .i64 (if f (k : Int) = true then _ else _)); rw [HU.out]; rfl, HB5.out⟩
    · obtain rfl : k = 14 := by omega
      go_wp2
      go_ret
      exact ⟨by rw [HR.out]; rfl, HB.out⟩
end Go.Proofs.Ytchjjbcmbdmlgaa
