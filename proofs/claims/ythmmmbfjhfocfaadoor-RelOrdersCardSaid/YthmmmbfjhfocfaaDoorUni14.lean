/- Union of package rel. -/
import Derived.Test.YthmmmbfjhfocfaaDoorInc14
namespace Go.Proofs.YthmmmbfjhfocfaaDoor
open Go Go.RowKit
set_option linter.unusedVariables false
set_option linter.unusedSimpArgs false

/-- The call makes a relation, its own. -/
def MkR (w : World) (n : Nat) (m : Nat → Nat → Bool) : Ending → World → Prop := fun e w' => ∃ b0 b1, e = .returned (.pointer (some ⟨b0, 0, none⟩)) ∧ RelC w' b0 b1 n m ∧ w.heap.size ≤ b0 ∧ w.heap.size ≤ b1 ∧ Below w.heap.size w w'
theorem RelP.inn {w : World} {p : Option Addr} {b0 b1 n : Nat} {m : Nat → Nat → Bool} (h : RelP w p b0 b1 n m) : ∀ a b, m a b = true → a < n ∧ b < n := by
  rcases h with ⟨_, _, rfl⟩ | ⟨_, h⟩
  · intro a b h; cases h
  · exact h.inn
theorem RelP.n512 {w : World} {p : Option Addr} {b0 b1 n : Nat} {m : Nat → Nat → Bool} (h : RelP w p b0 b1 n m) : n ≤ 512 := by
  rcases h with ⟨_, rfl, _⟩ | ⟨_, h⟩
  · omega
  · exact h.n512
theorem RelP.lt {w : World} {p : Option Addr} {b0 b1 n : Nat} {m : Nat → Nat → Bool} (h : RelP w p b0 b1 n m) (hp : p ≠ none) : b0 < w.heap.size ∧ b1 < w.heap.size := by
  rcases h with ⟨h, _⟩ | ⟨_, h⟩
  · exact absurd h hp
  · exact ⟨h.hd.lt, h.rows.lt⟩
theorem RelP.fr {T : List Nat} {w w' : World} {p : Option Addr} {b0 b1 n : Nat} {m : Nat → Nat → Bool} (h : RelP w p b0 b1 n m) (hf : Fr T w w') (hn : p ≠ none → b0 ∉ T ∧ b1 ∉ T) : RelP w' p b0 b1 n m := by
  rcases h with h | ⟨rfl, h⟩
  · exact .inl h
  · exact .inr ⟨rfl, h.fr hf (hn (by simp)).1 (hn (by simp)).2⟩
theorem incJ_self {n : Nat} {m : Nat → Nat → Bool} (hm : ∀ a b, m a b = true → a < n ∧ b < n) : incJ n (fun _ _ => false) m (min n n) = m := by
  funext a b
  unfold incJ
  cases h : m a b
  · simp
  · have := hm a b h
    simp [this.1, this.2]
set_option maxRecDepth 100000 in
set_option maxHeartbeats 2000000 in
theorem union0_ret {w : World} {p : Option Addr} {b0 b1 n : Nat} {m : Nat → Nat → Bool} (h : RelP w p b0 b1 n m) : Calls Tryd.prog 20 #[.pointer p, .slice none 0 0] w (MkR w n m) := by
  have HL := hid (len_ret h.v)
  have HN := hid (fun w => new_ret (n : Int) w)
  have hn5 := h.n512
  rw [clN_self n hn5] at HN
  have HI := hid (fun (w2 : World) d0 d1 (h2 : RelC w2 d0 d1 n fun _ _ => false) (h1 : RelP w2 p b0 b1 n m) hd => include_ret h2 h1 hd)
  rw [incJ_self h.inn] at HI
  have Hh := hid h
  clear h
  go_enter Tryd.func20, Tryd.ntmps20
  go_wp2_with (first | (go_at_call 10; refine HL.out.mono ?_; rintro e' w2 ⟨rfl, rfl⟩) | (go_at_call 9; refine (HN.out _).mono ?_; rintro e' w3 ⟨d0, d1, rfl, hr3, hd0, hd1, hb3⟩; refine Hid.out ?_))
  have h3 := Hh.out.below hb3
  have HC := hid (HI.out _ d0 d1 hr3 h3 (fun hp => by have := Hh.out.lt hp; omega))
  have Hb := hid hb3
  have Hr := hid hr3
  clear hb3 hr3 h3
  refine hid ?_
  go_wp2_with (go_at_call 36; refine HC.out.mono ?_; rintro e' w4 ⟨rfl, hr4, hf4⟩; refine Hid.out ?_)
  have hB4 := Fr.below Hb.out hf4 (by have := Hb.out.size; omega) (by simpa using hd1)
  refine hid ?_
  go_wp2
  go_loopw [16] (fun v wr => v = .int .i64 0 ∧ wr = w4) (fun _ _ => 0)
  case atStart => exact ⟨rfl, rfl⟩
  case round =>
    obtain ⟨rfl, rfl⟩ := hrel
    go_wp2
    go_ret
    exact ⟨d0, d1, rfl, hr4, hd0, hd1, hB4⟩
set_option maxRecDepth 100000 in
set_option maxHeartbeats 2000000 in
theorem union1_ret {w : World} {p q : Option Addr} {b0 b1 n c0 c1 n' g : Nat} {m m' : Nat → Nat → Bool} (h : RelP w p b0 b1 n m) (h' : RelP w q c0 c1 n' m') (hs : Hb w g 25 1 (fun _ => .pointer q)) : Calls Tryd.prog 20 #[.pointer p, .slice (some ⟨g, 0, none⟩) 1 1] w (MkR w n (incJ n m m' (min n n'))) := by
  have HL := hid (len_ret h.v)
  have HN := hid (fun w => new_ret (n : Int) w)
  have hn5 := h.n512
  rw [clN_self n hn5] at HN
  have HI := hid (fun (w2 : World) d0 d1 (h2 : RelC w2 d0 d1 n fun _ _ => false) (h1 : RelP w2 p b0 b1 n m) hd => include_ret h2 h1 hd)
  rw [incJ_self h.inn] at HI
  have HI2 := hid (fun (w2 : World) d0 d1 (h2 : RelC w2 d0 d1 n m) (h1 : RelP w2 q c0 c1 n' m') hd => include_ret h2 h1 hd)
  have Hh := hid h
  have Hh' := hid h'
  have Hs := hid hs
  clear h h' hs
  go_enter Tryd.func20, Tryd.ntmps20
  go_wp2_with (first | (go_at_call 10; refine HL.out.mono ?_; rintro e' w2 ⟨rfl, rfl⟩) | (go_at_call 9; refine (HN.out _).mono ?_; rintro e' w3 ⟨d0, d1, rfl, hr3, hd0, hd1, hb3⟩; refine Hid.out ?_))
  have h3 := Hh.out.below hb3
  have h3' := Hh'.out.below hb3
  have hs3 := Hs.out.below hb3 Hs.out.lt
  have hg1 : g ≠ d1 := by have := Hs.out.lt; omega
  have HC := hid (HI.out _ d0 d1 hr3 h3 (fun hp => by have := Hh.out.lt hp; omega))
  have hq : q ≠ none → d1 ≠ c0 ∧ d1 ≠ c1 := fun hp => by have := Hh'.out.lt hp; omega
  have Hb := hid hb3
  have Hr := hid hr3
  have Hq := hid hq
  clear hb3 hr3 h3 hq
  refine hid ?_
  go_wp2_with (go_at_call 36; refine HC.out.mono ?_; rintro e' w4 ⟨rfl, hr4, hf4⟩; refine Hid.out ?_)
  have hB4 := Fr.below Hb.out hf4 (by have := Hb.out.size; omega) (by simpa using hd1)
  have h4' := h3'.fr hf4 (fun hp => by have := Hq.out hp; simp; omega)
  have hs4 := hs3.fr hf4 (by simpa using hg1)
  have HC2 := hid (HI2.out _ d0 d1 hr4 h4' Hq.out)
  have Hr4 := hid hr4
  clear hr4 h4' h3' hs3 hf4
  refine hid ?_
  go_wp2
  go_loopw [16] (fun v wr => (v = .int .i64 0 ∧ wr = w4) ∨ (v = .int .i64 1 ∧ RelC wr d0 d1 n (incJ n m m' (min n n')) ∧ Fr [d1] w4 wr)) (fun v _ => 1 - (intOf v).toNat)
  case atStart => exact .inl ⟨rfl, rfl⟩
  case round =>
    rcases hrel with ⟨rfl, rfl⟩ | ⟨rfl, hr5, hf5⟩
    · have cg := hs4.cell (i := 0) (by omega)
      clear hs4
      go_wp2_with (go_at_call 36; refine HC2.out.mono ?_; rintro e' w5 ⟨rfl, hr5, hf5⟩; refine Hid.out ?_)
      refine hid ?_
      go_wp2
      go_roundw
      case rel => exact .inr ⟨rfl, hr5, hf5⟩
      case measure => simp [intOf]
    · have hB5 := Fr.below hB4 hf5 (by have := hB4.size; omega) (by simpa using hd1)
      go_wp2
      go_ret
      exact ⟨d0, d1, rfl, hr5, hd0, hd1, hB5⟩
end Go.Proofs.YthmmmbfjhfocfaaDoor
