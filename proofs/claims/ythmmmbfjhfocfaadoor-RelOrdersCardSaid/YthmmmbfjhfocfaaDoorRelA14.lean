/- Contracts of package rel: Len, isElement, Add, Has. -/
import Derived.Test.YthmmmbfjhfocfaaDoorRel14
namespace Go.Proofs.YthmmmbfjhfocfaaDoor
open Go Go.RowKit
set_option linter.unusedVariables false
set_option linter.unusedSimpArgs false

def noP : Nat → Nat → Bool := fun _ _ => false
/-- A relation, or nil. -/
def RelV (w : World) (v : Value) (n : Nat) (m : Nat → Nat → Bool) : Prop :=
  (v = .pointer none ∧ n = 0 ∧ m = noP) ∨ ∃ b0 b1, v = .pointer (some ⟨b0, 0, none⟩) ∧ RelC w b0 b1 n m
section
variable {w w' : World} {b0 b1 n : Nat} {m : Nat → Nat → Bool}
theorem RelC.v (h : RelC w b0 b1 n m) : RelV w (.pointer (some ⟨b0, 0, none⟩)) n m := .inr ⟨b0, b1, rfl, h⟩
theorem RelC.rcell (h : RelC w b0 b1 n m) : w.cell? ⟨b0, 8, none⟩ = some (.slice (some ⟨b1, 0, none⟩) n n) := by
  have := h.hd.cell (i := 8) (by omega)
  rw [this]; rfl
theorem RelC.row (h : RelC w b0 b1 n m) {a : Nat} (ha : a < n) : SetIn (rowsV m) (a * 8) (m a) := fun i hi => by
  unfold rowsV
  rw [show (a * 8 + i) / 8 = a by omega, show (a * 8 + i) % 8 = i by omega]
theorem RelC.els (h : RelC w b0 b1 n m) : SetIn (relV b1 n) 0 (elF n) := newV_in b1 n n
theorem RelC.fr {T : List Nat} (h : RelC w b0 b1 n m) (hf : Fr T w w') (h0 : b0 ∉ T) (h1 : b1 ∉ T) : RelC w' b0 b1 n m := ⟨h.hd.fr hf h0, h.rows.fr hf h1, h.ne, h.n512, h.inn⟩
theorem RelC.below (h : RelC w b0 b1 n m) (hf : Below w.heap.size w w') : RelC w' b0 b1 n m := h.fr (Fr.of_below (T := []) hf) (by simp) (by simp)
end
theorem rows_set {m : Nat → Nat → Bool} {a : Nat} {g : Nat → Bool} : setF (rowsV m) (a * 8) g = rowsV (updF m a g) := by
  funext k
  unfold setF rowsV
  by_cases h : a * 8 ≤ k ∧ k < a * 8 + 8
  · rw [if_pos h, show k / 8 = a by omega, updF_same, show k % 8 = k - a * 8 by omega]
  · rw [if_neg h, updF_other _ _ (by omega)]
theorem len_ret {w : World} {v : Value} {n : Nat} {m : Nat → Nat → Bool} (h : RelV w v n m) : Calls Tryd.prog 10 #[v] w fun e w' => e = .returned (.int .i64 n) ∧ w' = w := by
  rcases h with ⟨rfl, rfl, _⟩ | ⟨b0, b1, rfl, h⟩
  · go_enter Tryd.func10, Tryd.ntmps10
    go_wp2
    go_ret
    exact ⟨rfl, rfl⟩
  · have hc := h.rcell
    clear h
    go_enter Tryd.func10, Tryd.ntmps10
    go_wp2
    go_ret
    exact ⟨rfl, rfl⟩
/-- Is it an element? -/
def inE (n : Nat) (e : Int) : Bool := decide (0 ≤ e) && decide (e < n)
theorem inE_iff {n : Nat} {e : Int} : inE n e = true ↔ 0 ≤ e ∧ e < n := by simp [inE]
theorem isEl_ret {w : World} {v : Value} {n : Nat} {m : Nat → Nat → Bool} (h : RelV w v n m) (e : Int) : Calls Tryd.prog 33 #[v, .int .i64 e] w fun en w' => en = .returned (.bool (inE n e)) ∧ w' = w := by
  have HC := hid (len_ret h)
  clear h
  unfold inE
  by_cases h0 : 0 ≤ e
  · rw [decide_eq_true h0, Bool.true_and]
    go_enter Tryd.func33, Tryd.ntmps33
    go_wp2_with (go_at_call 10; refine HC.out.mono ?_; rintro e' w2 ⟨rfl, rfl⟩)
    go_ret
    exact ⟨rfl, rfl⟩
  · rw [decide_eq_false h0, Bool.false_and]
    go_enter Tryd.func33, Tryd.ntmps33
    go_wp2
    go_ret
    exact ⟨rfl, rfl⟩
theorem addNo_ret {w : World} {v : Value} {n : Nat} {m : Nat → Nat → Bool} (h : RelV w v n m) (a b : Int) (hn : (inE n a && inE n b) = false) : Calls Tryd.prog 30 #[v, .int .i64 a, .int .i64 b] w fun en w' => en = .returned (.bool false) ∧ w' = w := by
  have HC := hid (isEl_ret h a)
  have HC2 := hid (isEl_ret h b)
  clear h
  cases ha : inE n a
  · rw [ha] at HC
    clear HC2 hn
    go_enter Tryd.func30, Tryd.ntmps30
    go_wp2_with (go_at_call 33; refine HC.out.mono ?_; clear HC; rintro e' w2 ⟨rfl, rfl⟩)
    go_ret
    exact ⟨rfl, rfl⟩
  · rw [ha] at HC hn
    rw [Bool.true_and] at hn
    rw [hn] at HC2
    clear ha hn
    go_enter Tryd.func30, Tryd.ntmps30
    go_wp2_with (first | (go_at_call 33; refine HC.out.mono ?_; clear HC; rintro e' w2 ⟨rfl, rfl⟩) | (go_at_call 33; refine HC2.out.mono ?_; clear HC2; rintro e' w2 ⟨rfl, rfl⟩))
    go_ret
    exact ⟨rfl, rfl⟩
def addP (m : Nat → Nat → Bool) (a b : Nat) : Nat → Nat → Bool := updF m a (fun x => x == b || m a x)
theorem RelC.put {w w' : World} {b0 b1 n a : Nat} {m : Nat → Nat → Bool} {g : Nat → Bool} (h : RelC w b0 b1 n m) (ha : a < n) (hg : ∀ b, g b = true → b < n) (hr : Hb w' b1 55 (n * 8) (setF (rowsV m) (a * 8) g)) (hf : Fr [b1] w w') : RelC w' b0 b1 n (updF m a g) := by
  refine ⟨h.hd.fr hf (by simpa using h.ne), by rw [← rows_set]; exact hr, h.ne, h.n512, fun x y hxy => ?_⟩
  by_cases hx : x = a
  · subst hx; rw [updF_same] at hxy; exact ⟨ha, hg y hxy⟩
  · rw [updF_other _ _ hx] at hxy; exact h.inn x y hxy
theorem addYes_ret {w : World} {b0 b1 n a b : Nat} {m : Nat → Nat → Bool} (h : RelC w b0 b1 n m) (ha : a < n) (hb : b < n) : Calls Tryd.prog 30 #[.pointer (some ⟨b0, 0, none⟩), .int .i64 a, .int .i64 b] w fun en w' => en = .returned (.bool true) ∧ RelC w' b0 b1 n (addP m a b) ∧ Fr [b1] w w' := by
  have e1 : inE n (a : Int) = true := inE_iff.2 ⟨by omega, by omega⟩
  have e2 : inE n (b : Int) = true := inE_iff.2 ⟨by omega, by omega⟩
  have HC := hid (isEl_ret h.v (a : Int))
  have HC2 := hid (isEl_ret h.v (b : Int))
  rw [e1] at HC
  rw [e2] at HC2
  have h5 := h.n512
  have HA := hid (sadd h.rows (h.row ha) (e := b) (by omega) (by omega))
  have hc := h.rcell
  have Hh := hid h
  clear h e1 e2
  go_enter Tryd.func30, Tryd.ntmps30
  go_wp2_with (first | (go_at_call 33; refine HC.out.mono ?_; clear HC; rintro e' w2 ⟨rfl, rfl⟩) | (go_at_call 33; refine HC2.out.mono ?_; clear HC2; rintro e' w2 ⟨rfl, rfl⟩) | (go_at_call 31; refine HA.out.mono ?_; rintro e' w2 ⟨rfl, hr, hf⟩; refine Hid.out ?_))
  refine hid ?_
  go_wp2
  go_ret
  refine ⟨rfl, Hh.out.put ha (fun x hx => ?_) hr hf, hf⟩
  rcases Bool.or_eq_true_iff.1 hx with h1 | h1
  · have : x = b := by simpa using h1
    omega
  · exact (Hh.out.inn _ _ h1).2
def hasZ (n : Nat) (m : Nat → Nat → Bool) (a b : Int) : Bool := inE n a && inE n b && m a.toNat b.toNat
theorem has_ret {w : World} {v : Value} {n : Nat} {m : Nat → Nat → Bool} (h : RelV w v n m) (a b : Int) : Calls Tryd.prog 16 #[v, .int .i64 a, .int .i64 b] w fun en w' => en = .returned (.bool (hasZ n m a b)) ∧ w' = w := by
  have HC := hid (isEl_ret h a)
  have HC2 := hid (isEl_ret h b)
  unfold hasZ
  cases ha : inE n a
  · rw [ha] at HC
    clear HC2 h
    go_enter Tryd.func16, Tryd.ntmps16
    go_wp2_with (go_at_call 33; refine HC.out.mono ?_; clear HC; rintro e' w2 ⟨rfl, rfl⟩)
    go_ret
    exact ⟨rfl, rfl⟩
  · rw [ha] at HC
    cases hb : inE n b
    · rw [hb] at HC2
      clear h
      go_enter Tryd.func16, Tryd.ntmps16
      go_wp2_with (first | (go_at_call 33; refine HC.out.mono ?_; clear HC; rintro e' w2 ⟨rfl, rfl⟩) | (go_at_call 33; refine HC2.out.mono ?_; clear HC2; rintro e' w2 ⟨rfl, rfl⟩))
      go_ret
      exact ⟨rfl, rfl⟩
    · rw [hb] at HC2
      obtain ⟨a0, a1⟩ := inE_iff.1 ha
      obtain ⟨b0', b1'⟩ := inE_iff.1 hb
      obtain ⟨a, rfl⟩ := Int.eq_ofNat_of_zero_le a0
      obtain ⟨b, rfl⟩ := Int.eq_ofNat_of_zero_le b0'
      rcases h with ⟨rfl, rfl, _⟩ | ⟨b0, b1, rfl, h⟩
      · omega
      · have h5 := h.n512
        have HA := hid (shas h.rows (h.row (a := a) (by omega)) (e := b) (by omega) (by omega))
        have hc := h.rcell
        clear h ha hb
        go_enter Tryd.func16, Tryd.ntmps16
        go_wp2_with (first | (go_at_call 33; refine HC.out.mono ?_; clear HC; rintro e' w2 ⟨rfl, rfl⟩) | (go_at_call 33; refine HC2.out.mono ?_; clear HC2; rintro e' w2 ⟨rfl, rfl⟩) | (go_at_call 34; refine HA.out.mono ?_; rintro e' w2 ⟨rfl, rfl⟩))
        go_ret
        exact ⟨rfl, rfl⟩
end Go.Proofs.YthmmmbfjhfocfaaDoor
