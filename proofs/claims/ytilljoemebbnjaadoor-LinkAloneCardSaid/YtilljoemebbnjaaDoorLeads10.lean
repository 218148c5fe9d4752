/- Layer 10: in the code of a unit each jump leads to where its label stands: the arithmetic. -/
import Derived.Test.YtilljoemebbnjaaDoorK07
set_option linter.unusedVariables false
set_option linter.unusedSimpArgs false
namespace Go.Proofs.YtilljoemebbnjaaDoor
open Go.RowKit Sim S2
theorem mayU_ok {n : Nat} {f : Nat → It} (h : mayU n f = true) : (∀ j, j < n → (f j).kind ≠ 4) ∧ (∀ j, j < n → bad1 f j = false) ∧ (∀ j, j < n → bad2 f j = false) ∧ ∀ j, j < n → bad3 n f j = false := by
  unfold mayU at h
  cases e : fstN (fun j => (f j).kind == 4) n with
  | some j => rw [e] at h; cases h
  | none =>
    rw [e] at h
    have h : (unitR n f).2 = 0 := eq_of_beq h
    refine ⟨fun j hj hc => by have := fst_none e j hj; simp [hc] at this, ?_⟩
    unfold unitR at h
    cases e1 : fstN (bad1 f) n with
    | some j => rw [e1] at h; cases h
    | none =>
      rw [e1] at h
      cases e2 : fstN (bad2 f) n with
      | some j => rw [e2] at h; cases h
      | none =>
        rw [e2] at h
        cases e3 : fstN (bad3 n f) n with
        | some j => rw [e3] at h; cases h
        | none => exact ⟨fst_none e1, fst_none e2, fst_none e3⟩
theorem right_kind {i : It} (h : rightB i = true) (h4 : i.kind ≠ 4) : i.kind = 0 ∨ i.kind = 1 ∨ i.kind = 2 ∨ i.kind = 3 := by
  unfold rightB at h
  by_cases k0 : i.kind = 0
  · exact .inl k0
  by_cases k1 : i.kind = 1
  · exact .inr (.inl k1)
  by_cases k2 : i.kind = 2
  · exact .inr (.inr (.inl k2))
  by_cases k3 : i.kind = 3
  · exact .inr (.inr (.inr k3))
  rw [show (i.kind == 0) = false by simpa using k0, show (i.kind == 1) = false by simpa using k1, show (i.kind == 2) = false by simpa using k2, show (i.kind == 3) = false by simpa using k3, show (i.kind == 4) = false by simpa using h4] at h
  cases h
def layKind (f : Nat → It) (g : Nat → Bool) (i : Nat) : Prop := ((f i).kind = 0 ∨ (f i).kind = 1 ∨ (f i).kind = 2 ∨ (f i).kind = 3) ∧ (g i = true → (f i).kind = 3)
theorem may_kind {n : Nat} {f : Nat → It} (h : mayU n f = true) (i : Nat) (hi : i < n) : layKind f (lgG n f) i := by
  obtain ⟨h1, h2, _, _⟩ := mayU_ok h
  exact ⟨right_kind (by have := h2 i hi; unfold bad1 at this; simpa using this) (h1 i hi), fun hg => (lgG_kind hg).2⟩
def toZ (f : Nat → It) (g : Nat → Bool) (x : Int) : Nat → Int
  | 0 => -1
  | k + 1 => bif labB f x k then (ahN f g k : Int) else toZ f g x k
theorem toZ_lab {f : Nat → It} {g : Nat → Bool} {x : Int} {k : Nat} (hk : labB f x k = true) : ∀ {n : Nat}, k < n → (∀ j, k < j → j < n → labB f x j = false) → toZ f g x n = ahN f g k
  | 0, h, _ => by omega
  | n + 1, h, hu => by
    show (bif labB f x n then (ahN f g n : Int) else toZ f g x n) = _
    by_cases e : k = n
    · subst e; rw [hk]; rfl
    · rw [hu n (by omega) (by omega)]
      exact toZ_lab hk (by omega) fun j h1 h2 => hu j h1 (by omega)
theorem may_lab {n : Nat} {f : Nat → It} (h : mayU n f = true) {i : Nat} (hi : i < n) (hk : (f i).kind = 2 ∨ (f i).kind = 3) (g : Nat → Bool) : ∃ k, labAt f n (f i).n = some k ∧ k < n ∧ toZ f g (f i).n n = ahN f g k := by
  obtain ⟨_, _, h2, h3⟩ := mayU_ok h
  have hb := h3 i hi
  unfold bad3 at hb
  have hkb : ((f i).kind == 2 || (f i).kind == 3) = true := by rcases hk with hk | hk <;> rw [hk] <;> rfl
  rw [hkb, Bool.true_and] at hb
  have hs : standsB f (f i).n n = true := by simpa using hb
  obtain ⟨k, hkn, hl, hpre⟩ := first_yes _ _ hs
  have hex : labAt f n (f i).n = some k := by
    unfold labAt fstN
    rw [List.find?_range_eq_some]
    exact ⟨hl, List.mem_range.mpr hkn, fun j hj => by rw [hpre j hj]; rfl⟩
  refine ⟨k, hex, hkn, toZ_lab hl hkn fun j h1 h4 => ?_⟩
  cases hj : labB f (f i).n j
  · rfl
  · have hb2 := h2 j h4
    unfold bad2 at hb2
    unfold labB at hj
    obtain ⟨q1, q2⟩ := Bool.and_eq_true_iff.mp hj
    rw [q1, Bool.true_and, eq_of_beq q2] at hb2
    have := any_no hb2 k h1
    rw [hl] at this
    cases this
theorem lg_inv {n : Nat} {f : Nat → It} {g : Nat → Bool} (hs : subB n g (lgG n f)) {i : Nat} (hi : i < n) (hk : (f i).kind = 3) (hf : (decide (disN f g n i < -4096) || decide (disN f g n i > 4094)) = true) : lgG n f i = true := by
  have hc := lgG_closed n f i hi
  unfold lgB at hc
  rw [hk, far_mono hs hi hf, Bool.and_true] at hc
  simpa using hc
theorem lg_eq {n : Nat} {f : Nat → It} {g : Nat → Bool} (hs : subB n g (lgG n f)) (hc : ∀ i, i < n → lgB n f g i = false) (i : Nat) (hi : i < n) : g i = lgG n f i := by
  cases hg : g i
  · cases hl : lgG n f i
    · rfl
    · have := lgG_least hc i hi hl
      rw [hg] at this
      cases this
  · exact (hs i hi hg).symm
theorem disN_at {n : Nat} {f : Nat → It} {g : Nat → Bool} {i k : Nat} (h : labAt f n (f i).n = some k) : disN f g n i = 4 * ((ahN f g k : Int) - (ahN f g i : Int)) := by unfold disN; rw [h]
end Go.Proofs.YtilljoemebbnjaaDoor
