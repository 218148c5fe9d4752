/- Layer 10: in the code of a unit each jump leads to where its label stands: the arithmetic. -/
import Derived.Test.YtohefnfombkkbaaLays10
namespace Go.Proofs.Ytohefnfombkkbaa
open Go.RowKit Sim S2
set_option linter.unusedVariables false
set_option linter.unusedSimpArgs false
theorem mayU_ok {n : Nat} {f : Nat → It} (h : mayU n f = true) : (∀ j, j < n → (f j).kind ≠ 4) ∧ (∀ j, j < n → bad1 f j = false) ∧ (∀ j, j < n → bad2 f j = false) ∧ ∀ j, j < n → bad3 n f j = false := by
  unfold mayU at h
  cases e : fstN (fun j => (f j).kind == 4) n with
  | some j => rw [e] at h; cases h
  | none =>
    rw [e] at h
    have h : (unitR n f).2 = 0 := eq_of_beq h
    refine ⟨fun j hj hc => by have := fst_none e j hj; simp [hc] at this, ?_⟩
    unfold unitR at h
    cases e1 : fstN (bad1 f) n with
    | some j => rw [e1] at h; cases h
    | none =>
      rw [e1] at h
      cases e2 : fstN (bad2 f) n with
      | some j => rw [e2] at h; cases h
      | none =>
        rw [e2] at h
        cases e3 : fstN (bad3 n f) n with
        | some j => rw [e3] at h; cases h
        | none => exact ⟨fst_none e1, fst_none e2, fst_none e3⟩
theorem right_kind {i : It} (h : rightB i = true) (h4 : i.kind ≠ 4) : i.kind = 0 ∨ i.kind = 1 ∨ i.kind = 2 ∨ i.kind = 3 := by
  unfold rightB at h
  by_cases k0 : i.kind = 0
  · exact .inl k0
  by_cases k1 : i.kind = 1
  · exact .inr (.inl k1)
  by_cases k2 : i.kind = 2
  · exact .inr (.inr (.inl k2))
  by_cases k3 : i.kind = 3
  · exact .inr (.inr (.inr k3))
  rw [show (i.kind == 0) = false by simpa using k0, show (i.kind == 1) = false by simpa using k1, show (i.kind == 2) = false by simpa using k2, show (i.kind == 3) = false by simpa using k3, show (i.kind == 4) = false by simpa using h4] at h
  cases h
/-- An item of a unit that may be laid out. -/
def layKind (f : Nat → It) (g : Nat → Bool) (i : Nat) : Prop := ((f i).kind = 0 ∨ (f i).kind = 1 ∨ (f i).kind = 2 ∨ (f i).kind = 3) ∧ (g i = true → (f i).kind = 3)
theorem may_kind {n : Nat} {f : Nat → It} (h : mayU n f = true) (i : Nat) (hi : i < n) : layKind f (lgG n f) i := by
  obtain ⟨h1, h2, _, _⟩ := mayU_ok h
  exact ⟨right_kind (by have := h2 i hi; unfold bad1 at this; simpa using this) (h1 i hi), fun hg => (lgG_kind hg).2⟩
theorem layW_count {f : Nat → It} {g : Nat → Bool} {n i : Nat} (h : layKind f g i) : (layW f g n i).length = (bif (f i).kind != 1 then 1 else 0) + (bif g i then 1 else 0) := by
  obtain ⟨hk, hg⟩ := h
  have hn : (f i).kind ≠ 3 → g i = false := fun hc => by
    cases e : g i
    · rfl
    · exact absurd (hg e) hc
  unfold layW
  rcases hk with hk | hk | hk | hk
  · rw [hk, hn (by omega)]; rfl
  · rw [hk, hn (by omega)]; rfl
  · rw [hk, hn (by omega)]; rfl
  · rw [hk]
    cases g i <;> rfl
theorem layA_ah {f : Nat → It} {g : Nat → Bool} {n : Nat} : ∀ {i : Nat}, (∀ j, j < i → layKind f g j) → (layA f g n i).length = ahN f g i
  | 0, _ => rfl
  | i + 1, h => by
    show (layA f g n i ++ layW f g n i).length = ahN f g i + _ + _
    rw [List.length_append, layA_ah fun j hj => h j (by omega), layW_count (h i (by omega))]
    omega
theorem layA_at {f : Nat → It} {g : Nat → Bool} {n : Nat} {i r : Nat} (hr : r < (layW f g n i).length) : ∀ {m : Nat}, (∀ j, j < m → layKind f g j) → i < m → (layA f g n m)[ahN f g i + r]? = (layW f g n i)[r]?
  | 0, _, h => by omega
  | m + 1, h, hi => by
    show (layA f g n m ++ layW f g n m)[ahN f g i + r]? = _
    have hl : (layA f g n m).length = ahN f g m := layA_ah fun j hj => h j (by omega)
    by_cases e : i = m
    · subst e
      rw [List.getElem?_append_right (by omega), hl]
      congr 1
      omega
    · have hlt : ahN f g i + r < (layA f g n m).length := by
        have hc : (layW f g n i).length = _ := layW_count (h i (by omega))
        have e1 : ahN f g (i + 1) = ahN f g i + (bif (f i).kind != 1 then 1 else 0) + (bif g i then 1 else 0) := rfl
        have := (ahN_diff (f := f) (g := g) (h := g) (n := m) (fun _ _ hx => hx) (i + 1) m (by omega) (Nat.le_refl _)).2
        omega
      rw [List.getElem?_append_left hlt]
      exact layA_at hr (fun j hj => h j (by omega)) (by omega)
/-- The last label of this number among the first items stands there; -1: none. -/
def toZ (f : Nat → It) (g : Nat → Bool) (x : Int) : Nat → Int
  | 0 => -1
  | k + 1 => bif labB f x k then (ahN f g k : Int) else toZ f g x k
theorem toZ_lab {f : Nat → It} {g : Nat → Bool} {x : Int} {k : Nat} (hk : labB f x k = true) : ∀ {n : Nat}, k < n → (∀ j, k < j → j < n → labB f x j = false) → toZ f g x n = ahN f g k
  | 0, h, _ => by omega
  | n + 1, h, hu => by
    show (bif labB f x n then (ahN f g n : Int) else toZ f g x n) = _
    by_cases e : k = n
    · subst e; rw [hk]; rfl
    · rw [hu n (by omega) (by omega)]
      exact toZ_lab hk (by omega) fun j h1 h2 => hu j h1 (by omega)
/-- A jump or a branch of a unit that may be laid out has its label, which is placed once. -/
theorem may_lab {n : Nat} {f : Nat → It} (h : mayU n f = true) {i : Nat} (hi : i < n) (hk : (f i).kind = 2 ∨ (f i).kind = 3) (g : Nat → Bool) : ∃ k, labAt f n (f i).n = some k ∧ k < n ∧ toZ f g (f i).n n = ahN f g k := by
  obtain ⟨_, _, h2, h3⟩ := mayU_ok h
  have hb := h3 i hi
  unfold bad3 at hb
  have hkb : ((f i).kind == 2 || (f i).kind == 3) = true := by rcases hk with hk | hk <;> rw [hk] <;> rfl
  rw [hkb, Bool.true_and] at hb
  have hs : standsB f (f i).n n = true := by simpa using hb
  obtain ⟨k, hkn, hl, hpre⟩ := first_yes _ _ hs
  have hex : labAt f n (f i).n = some k := by
    unfold labAt fstN
    rw [List.find?_range_eq_some]
    exact ⟨hl, List.mem_range.mpr hkn, fun j hj => by rw [hpre j hj]; rfl⟩
  refine ⟨k, hex, hkn, toZ_lab hl hkn fun j h1 h4 => ?_⟩
  cases hj : labB f (f i).n j
  · rfl
  · have hb2 := h2 j h4
    unfold bad2 at hb2
    unfold labB at hj
    obtain ⟨q1, q2⟩ := Bool.and_eq_true_iff.mp hj
    rw [q1, Bool.true_and, eq_of_beq q2] at hb2
    have := any_no hb2 k h1
    rw [hl] at this
    cases this
/-- What stands where a jump's or a branch's words lie. -/
theorem leads_at {n : Nat} {f : Nat → It} (h : mayU n f = true) {i : Nat} (hi : i < n) (hk : (f i).kind = 2 ∨ (f i).kind = 3) :
    (lgG n f i = false → ∃ w, (layA f (lgG n f) n n)[ahN f (lgG n f) i]? = some w ∧ w.imm = 4 * (toZ f (lgG n f) (f i).n n - (ahN f (lgG n f) i : Int))) ∧
    (lgG n f i = true → ∃ v w, (layA f (lgG n f) n n)[ahN f (lgG n f) i]? = some v ∧ v.imm = 8 ∧ (layA f (lgG n f) n n)[ahN f (lgG n f) i + 1]? = some w ∧ w.imm = 4 * (toZ f (lgG n f) (f i).n n - ((ahN f (lgG n f) i : Int) + 1))) := by
  obtain ⟨k, e1, e2, e3⟩ := may_lab h hi hk (lgG n f)
  have hd : disN f (lgG n f) n i = 4 * ((ahN f (lgG n f) k : Int) - (ahN f (lgG n f) i : Int)) := by unfold disN; rw [e1]
  have hkd := fun j hj => may_kind h j hj
  rw [e3]
  refine ⟨fun hg => ?_, fun hg => ?_⟩
  · have hW : ∃ w, layW f (lgG n f) n i = [w] ∧ w.imm = disN f (lgG n f) n i := by
      rcases hk with hk | hk
      · exact ⟨jalI (disN f (lgG n f) n i), by unfold layW; rw [hk]; rfl, rfl⟩
      · exact ⟨ifI (f i).ins.op (f i).ins.a (f i).ins.b (disN f (lgG n f) n i), by unfold layW; rw [hk, hg]; rfl, rfl⟩
    obtain ⟨w, hw, hi2⟩ := hW
    refine ⟨w, ?_, by rw [hi2, hd]⟩
    have := layA_at (r := 0) (by rw [hw]; exact Nat.zero_lt_one) hkd hi
    rw [Nat.add_zero, hw] at this
    exact this
  · have hk3 := (lgG_kind hg).2
    have hW : layW f (lgG n f) n i = [ifI (oppZ (f i).ins.op) (f i).ins.a (f i).ins.b 8, jalI (disN f (lgG n f) n i - 4)] := by unfold layW; rw [hk3, hg]; rfl
    refine ⟨ifI (oppZ (f i).ins.op) (f i).ins.a (f i).ins.b 8, jalI (disN f (lgG n f) n i - 4), ?_, rfl, ?_, ?_⟩
    · have := layA_at (r := 0) (by rw [hW]; exact Nat.zero_lt_succ _) hkd hi
      rw [Nat.add_zero, hW] at this
      exact this
    · have := layA_at (r := 1) (by rw [hW]; exact Nat.lt_succ_self _) hkd hi
      rw [hW] at this
      exact this
    · show disN f (lgG n f) n i - 4 = _
      rw [hd]; omega
/-! ### Any way to find the fewest long branches -/
/-- What does not reach under fewer long branches is one of the fewest. -/
theorem lg_inv {n : Nat} {f : Nat → It} {g : Nat → Bool} (hs : subB n g (lgG n f)) {i : Nat} (hi : i < n) (hk : (f i).kind = 3) (hf : (decide (disN f g n i < -4096) || decide (disN f g n i > 4094)) = true) : lgG n f i = true := by
  have hc := lgG_closed n f i hi
  unfold lgB at hc
  rw [hk, far_mono hs hi hf, Bool.and_true] at hc
  simpa using hc
/-- Some of the fewest, under which all others reach, are all of them. -/
theorem lg_eq {n : Nat} {f : Nat → It} {g : Nat → Bool} (hs : subB n g (lgG n f)) (hc : ∀ i, i < n → lgB n f g i = false) (i : Nat) (hi : i < n) : g i = lgG n f i := by
  cases hg : g i
  · cases hl : lgG n f i
    · rfl
    · have := lgG_least hc i hi hl
      rw [hg] at this
      cases this
  · exact (hs i hi hg).symm
/-- The distance out of the places of the items. -/
theorem disN_at {n : Nat} {f : Nat → It} {g : Nat → Bool} {i k : Nat} (h : labAt f n (f i).n = some k) : disN f g n i = 4 * ((ahN f g k : Int) - (ahN f g i : Int)) := by unfold disN; rw [h]
end Go.Proofs.Ytohefnfombkkbaa
