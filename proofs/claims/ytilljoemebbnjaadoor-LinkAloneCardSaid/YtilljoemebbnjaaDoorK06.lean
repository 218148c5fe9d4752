/- Ref10, Dist10, Long10. -/
import Derived.Test.YtilljoemebbnjaaDoorRef09
set_option linter.unusedVariables false
set_option linter.unusedSimpArgs false
namespace Go.Proofs.YtilljoemebbnjaaDoor
open Go.RowKit Sim S2
def blE (n : Nat) (g : Nat → Bool) : LE := ⟨4, 1, n, fun j => [.bool (g j)], true, false, true⟩
def bD : List Value → Bool
  | [.bool b] => b
  | _ => false
def ahN (f : Nat → It) (g : Nat → Bool) : Nat → Nat
  | 0 => 0
  | j + 1 => ahN f g j + (bif (f j).kind != 1 then 1 else 0) + (bif g j then 1 else 0)
noncomputable def envA10 : S2.Env := envk Tryd.prog (fun _ => none) true noT noP noL
theorem envA10_ok : CallOk envA10 := envk_ok (nw := true) (.none _ _) (.none _ _) (.none _ _)
theorem ahN_le (f : Nat → It) (g : Nat → Bool) : ∀ j, ahN f g j ≤ 2 * j
  | 0 => Nat.le_refl _
  | j + 1 => by
    have := ahN_le f g j
    show ahN f g j + _ + _ ≤ _
    cases (f j).kind != 1 <;> cases g j <;> simp only [cond_true, cond_false] <;> omega
end Go.Proofs.YtilljoemebbnjaaDoor
namespace Go.Proofs.YtilljoemebbnjaaDoor
open Go.RowKit Sim S2
def labAt (f : Nat → It) (n : Nat) (x : Int) : Option Nat := fstN (labB f x) n
def disN (f : Nat → It) (g : Nat → Bool) (n k : Nat) : Int := match labAt f n (f k).n with
  | some i => 4 * ((ahN f g i : Int) - (ahN f g k : Int))
  | none => 0
theorem disN_rng {f : Nat → It} {g : Nat → Bool} {n k : Nat} (hn : n ≤ 1000000000) (hk : k ≤ n) : -8000000000 ≤ disN f g n k ∧ disN f g n k ≤ 8000000000 := by
  unfold disN
  split
  · rename_i i hi
    have := (fst_some hi).1
    have := ahN_le f g i
    have := ahN_le f g k
    omega
  · omega
def mayU (n : Nat) (f : Nat → It) : Bool := match fstN (fun j => (f j).kind == 4) n with
  | some _ => false
  | none => (unitR n f).2 == 0
end Go.Proofs.YtilljoemebbnjaaDoor
namespace Go.Proofs.YtilljoemebbnjaaDoor
open Go.RowKit Sim S2
def updB (g : Nat → Bool) (i : Nat) : Nat → Bool := fun j => bif Nat.beq j i then true else g j
def lgB (n : Nat) (f : Nat → It) (g : Nat → Bool) (i : Nat) : Bool := (f i).kind == 3 && (!g i && (decide (disN f g n i < -4096) || decide (disN f g n i > 4094)))
def lgIt (n : Nat) (f : Nat → It) : Nat → Nat → Bool
  | 0 => fun _ => false
  | k + 1 => match fstN (lgB n f (lgIt n f k)) n with
    | some i => updB (lgIt n f k) i
    | none => lgIt n f k
def cntB (g : Nat → Bool) : Nat → Nat
  | 0 => 0
  | k + 1 => cntB g k + (bif g k then 1 else 0)
theorem cntB_le (g : Nat → Bool) : ∀ k, cntB g k ≤ k
  | 0 => Nat.le_refl _
  | k + 1 => by have := cntB_le g k; show cntB g k + _ ≤ _; cases g k <;> simp only [cond_true, cond_false] <;> omega
theorem updB_same (g : Nat → Bool) (i : Nat) : updB g i i = true := by unfold updB; rw [Nat.beq_refl]; rfl
theorem updB_other (g : Nat → Bool) {i j : Nat} (h : j ≠ i) : updB g i j = g j := by
  unfold updB
  cases e : Nat.beq j i
  · rfl
  · exact absurd (Nat.eq_of_beq_eq_true e) h
theorem cntB_congr {g h : Nat → Bool} : ∀ {k : Nat}, (∀ j, j < k → g j = h j) → cntB g k = cntB h k
  | 0, _ => rfl
  | k + 1, hh => by show cntB g k + _ = cntB h k + _; rw [cntB_congr fun j hj => hh j (by omega), hh k (by omega)]
theorem cntB_upd (g : Nat → Bool) (i : Nat) (hg : g i = false) : ∀ k, i < k → cntB (updB g i) k = cntB g k + 1
  | 0, h => by omega
  | k + 1, h => by
    show cntB (updB g i) k + _ = cntB g k + _ + 1
    by_cases e : i = k
    · subst e
      rw [updB_same, hg, cntB_congr (h := g) fun j hj => updB_other g (by omega)]; rfl
    · rw [cntB_upd g i hg k (by omega), updB_other g (by omega)]; omega
theorem lgB_not {n : Nat} {f : Nat → It} {g : Nat → Bool} {i : Nat} (h : lgB n f g i = true) : g i = false := by
  unfold lgB at h
  obtain ⟨_, h⟩ := Bool.and_eq_true_iff.mp h
  obtain ⟨h, _⟩ := Bool.and_eq_true_iff.mp h
  simpa using h
theorem lgIt_cnt (n : Nat) (f : Nat → It) : ∀ k, (∀ j, j < k → fstN (lgB n f (lgIt n f j)) n ≠ none) → cntB (lgIt n f k) n = k
  | 0, _ => by
    have : ∀ m, cntB (lgIt n f 0) m = 0 := fun m => by
      induction m with
      | zero => rfl
      | succ m ih => show cntB _ m + _ = 0; rw [ih]; rfl
    exact this n
  | k + 1, h => by
    have hk := lgIt_cnt n f k fun j hj => h j (by omega)
    cases e : fstN (lgB n f (lgIt n f k)) n with
    | none => exact absurd e (h k (by omega))
    | some i =>
      obtain ⟨h1, h2, _⟩ := fst_some e
      have e2 : lgIt n f (k + 1) = updB (lgIt n f k) i := by show (match fstN (lgB n f (lgIt n f k)) n with | some i => updB (lgIt n f k) i | none => lgIt n f k) = _; rw [e]
      rw [e2, cntB_upd _ i (lgB_not h2) n h1, hk]
theorem lg_stops (n : Nat) (f : Nat → It) : ∃ k, k ≤ n ∧ fstN (lgB n f (lgIt n f k)) n = none ∧ ∀ j, j < k → fstN (lgB n f (lgIt n f j)) n ≠ none := by
  cases h : fstN (fun k => (fstN (lgB n f (lgIt n f k)) n).isNone) (n + 1) with
  | some k =>
    obtain ⟨h1, h2, h3⟩ := fst_some h
    exact ⟨k, by omega, Option.isNone_iff_eq_none.mp h2, fun j hj hc => by have := h3 j hj; rw [hc] at this; cases this⟩
  | none =>
    have hall := fst_none h
    have := lgIt_cnt n f (n + 1) fun j hj hc => by have := hall j hj; rw [hc] at this; cases this
    have := cntB_le (lgIt n f (n + 1)) n
    omega
noncomputable def lgK (n : Nat) (f : Nat → It) : Nat := Classical.choose (lg_stops n f)
theorem lgK_ok (n : Nat) (f : Nat → It) : lgK n f ≤ n ∧ fstN (lgB n f (lgIt n f (lgK n f))) n = none ∧ ∀ j, j < lgK n f → fstN (lgB n f (lgIt n f j)) n ≠ none := Classical.choose_spec (lg_stops n f)
noncomputable def lgG (n : Nat) (f : Nat → It) : Nat → Bool := lgIt n f (lgK n f)
theorem lgG_closed (n : Nat) (f : Nat → It) (i : Nat) (hi : i < n) : lgB n f (lgG n f) i = false := fst_none (lgK_ok n f).2.1 i hi
def subB (n : Nat) (g h : Nat → Bool) : Prop := ∀ i, i < n → g i = true → h i = true
theorem ahN_diff {f : Nat → It} {g h : Nat → Bool} {n : Nat} (hs : subB n g h) (a : Nat) : ∀ b, a ≤ b → b ≤ n → (ahN f g b : Int) - ahN f g a ≤ (ahN f h b : Int) - ahN f h a ∧ ahN f g a ≤ ahN f g b
  | 0, h1, _ => by
    obtain rfl : a = 0 := by omega
    exact ⟨by omega, Nat.le_refl _⟩
  | b + 1, h1, h2 => by
    by_cases e : a = b + 1
    · subst e; exact ⟨by omega, Nat.le_refl _⟩
    · obtain ⟨i1, i2⟩ := ahN_diff (f := f) hs a b (by omega) (by omega)
      have hb := hs b (by omega)
      have e1 : ahN f g (b + 1) = ahN f g b + (bif (f b).kind != 1 then 1 else 0) + (bif g b then 1 else 0) := rfl
      have e2 : ahN f h (b + 1) = ahN f h b + (bif (f b).kind != 1 then 1 else 0) + (bif h b then 1 else 0) := rfl
      rw [e1, e2]
      generalize (bif (f b).kind != 1 then 1 else 0) = z
      have hle : (bif g b then 1 else 0) ≤ (bif h b then 1 else 0) := by
        cases hg : g b
        · exact Nat.zero_le _
        · rw [hb hg]; exact Nat.le_refl _
      generalize (bif g b then 1 else 0) = x at hle ⊢
      generalize (bif h b then 1 else 0) = y at hle ⊢
      constructor <;> omega
theorem far_mono {n : Nat} {f : Nat → It} {g h : Nat → Bool} (hs : subB n g h) {i : Nat} (hi : i < n) (hf : (decide (disN f g n i < -4096) || decide (disN f g n i > 4094)) = true) : (decide (disN f h n i < -4096) || decide (disN f h n i > 4094)) = true := by
  rw [Bool.or_eq_true, decide_eq_true_eq, decide_eq_true_eq] at hf ⊢
  unfold disN at hf ⊢
  cases hl : labAt f n (f i).n with
  | none => rw [hl] at hf; simp only at hf; omega
  | some k =>
    rw [hl] at hf
    simp only at hf ⊢
    have hk := (fst_some hl).1
    by_cases hc : i ≤ k
    · obtain ⟨a1, a2⟩ := ahN_diff (f := f) hs i k hc (by omega)
      omega
    · obtain ⟨a1, a2⟩ := ahN_diff (f := f) hs k i (by omega) (by omega)
      omega
theorem lgIt_least {n : Nat} {f : Nat → It} {h : Nat → Bool} (hc : ∀ i, i < n → lgB n f h i = false) : ∀ k, subB n (lgIt n f k) h
  | 0 => fun i hi hg => by cases hg
  | k + 1 => by
    have ih := lgIt_least hc k
    show subB n (match fstN (lgB n f (lgIt n f k)) n with | some i => updB (lgIt n f k) i | none => lgIt n f k) h
    cases e : fstN (lgB n f (lgIt n f k)) n with
    | none => exact ih
    | some i =>
      obtain ⟨h1, h2, _⟩ := fst_some e
      intro j hj hg
      by_cases ej : j = i
      · subst ej
        have hb := hc j hj
        unfold lgB at h2 hb
        obtain ⟨h3, h4⟩ := Bool.and_eq_true_iff.mp h2
        obtain ⟨h5, h6⟩ := Bool.and_eq_true_iff.mp h4
        rw [h3, Bool.true_and, far_mono ih hj h6, Bool.and_true] at hb
        simpa using hb
      · exact ih j hj (by have hg : updB (lgIt n f k) i j = true := hg; rw [updB_other _ ej] at hg; exact hg)
theorem lgG_least {n : Nat} {f : Nat → It} {h : Nat → Bool} (hc : ∀ i, i < n → lgB n f h i = false) : subB n (lgG n f) h := lgIt_least hc _
theorem lgIt_kind {n : Nat} {f : Nat → It} : ∀ k i, lgIt n f k i = true → i < n ∧ (f i).kind = 3
  | 0, i, h => by cases h
  | k + 1, i, h => by
    have ih := lgIt_kind (n := n) (f := f) k i
    have e2 : lgIt n f (k + 1) = (match fstN (lgB n f (lgIt n f k)) n with | some i => updB (lgIt n f k) i | none => lgIt n f k) := rfl
    rw [e2] at h
    cases e : fstN (lgB n f (lgIt n f k)) n with
    | none => rw [e] at h; exact ih h
    | some j =>
      rw [e] at h
      obtain ⟨h1, h2, _⟩ := fst_some e
      by_cases ej : i = j
      · subst ej
        unfold lgB at h2
        exact ⟨h1, by simpa using (Bool.and_eq_true_iff.mp h2).1⟩
      · exact ih (by have h : updB (lgIt n f k) j i = true := h; rw [updB_other _ ej] at h; exact h)
theorem lgG_kind {n : Nat} {f : Nat → It} {i : Nat} (h : lgG n f i = true) : i < n ∧ (f i).kind = 3 := lgIt_kind _ i h
def stB (n : Nat) (g : Nat → Bool) (i : Nat) : LE := ⟨4, 1, n, setE (fun j => [.bool (g j)]) i [.bool true], true, false, true⟩
theorem stB_same (n : Nat) (g : Nat → Bool) (i : Nat) : sameE (stB n g i) (blE n (updB g i)) := ⟨rfl, rfl, rfl, rfl, rfl, fun j hj => by
  show setE (fun j => [.bool (g j)]) i [.bool true] j = [.bool (updB g i j)]
  unfold setE updB; cases Nat.beq j i <;> rfl⟩
end Go.Proofs.YtilljoemebbnjaaDoor
