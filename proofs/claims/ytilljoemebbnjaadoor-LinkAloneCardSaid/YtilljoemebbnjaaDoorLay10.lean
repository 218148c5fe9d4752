/- Layer 10: the reference: the code of a unit, by definition. -/
import Derived.Test.YtilljoemebbnjaaDoorK06
set_option linter.unusedVariables false
set_option linter.unusedSimpArgs false
namespace Go.Proofs.YtilljoemebbnjaaDoor
open Go.RowKit Sim S2
def oppZ (o : Int) : Int := bif o == 5 then 6 else bif o == 6 then 5 else bif o == 7 then 8 else bif o == 8 then 7 else bif o == 9 then 10 else bif o == 10 then 9 else 0
def zI10 : In := ⟨0, 0, 0, 0, 0, false, false⟩
def wdE (L : List In) : LE := ⟨42, 7, L.length, fun j => inC ((L[j]?).getD zI10), true, false, true⟩
def ntE (L : List Int) : LE := ⟨3, 1, L.length, fun j => [.int .i64 ((L[j]?).getD 0)], true, false, true⟩
def nil7 : Nat → List Value := fun j => inC ((([] : List In)[j]?).getD zI10)
def nil1 : Nat → List Value := fun j => [.int .i64 ((([] : List Int)[j]?).getD 0)]
def raw7 (n : Nat) (f : Nat → List Value) : LE := ⟨42, 7, n, f, true, false, true⟩
def raw1 (n : Nat) (f : Nat → List Value) : LE := ⟨3, 1, n, f, true, false, true⟩
theorem same7 {A : List In} {m : Nat} {g : Nat → List Value} (h : sameE (raw7 m g) (wdE A)) (x : In) : sameE (raw7 (m + 1) (joinE m g (tabE [inC x]))) (wdE (A ++ [x])) := by
  obtain ⟨_, _, h3, _, _, h6⟩ := h
  have h3 : m = A.length := h3
  subst h3
  refine ⟨rfl, rfl, by simp [raw7, wdE], rfl, rfl, fun j hj => ?_⟩
  have hj : j < A.length + 1 := hj
  show joinE A.length g (tabE [inC x]) j = inC (((A ++ [x])[j]?).getD zI10)
  unfold joinE
  cases hb : Nat.blt j A.length
  · have : ¬ j < A.length := fun hc => by rw [← Nat.blt_eq, hb] at hc; cases hc
    obtain rfl : j = A.length := by omega
    simp [tabE]
  · have hlt : j < A.length := by simpa [Nat.blt_eq] using hb
    simp only [cond_true]
    rw [List.getElem?_append_left hlt]
    exact h6 j hlt
theorem same1 {N : List Int} {m : Nat} {g : Nat → List Value} (h : sameE (raw1 m g) (ntE N)) (x : Int) : sameE (raw1 (m + 1) (joinE m g (tabE [[.int .i64 x]]))) (ntE (N ++ [x])) := by
  obtain ⟨_, _, h3, _, _, h6⟩ := h
  have h3 : m = N.length := h3
  subst h3
  refine ⟨rfl, rfl, by simp [raw1, ntE], rfl, rfl, fun j hj => ?_⟩
  have hj : j < N.length + 1 := hj
  show joinE N.length g (tabE [[.int .i64 x]]) j = [.int .i64 (((N ++ [x])[j]?).getD 0)]
  unfold joinE
  cases hb : Nat.blt j N.length
  · have : ¬ j < N.length := fun hc => by rw [← Nat.blt_eq, hb] at hc; cases hc
    obtain rfl : j = N.length := by omega
    simp [tabE]
  · have hlt : j < N.length := by simpa [Nat.blt_eq] using hb
    simp only [cond_true]
    rw [List.getElem?_append_left hlt]
    exact h6 j hlt
def farJ (d : Int) : Bool := decide (d < -1048576) || decide (d > 1048574)
def jalI (d : Int) : In := ⟨3, 0, 0, 0, d, false, false⟩
def ifI (o a b d : Int) : In := ⟨o, 0, a, b, d, false, false⟩
def layW (f : Nat → It) (g : Nat → Bool) (n i : Nat) : List In :=
  bif (f i).kind == 0 then [(f i).ins] else bif (f i).kind == 2 then [jalI (disN f g n i)]
  else bif g i then [ifI (oppZ (f i).ins.op) (f i).ins.a (f i).ins.b 8, jalI (disN f g n i - 4)]
  else bif (f i).kind == 3 then [ifI (f i).ins.op (f i).ins.a (f i).ins.b (disN f g n i)] else []
def badJ (f : Nat → It) (g : Nat → Bool) (n i : Nat) : Bool := ((f i).kind == 2 && farJ (disN f g n i)) || (g i && farJ (disN f g n i - 4))
def layA (f : Nat → It) (g : Nat → Bool) (n : Nat) : Nat → List In
  | 0 => []
  | i + 1 => layA f g n i ++ layW f g n i
def layN (f : Nat → It) (g : Nat → Bool) (n : Nat) : Nat → List Int
  | 0 => []
  | i + 1 => layN f g n i ++ (layW f g n i).map fun _ => (f i).note
theorem layW_len (f : Nat → It) (g : Nat → Bool) (n i : Nat) : (layW f g n i).length ≤ 2 := by
  unfold layW
  cases (f i).kind == 0 <;> cases (f i).kind == 2 <;> cases g i <;> cases (f i).kind == 3 <;> simp
theorem layA_len (f : Nat → It) (g : Nat → Bool) (n : Nat) : ∀ i, (layA f g n i).length ≤ 2 * i ∧ (layN f g n i).length = (layA f g n i).length
  | 0 => ⟨Nat.le_refl _, rfl⟩
  | i + 1 => by
    obtain ⟨h1, h2⟩ := layA_len f g n i
    have := layW_len f g n i
    show (layA f g n i ++ _).length ≤ _ ∧ (layN f g n i ++ _).length = (layA f g n i ++ _).length
    rw [List.length_append, List.length_append, List.length_map]
    omega
def wd1 (A : List In) (x : In) : LE := raw7 (A.length + 1) (joinE A.length (wdE A).el (tabE [inC x]))
def wd2 (A : List In) (x y : In) : LE := raw7 (A.length + 1 + 1) (joinE (A.length + 1) (wd1 A x).el (tabE [inC y]))
def nt1 (N : List Int) (x : Int) : LE := raw1 (N.length + 1) (joinE N.length (ntE N).el (tabE [[.int .i64 x]]))
def nt2 (N : List Int) (x y : Int) : LE := raw1 (N.length + 1 + 1) (joinE (N.length + 1) (nt1 N x).el (tabE [[.int .i64 y]]))
theorem wd1_same (A : List In) (x : In) : sameE (wd1 A x) (wdE (A ++ [x])) := same7 (g := (wdE A).el) ⟨rfl, rfl, rfl, rfl, rfl, fun _ _ => rfl⟩ x
theorem wd2_same (A : List In) (x y : In) : sameE (wd2 A x y) (wdE (A ++ [x, y])) := by
  have := same7 (g := (wd1 A x).el) (m := A.length + 1) (wd1_same A x) y
  rw [List.append_assoc] at this
  exact this
theorem nt1_same (N : List Int) (x : Int) : sameE (nt1 N x) (ntE (N ++ [x])) := same1 (g := (ntE N).el) ⟨rfl, rfl, rfl, rfl, rfl, fun _ _ => rfl⟩ x
theorem nt2_same (N : List Int) (x y : Int) : sameE (nt2 N x y) (ntE (N ++ [x, y])) := by
  have := same1 (g := (nt1 N x).el) (m := N.length + 1) (nt1_same N x) y
  rw [List.append_assoc] at this
  exact this
end Go.Proofs.YtilljoemebbnjaaDoor
