/- Open, Open2, Open08. -/
import Derived.Test.YtilljoemebbnjaaDoorK02
import Derived.Test.YtilljoemebbnjaaDoorRows
import Derived.WalkKit
import Derived.ProofKit
import Derived.OpenShut
import Derived.ChangeOld
import Derived.Below
import Derived.Lib.SmallJoins
import Derived.Deep.Strs
set_option linter.unusedVariables false
set_option linter.unusedSimpArgs false
namespace Go.Proofs.YtilljoemebbnjaaDoor
open Go.ChangeShapes Go.WideShapes Go.ChangeAt Go.RowKit
def SliceIn (k : IntKind) (w : World) (a : Option Addr) (len cap : Nat) (zs : List Int) : Prop :=
  len ≤ cap ∧ cap ≤ maxLen ∧ zs.length = cap ∧ (∀ n ∈ zs, (Lit.int k n).wf = true) ∧
    (0 < cap → ∃ b off, a = some ⟨b, off, none⟩ ∧ b < w.heap.size ∧ ∀ i, i < cap → w.cell? ⟨b, off + i, none⟩ = some (.int k (zs.getD i 0)))
section
variable {H : Type} {enc : TypeId × Value → H} {P : Program} {w : World} {base : Nat} {spare : Nat → Bool} {held : Bool}
theorem slice_in {t e : TypeId} {k : IntKind} {a : Option Addr} {len cap : Nat} {d : DataW H} {p : List MemPlace} (ht : P.underlying t = some (.slice e)) (he : P.underlying e = some (.int k)) (hC : P.cellsOf e = 1)
    (h : DataW.Trod enc P w 0 (fun _ => true) true t (.slice a len cap) d p) : ∃ zs, SliceIn k w a len cap zs := by
  obtain ⟨fuel, hf⟩ := h
  rcases open_ints ht he hC hf with ⟨hcs, _⟩ | ⟨x, l, c, zs, hcs, _, hl, hm, hz, _, hcell, hwz⟩
  · simp [Value.cells] at hcs
    obtain ⟨rfl, rfl, rfl⟩ := hcs
    exact ⟨[], by omega, by simp, rfl, by simp, fun h => by omega⟩
  · simp [Value.cells] at hcs
    obtain ⟨rfl, rfl, rfl⟩ := hcs
    have hz' : zs.length = cap := by simpa using hz
    refine ⟨zs, hl, hm, hz', hwz, fun hp => ?_⟩
    obtain ⟨b, off, rfl, hc⟩ := ints_at hcell (by omega)
    refine ⟨b, off, rfl, ?_, fun i hi => hc i (by omega)⟩
    have h0 := hc 0 (by omega)
    rcases Nat.lt_or_ge b w.heap.size with hlt | hge
    · exact hlt
    · simp [World.cell?, Array.getElem?_eq_none hge] at h0
end
end Go.Proofs.YtilljoemebbnjaaDoor
namespace Go.Proofs.YtilljoemebbnjaaDoor
open Go.Joins Go.ChangeShapes Go.WideShapes Go.RowKit Go.Deep
abbrev FK := Option (Option IntKind)
def FV1 : FK → Value → Prop
  | some (some k), v => ∃ n, v = .int k n ∧ (Lit.int k n).wf = true
  | none, v => ∃ b, v = .bool b
  | some none, v => ∃ s, v = .string s ∧ s.size ≤ maxLen
def FV : List FK → List Value → Prop
  | [], [] => True
  | k :: q, v :: r => FV1 k v ∧ FV q r
  | _, _ => False
theorem fv_cons {k : FK} {q : List FK} {cs : List Value} (h : FV (k :: q) cs) : ∃ v r, cs = v :: r ∧ FV1 k v ∧ FV q r := by
  cases cs with
  | nil => exact h.elim
  | cons v r => exact ⟨v, r, rfl, h.1, h.2⟩
theorem fv_nil {cs : List Value} (h : FV [] cs) : cs = [] := by
  cases cs with
  | nil => rfl
  | cons v r => exact h.elim
section
variable {H : Type} {enc : TypeId × Value → H} {P : Program} {w : World} {base : Nat} {spare : Nat → Bool} {held : Bool}
end
end Go.Proofs.YtilljoemebbnjaaDoor
namespace Go.Proofs.YtilljoemebbnjaaDoor
open Go.RowKit Go.ChangeShapes Go.WideShapes Go.ChangeAt Go.Deep Sim S2
theorem sliceIn_inB {k : IntKind} {w : World} {a : Option Addr} {len cap : Nat} {zs : List Int} (h : SliceIn k w a len cap zs) (T : TypeId) (o d p : Bool) : InB w.heap.size w ⟨T, 1, len, fun i => [.int k (zs.getD i 0)], o, d, p⟩ (.slice a len cap) := by
  obtain ⟨h1, h2, h3, h4, h5⟩ := h
  refine ⟨⟨by show 0 < 1; omega, fun j hj => ⟨rfl, rfl⟩⟩, a, cap, rfl, h1, fun hn => ?_⟩
  have hn : 0 < len := hn
  obtain ⟨b, off, ha, hb, hc⟩ := h5 (by omega)
  refine ⟨b, off, ha, hb, fun j hj x c hx => ?_⟩
  have hj : j < len := hj
  cases x with
  | zero =>
    have hx : some (Value.int k (zs.getD j 0)) = some c := hx
    rw [← hx]
    have := hc j (by omega)
    show w.cell? ⟨b, off + j * 1 + 0, none⟩ = _
    rw [Nat.mul_one, Nat.add_zero]; exact this
  | succ x => simp at hx
section
variable {H : Type} {enc : TypeId × Value → H} {P : Program} {w : World}
theorem slice_cell {t e : TypeId} {n : Nat} {c : Value} {y : DataW H × List MemPlace} (ht : P.underlying t = some (.slice e)) (h : DataW.trod enc P w 0 (fun _ => true) true n t [c] = some y) : ∃ a len cap, c = .slice a len cap ∧ DataW.Trod enc P w 0 (fun _ => true) true t (.slice a len cap) y.1 y.2 := by
  rcases DataW.trod_slice ht h with ⟨hcs, _⟩ | ⟨a0, len0, cap0, _, _, _, _, hcs, _⟩
  · have hc : c = .slice none 0 0 := by simpa [Value.cells] using hcs
    subst hc
    exact ⟨none, 0, 0, rfl, n, h⟩
  · have hc : c = .slice (some a0) len0 cap0 := by simpa [Value.cells] using hcs
    subst hc
    exact ⟨_, _, _, rfl, n, h⟩
end
end Go.Proofs.YtilljoemebbnjaaDoor
