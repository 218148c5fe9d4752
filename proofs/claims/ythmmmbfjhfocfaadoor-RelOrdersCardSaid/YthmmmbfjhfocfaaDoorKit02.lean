/- Slices of integers of any kind: what reads as a list, what a call makes. No word of the program. -/
import Derived.Test.YthmmmbfjhfocfaaDoorKit01
namespace Go.Proofs.YthmmmbfjhfocfaaDoor
open Go.RowKit

/-- The slice value v reads as these integers of kind k; its cells lie below block B. -/
def RdI (k : IntKind) (w : World) (B : Nat) (v : Value) (xs : List Int) : Prop :=
  ∃ a cap, v = .slice a xs.length cap ∧ (0 < xs.length → ∃ b off, a = some ⟨b, off, none⟩ ∧ b < B ∧ ∀ i, i < xs.length → w.cell? ⟨b, off + i, none⟩ = some (.int k (xs.getD i 0)))
theorem RdI.below {k : IntKind} {w w' : World} {B : Nat} {v : Value} {xs : List Int} (h : RdI k w B v xs) (hb : Below B w w') : RdI k w' B v xs := by
  obtain ⟨a, cap, hv, hc⟩ := h
  refine ⟨a, cap, hv, fun hp => ?_⟩
  obtain ⟨b, off, ha, hlt, hcell⟩ := hc hp
  exact ⟨b, off, ha, hlt, fun i hi => (hb.cell (p := ⟨b, off + i, none⟩) hlt).trans (hcell i hi)⟩
theorem RdI.more {k : IntKind} {w : World} {B B' : Nat} {v : Value} {xs : List Int} (h : RdI k w B v xs) (hB : B ≤ B') : RdI k w B' v xs := by
  obtain ⟨a, cap, hv, hc⟩ := h
  refine ⟨a, cap, hv, fun hp => ?_⟩
  obtain ⟨b, off, ha, hlt, hcell⟩ := hc hp
  exact ⟨b, off, ha, Nat.lt_of_lt_of_le hlt hB, hcell⟩
theorem RdI.draws {k : IntKind} {w : World} {B : Nat} {v : Value} {xs : List Int} (h : RdI k w B v xs) (n : Nat) : RdI k (w.drewN n) B v xs := h
/-- The call makes a slice of these integers; nothing that was there has turned. -/
def MkI (k : IntKind) (w : World) (xs : List Int) : Ending → World → Prop := fun e w' => ∃ v, e = .returned v ∧ RdI k w' w'.heap.size v xs ∧ Below w.heap.size w w'
theorem RdI.of_own {k : IntKind} {w : World} {base E n : Nat} {v : Value} {xs : List Int} (h : w.ownsRow base E 1 v n (xs.map (Value.int k))) : RdI k w w.heap.size v xs := by
  have hl : n = xs.length := by have := h.1; simp at this; omega
  subst hl
  rcases h.2 with ⟨rfl, h0⟩ | ⟨g, cap, cur, rfl, _, hh, _⟩
  · exact ⟨none, 0, by rw [h0], fun hp => by omega⟩
  · refine ⟨_, cap, rfl, fun _ => ⟨g, 0, rfl, ?_, fun i hi => ?_⟩⟩
    · rcases Nat.lt_or_ge g w.heap.size with hlt | hge
      · exact hlt
      · rw [Array.getElem?_eq_none hge] at hh; cases hh
    · have := World.ownsRow.cellAt h i (by omega)
      rw [Nat.zero_add, this]
      simp [List.getElem?_eq_getElem hi]
end Go.Proofs.YthmmmbfjhfocfaaDoor
