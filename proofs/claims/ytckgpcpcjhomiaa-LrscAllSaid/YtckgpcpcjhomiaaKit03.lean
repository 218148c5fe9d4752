/- Slices of strings: what reads as a list, what a call makes. No word of the program. -/
import Derived.Test.YtckgpcpcjhomiaaKit01
namespace Go.Proofs.Ytckgpcpcjhomiaa
open Go.RowKit

/-- The slice value v reads as these strings; its cells lie below block B. -/
def RdS (w : World) (B : Nat) (v : Value) (xs : List ByteArray) : Prop :=
  ∃ a cap, v = .slice a xs.length cap ∧ (0 < xs.length → ∃ b off, a = some ⟨b, off, none⟩ ∧ b < B ∧ ∀ i, i < xs.length → w.cell? ⟨b, off + i, none⟩ = some (.string (xs.getD i ByteArray.empty)))
theorem RdS.below {w w' : World} {B : Nat} {v : Value} {xs : List ByteArray} (h : RdS w B v xs) (hb : Below B w w') : RdS w' B v xs := by
  obtain ⟨a, cap, hv, hc⟩ := h
  refine ⟨a, cap, hv, fun hp => ?_⟩
  obtain ⟨b, off, ha, hlt, hcell⟩ := hc hp
  exact ⟨b, off, ha, hlt, fun i hi => (hb.cell (p := ⟨b, off + i, none⟩) hlt).trans (hcell i hi)⟩
/-- The call makes a slice of these strings; nothing that was there has turned. -/
def MkS (w : World) (xs : List ByteArray) : Ending → World → Prop := fun e w' => ∃ v, e = .returned v ∧ RdS w' w'.heap.size v xs ∧ Below w.heap.size w w'
end Go.Proofs.Ytckgpcpcjhomiaa
