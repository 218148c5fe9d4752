/- Small words of my own for quiet contracts (functions that only read and may draw) and for worlds that only grow. No word of the program. -/
import Derived.WalkKit
import Derived.WalkSpells
import Derived.WalkLawsBesides
import Derived.Deep.QuietTactic
import Derived.BigQuiet
import Derived.Deep.Draws
namespace Go.Proofs.YthmmmbfjhfocfaaDoor
open Go.RowKit

theorem hid {p : Prop} (h : p) : Hid p := h

/-- The call returns v; the world is w after some draws. -/
def Qt (w : World) (v : Value) : Ending → World → Prop := fun e w' => e = .returned v ∧ ∃ m, w' = w.drewN m
theorem Qt.at0 {P : Program} {f : FuncId} {args : Array Value} {w : World} {n : Nat} {v : Value}
    (h : Calls P f args (w.drewN n) (Qt (w.drewN n) v)) : Calls P f args (w.drewN n) fun e w'' => e = .returned v ∧ ∃ m, w'' = w.drewN m :=
  h.mono fun _ _ ⟨he, m, hm⟩ => ⟨he, n + m, by rw [hm, World.drewN_drewN]⟩
theorem Qt.at1 {P : Program} {f : FuncId} {args : Array Value} {w : World} {a n : Nat} {v : Value}
    (h : Calls P f args (w.drewN (a + n)) (Qt (w.drewN (a + n)) v)) : Calls P f args (w.drewN (a + n)) fun e w'' => e = .returned v ∧ ∃ m, w'' = w.drewN (a + m) :=
  h.mono fun _ _ ⟨he, m, hm⟩ => ⟨he, n + m, by rw [hm, World.drewN_drewN, Nat.add_assoc]⟩
/-- A contract that leaves the world alone is a quiet one. -/
theorem Qt.of_same {P : Program} {f : FuncId} {args : Array Value} {w : World} {v : Value}
    (h : Calls P f args w fun e w' => e = .returned v ∧ w = w') : Calls P f args w (Qt w v) :=
  h.mono fun _ _ ⟨he, hm⟩ => ⟨he, 0, hm.symm⟩
theorem Qt.mk (w : World) (v : Value) (m : Nat) : Qt w v (.returned v) (w.drewN m) := ⟨rfl, m, rfl⟩
theorem Qt.mk0 (w : World) (v : Value) : Qt w v (.returned v) w := ⟨rfl, 0, rfl⟩
theorem Qt.eq (w : World) {v v' : Value} (m : Nat) (h : v' = v) : Qt w v (.returned v') (w.drewN m) := ⟨by rw [h], m, rfl⟩
theorem Qt.eq0 (w : World) {v v' : Value} (h : v' = v) : Qt w v (.returned v') w := ⟨by rw [h], 0, rfl⟩

theorem below_draws {B : Nat} {a w : World} (h : Below B a w) (n : Nat) : Below B a (w.drewN n) := ⟨h.os, h.tape, h.output, h.size, h.block⟩
/-- All cells and marks below B read as before. -/
theorem below_reads {W w1 : World} {B : Nat} (hb : Below B W w1) : (∀ b o, b < B → w1.cell? ⟨b, o, none⟩ = W.cell? ⟨b, o, none⟩) ∧ (∀ b o, b < B → w1.frozen? ⟨b, o, none⟩ = W.frozen? ⟨b, o, none⟩) :=
  ⟨fun b o h => hb.cell (p := ⟨b, o, none⟩) h, fun b o h => hb.frozen (p := ⟨b, o, none⟩) h⟩

/-- A law's end: it returns true and nothing that was there has turned. -/
def Holds (w : World) : Ending → World → Prop := fun e w' => e = .returned (.bool true) ∧ Below w.heap.size w w'
theorem Holds.mk {w w' : World} (h : Below w.heap.size w w') : Holds w (.returned (.bool true)) w' := ⟨rfl, h⟩

abbrev byteV (b : Nat) : Value := .int .u8 (b : Int)
/-- The slice value v reads as these bytes; its cells lie below block B. -/
def RdB (w : World) (B : Nat) (v : Value) (xs : List Nat) : Prop :=
  ∃ a cap, v = .slice a xs.length cap ∧ (0 < xs.length → ∃ b off, a = some ⟨b, off, none⟩ ∧ b < B ∧ ∀ i, i < xs.length → w.cell? ⟨b, off + i, none⟩ = some (.int .u8 (xs.getD i 0 : Nat)))
theorem RdB.below {w w' : World} {B : Nat} {v : Value} {xs : List Nat} (h : RdB w B v xs) (hb : Below B w w') : RdB w' B v xs := by
  obtain ⟨a, cap, hv, hc⟩ := h
  refine ⟨a, cap, hv, fun hp => ?_⟩
  obtain ⟨b, off, ha, hlt, hcell⟩ := hc hp
  exact ⟨b, off, ha, hlt, fun i hi => (hb.cell (p := ⟨b, off + i, none⟩) hlt).trans (hcell i hi)⟩
theorem RdB.more {w : World} {B B' : Nat} {v : Value} {xs : List Nat} (h : RdB w B v xs) (hB : B ≤ B') : RdB w B' v xs := by
  obtain ⟨a, cap, hv, hc⟩ := h
  refine ⟨a, cap, hv, fun hp => ?_⟩
  obtain ⟨b, off, ha, hlt, hcell⟩ := hc hp
  exact ⟨b, off, ha, Nat.lt_of_lt_of_le hlt hB, hcell⟩
theorem RdB.draws {w : World} {B : Nat} {v : Value} {xs : List Nat} (h : RdB w B v xs) (n : Nat) : RdB (w.drewN n) B v xs := h
/-- The call makes a slice of these bytes; nothing that was there has turned. -/
def MkB (w : World) (xs : List Nat) : Ending → World → Prop := fun e w' => ∃ v, e = .returned v ∧ RdB w' w'.heap.size v xs ∧ Below w.heap.size w w'
theorem RdB.of_own {w : World} {base E n : Nat} {v : Value} {xs : List Nat} (h : w.ownsRow base E 1 v n (xs.map byteV)) : RdB w w.heap.size v xs := by
  have hl : n = xs.length := by have := h.1; simp at this; omega
  subst hl
  rcases h.2 with ⟨rfl, h0⟩ | ⟨g, cap, cur, rfl, _, hh, _⟩
  · exact ⟨none, 0, by rw [h0], fun hp => by omega⟩
  · refine ⟨_, cap, rfl, fun _ => ⟨g, 0, rfl, ?_, fun i hi => ?_⟩⟩
    · rcases Nat.lt_or_ge g w.heap.size with hlt | hge
      · exact hlt
      · rw [Array.getElem?_eq_none hge] at hh; cases hh
    · have := World.ownsRow.cellAt h i (by omega)
      rw [Nat.zero_add, this]
      simp [List.getElem?_eq_getElem hi]

/-- The call makes a new row of these bytes, its own. -/
def MkO (E : TypeId) (w : World) (xs : List Nat) : Ending → World → Prop := fun e w' => ∃ v, e = .returned v ∧ w'.ownsRow w.heap.size E 1 v xs.length (xs.map byteV) ∧ Below w.heap.size w w'
theorem MkO.mkB {E : TypeId} {w : World} {xs : List Nat} {e : Ending} {w' : World} (h : MkO E w xs e w') : MkB w xs e w' := by
  obtain ⟨v, he, ho, hb⟩ := h
  exact ⟨v, he, RdB.of_own ho, hb⟩
/-- 'x[p:p+n]' of a slice of one-cell elements, below the capacity. -/
theorem run_sub {P : Program} {t : TypeId} (ht : P.underlying t = some (.slice (P.elem t))) (hs : ∀ W, (sizeOf (P.elem t)).run P W = .ok 1 W) (b off len cap p n : Nat) (h : p + n ≤ cap) (h0 : 0 < n) (q : Int) (hq : q = (p : Int) + n) (W : World) :
    (Instr.sliceAt t (.slice (some ⟨b, off, none⟩) len cap) (some (.int .i64 (p : Int))) (some (.int .i64 q)) none).run P W = .ok (.slice (some ⟨b, off + p, none⟩) n (cap - p)) W := by
  subst hq
  have e2 : ((p : Int) + n).toNat = p + n := by omega
  have hne : ¬ cap = p := by omega
  rw [run_sliceAt_slice (h := ht), run_slice_lh (ht := ht) (h0 := by omega) (h1 := by omega) (h2 := by omega), hs]
  simp only [Result.andThen, sliced, Int.toNat_natCast, e2, if_neg hne, Option.map_some, Nat.mul_one, Nat.add_sub_cancel_left]
  unfold Addr.add
  by_cases hp : p = 0
  · simp [hp]
  · simp [hp]
end Go.Proofs.YthmmmbfjhfocfaaDoor
