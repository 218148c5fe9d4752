/- Regions that draw their order, in the round of a range over a function: what goes outside a round goes inside one. No word of the program. -/
import Derived.Test.YthmmmbfjhfocfaaDoorHp14
import Derived.StillTailTactics
import Derived.OrdersIn
import Derived.OwnWalkIn
import Derived.RangeFuncCalls
namespace Go.Proofs.YthmmmbfjhfocfaaDoor
open Go Go.RowKit
set_option linter.unusedVariables false
set_option linter.unusedSimpArgs false

theorem rows_in {P : Program} {row : String} {args : Array Value} {w : World} {R : Value → World → Prop} (h : Rows P row args w R) (l n : Nat) : RowsIn (Fence.wide.inRound l) n P row args w R := fun c cs _ => by
  obtain ⟨v, w', hr, hs⟩ := h c cs
  exact ⟨v, w', hr, (stepsIn_wide (P := P)).2 hs⟩
/-- The ends of an operation, outside and inside a round. -/
theorem upon_in {P : Program} {o : Oper} {a : Act} {K K' : Act → World → Prop} {Q : Exit → Act → World → Prop} (hK : ∀ a w, K a w → K' a w) (l n : Nat) : ∀ r, o.upon P a K Q r → o.uponIn (Fence.wide.inRound l) n P a K' Q r := by
  intro r h
  unfold Oper.upon at h
  split at h
  · exact hK _ _ h
  · exact hK _ _ h
  · exact hK _ _ h
  · refine ⟨(fun h => by cases h), ?_⟩
    refine CallsIn.inRound l (callsIn_wide.2 (h.mono fun e w' he => ?_))
    cases e with
    | returned v => exact hK _ _ he
    | panicked ch => exact he
    | outgrown => exact he
  · exact ⟨(fun h => by cases h), (rows_in h l _).mono fun v w' hv => hK _ _ hv⟩
  · exact h
  · exact h.elim
theorem op_in {P : Program} {ops : Array Oper} {Q : Exit → Act → World → Prop} (hQ : ¬ LetsOut Q) (hd : ∀ (i : Nat) (o : Oper) c, ops[i]? = some o → o.op ≠ .defer c) (l n : Nat) {i : Nat} {K K' : Act → World → Prop} (hK : ∀ a w, K a w → K' a w) {a : Act} {w : World} (h : wpOp P ops Q i K a w) : wpOpIn (Fence.wide.inRound l) n P ops Q i K' a w := by
  unfold wpOp at h
  unfold wpOpIn
  cases ho : ops[i]? with
  | none => rw [ho] at h; exact hK _ _ h
  | some o =>
    rw [ho] at h
    by_cases hw : Region.wanted o (yielded ops a.tmps) = true
    · simp only [hw, if_true] at h ⊢
      rcases h with h | ⟨_, h⟩
      · refine ⟨fun f _ => trivial, ?_⟩
        rw [Oper.semAt_plain _ _ _ (fun c => hd i o c ho)]
        exact upon_in hK l n _ h
      · exact absurd h hQ
    · simp only [hw] at h ⊢
      exact ⟨fun f _ => trivial, hK _ _ h⟩
theorem any_in {P : Program} {ops : Array Oper} {Q : Exit → Act → World → Prop} (hQ : ¬ LetsOut Q) (hd : ∀ (i : Nat) (o : Oper) c, ops[i]? = some o → o.op ≠ .defer c) (l n : Nat) : ∀ (g : Nat) (listed : Array Bool) (a : Act) (w : World), wpAny P .any ops Q g listed a w → wpAnyIn (Fence.wide.inRound l) n P .any ops Q g listed a w
  | 0, _, _, _, h => h
  | g + 1, listed, a, w, h => ⟨h.1, fun i hi => op_in hQ hd l n (fun a' w' hk => any_in hQ hd l n g _ a' w' hk) (h.2 i hi)⟩
def noDefer (l : List Oper) : Bool := l.all fun o => match o.op with
  | .defer _ => false
  | _ => true
theorem noDefer_ok {l : List Oper} (h : noDefer l = true) : ∀ (i : Nat) (o : Oper) c, l.toArray[i]? = some o → o.op ≠ .defer c := fun i o c ho hc => by
  have hm : o ∈ l := List.mem_of_getElem? (by simpa using ho)
  have := List.all_eq_true.mp h o hm
  rw [hc] at this
  cases this
/-- Reads in any order, and one last operation. -/
theorem tail_in {P : Program} {id lp m : Nat} {Q : Exit → Act → World → Prop} {a : Act} {w : World} {l : List Oper} (n : Nat) (hm : P.follows .mixedOrders = true) (hB : Region.lexTailB .any l.toArray n = true) (hdf : noDefer l = true) (hQ : ¬ LetsOut Q)
    (h : wpStill P l.toArray { w with drawn := w.drawn + 1 } (fun a' => wpList P l.toArray Q (l.drop n) a' { w with drawn := w.drawn + 1 }) (l.take n) a) : (Code.region id l.toArray true).wpIn (Fence.wide.inRound lp) m P Q a w := by
  refine wpIn_region_any hm (any_in hQ (noDefer_ok hdf) lp m _ _ _ _ ?_)
  have hB2 := hB
  simp only [Region.lexTailB, Bool.and_eq_true, decide_eq_true_eq] at hB2
  obtain ⟨⟨⟨⟨hsel, hn⟩, hs⟩, hc⟩, hlex⟩ := hB2
  have hn' : n < l.length := by simpa using hn
  have hlen : n + (l.drop n).length = l.toArray.size := by simp; omega
  have hdl : l.toArray.size - n = (l.drop n).length := by omega
  rw [hdl] at hlex
  have htl : (l.take n).length = n := by simp; omega
  have start : HeadInv .any l.toArray n (Array.replicate l.toArray.size false) := ⟨by simp, (fun j oj _ hl => by rw [getD_replicate_false] at hl; cases hl), fun t _ ht => getD_in (by simpa using ht) (getD_replicate_false _ _)⟩
  have hat : ∀ j : Nat, j < (l.take n).length → (l.take n)[j]? = l.toArray[0 + j]? := fun j hj => by
    have hj' : j < n := by omega
    simp [hj']
  have H := wpAnyL_lex (g := (l.drop n).length) hsel hs hc hn (l.take n) 0 _ a hat (by omega) start (by rw [htl]; exact hlex) h
  have H2 := wpAny_of_head (Q' := Q) (g := (l.drop n).length) (fun listed a' hL => wpAny_of_seq (l.drop n) n listed a' _ (fun j => by simp [List.getElem?_drop]) hL.1 hL.2) _ _ _ H
  rw [htl, hlen] at H2
  exact H2
end Go.Proofs.YthmmmbfjhfocfaaDoor
