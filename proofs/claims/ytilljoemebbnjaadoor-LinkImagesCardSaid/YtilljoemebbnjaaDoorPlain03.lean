/- Plain words for layer 3: the operations' names, forms and uses, as the document lists them; which fields make an instruction. No word of the program. -/
import Derived.Test.YtilljoemebbnjaaDoorK03
set_option linter.unusedVariables false
set_option linter.unusedSimpArgs false
namespace Go.Proofs.YtilljoemebbnjaaDoor
open Go.RowKit
def formL : List Int := [-1, 1, 1, 2, 3, 4, 4, 4, 4, 4, 4, 3, 3, 3, 3, 3, 3, 3, 5, 5, 5, 5, 3, 3, 3, 3, 3, 3, 7, 7, 7, 3, 8, 8, 8, 6, 6, 6, 6, 6, 6, 6, 6, 6, 6, 6, 6, 6, 6, 6, 6, 6, 6, 6, 6, 6, 6, 6, 6, 6, 6, 6, 6, 9, 0, 0, 10, 11, 11, 11, 11, 11, 11, 11, 11, 11, 11, 10, 11, 11, 11, 11, 11, 11, 11, 11, 11, 11]
def readL : List Bool := [false, false, false, false, false, false, false, false, false, false, false, true, true, true, true, true, true, true, false, false, false, false, false, false, false, false, false, false, false, false, false, false, false, false, false, false, false, false, false, false, false, false, false, false, false, false, false, false, false, false, false, false, false, false, false, false, false, false, false, false, false, false, false, false, false, false, true, false, true, true, true, true, true, true, true, true, true, true, false, true, true, true, true, true, true, true, true, true]
def writeL : List Bool := [false, false, false, false, false, false, false, false, false, false, false, false, false, false, false, false, false, false, true, true, true, true, false, false, false, false, false, false, false, false, false, false, false, false, false, false, false, false, false, false, false, false, false, false, false, false, false, false, false, false, false, false, false, false, false, false, false, false, false, false, false, false, false, false, false, false, false, true, true, true, true, true, true, true, true, true, true, false, true, true, true, true, true, true, true, true, true, true]
def atZ {α : Type} (l : List α) (d : α) (op : Int) : α := if 0 <= op then l.getD op.toNat d else d
def formZ (op : Int) : Int := atZ formL (-1) op
def readZ (op : Int) : Bool := atZ readL false op
def writeZ (op : Int) : Bool := atZ writeL false op
def okB (op : Int) : Bool := decide (1 <= op /\ op <= 87)
def letL : List Int := [0, 85, 85, 74, 73, 66, 66, 66, 66, 66, 66, 73, 73, 73, 73, 73, 73, 73, 83, 83, 83, 83, 73, 73, 73, 73, 73, 73, 72, 72, 72, 73, 87, 87, 87, 82, 82, 82, 82, 82, 82, 82, 82, 82, 82, 82, 82, 82, 82, 82, 82, 82, 82, 82, 82, 82, 82, 82, 82, 82, 82, 82, 82, 70, 78, 78, 76, 65, 65, 65, 65, 65, 65, 65, 65, 65, 65, 76, 65, 65, 65, 65, 65, 65, 65, 65, 65, 65]
def letZ (op : Int) : Int := atZ letL 0 op
theorem atZ_out {α : Type} (l : List α) (d : α) (op : Int) (h : op < 0 \/ (l.length : Int) <= op) : atZ l d op = d := by
 unfold atZ
 by_cases h0 : 0 <= op
 . rw [if_pos h0, List.getD_eq_getElem?_getD, List.getElem?_eq_none (by omega)]; rfl
 . rw [if_neg h0]
theorem okB_nat (n : Nat) (h0 : 1 <= n) (h : n < 88) : okB (n : Int) = true := by unfold okB; rw [decide_eq_true_iff]; omega
theorem okB_out {op : Int} (h : op < 1 \/ 87 < op) : okB op = false := by unfold okB; rw [decide_eq_false_iff_not]; omega
theorem op_cases (op : Int) : (∃ n : Nat, 1 <= n /\ n < 88 /\ op = (n : Int)) \/ (op < 1 \/ 87 < op) := by
 by_cases h : 1 <= op /\ op <= 87
 . exact .inl ⟨op.toNat, by omega, by omega, by omega⟩
 . exact .inr (by omega)
theorem formZ_out {op : Int} (h : op < 1 \/ 87 < op) : formZ op = -1 := by
 by_cases h0 : op = 0
 . subst h0; rfl
 . exact atZ_out _ _ _ (by have : formL.length = 88 := by decide +kernel
                           omega)
theorem readZ_out {op : Int} (h : op < 1 \/ 87 < op) : readZ op = false := by
 by_cases h0 : op = 0
 . subst h0; rfl
 . exact atZ_out _ _ _ (by have : readL.length = 88 := by decide +kernel
                           omega)
theorem writeZ_out {op : Int} (h : op < 1 \/ 87 < op) : writeZ op = false := by
 by_cases h0 : op = 0
 . subst h0; rfl
 . exact atZ_out _ _ _ (by have : writeL.length = 88 := by decide +kernel
                           omega)
theorem letZ_out {op : Int} (h : op < 1 \/ 87 < op) : letZ op = 0 := by
 by_cases h0 : op = 0
 . subst h0; rfl
 . exact atZ_out _ _ _ (by have : letL.length = 88 := by decide +kernel
                           omega)
def rdF (k : Int) : Bool := atZ [false, true, true, true, false, false, true, true, true, false, true, true] false k
def aF (k : Int) : Bool := atZ [false, false, false, true, true, true, true, true, true, false, true, true] false k
def bF (k : Int) : Bool := atZ [false, false, false, false, true, true, true, false, false, false, false, true] false k
def oF (k : Int) : Bool := atZ [false, false, false, false, false, false, false, false, false, false, true, true] false k
def fitZ (x n : Int) : Bool := if 1 <= n /\ n <= 64 then fitsB x n.toNat else false
def regB (r : Int) (u : Bool) : Bool := if u = true then decide (0 <= r /\ r <= 31) else decide (r = 0)
theorem reg_eq (r : Int) (u : Bool) : regB r u = bif u then decide (r >= 0) && decide (r <= 31) else r == 0 := by
 unfold regB; cases u <;> simp; rfl
def evenB (v : Int) : Bool := v.tmod 2 == 0
def btwB (v l m : Int) : Bool := decide (l <= v /\ v <= m)
def immB (v k : Int) : Bool :=
 bif k == 1 then fitZ v 20 else bif k == 2 then evenB v && fitZ v 21 else bif k == 4 then evenB v && fitZ v 13 else bif k == 3 then fitZ v 12 else bif k == 5 then fitZ v 12
 else bif k == 7 then btwB v 0 63 else bif k == 8 then btwB v 0 31 else bif k == 9 then btwB v 0 255 else v == 0
structure In where
 op : Int
 rd : Int
 a : Int
 b : Int
 imm : Int
 aq : Bool
 rl : Bool
def inV (i : In) : Value := .agg #[.int .i64 i.op, .int .i64 i.rd, .int .i64 i.a, .int .i64 i.b, .int .i64 i.imm, .bool i.aq, .bool i.rl]
def mayB (i : In) : Bool :=
 okB i.op && (regB i.rd (rdF (formZ i.op)) && (regB i.a (aF (formZ i.op)) && (regB i.b (bF (formZ i.op)) && (immB i.imm (formZ i.op) && (oF (formZ i.op) || (!i.aq && !i.rl))))))
def decIn : List Value -> Option In
 | [.agg cs] => match cs.toList with
   | [.int .i64 a, .int .i64 b, .int .i64 c, .int .i64 d, .int .i64 e, .bool f, .bool g] => some ⟨a, b, c, d, e, f, g⟩
   | _ => none
 | _ => none
theorem decIn_eq : ∀ (l : List Value) (i : In), decIn l = some i -> l = [inV i] := by
 intro l i h
 unfold decIn at h
 split at h
 . rename_i cs
   split at h
   . rename_i a b c d e f g hc
     simp only [Option.some.injEq] at h
     subst h
     have : cs = #[.int .i64 a, .int .i64 b, .int .i64 c, .int .i64 d, .int .i64 e, .bool f, .bool g] := by rw [<- Array.toArray_toList (xs := cs), hc]
     rw [this]; rfl
   . cases h
 . cases h
def hasB (op : Int) (s : ByteArray) : Bool := s.data.toList.any fun c => (c.toNat : Int) == letZ op
theorem let_has' : ∀ n : Fin 88, hasB n.val ⟨#[85, 74, 73, 82, 72, 87, 76, 65]⟩ = rdF (formZ n.val) /\ hasB n.val ⟨#[73, 66, 83, 82, 72, 87, 76, 65]⟩ = aF (formZ n.val) /\ hasB n.val ⟨#[66, 83, 82, 65]⟩ = bF (formZ n.val) /\ hasB n.val ⟨#[76, 65]⟩ = oF (formZ n.val) := by decide +kernel
end Go.Proofs.YtilljoemebbnjaaDoor
