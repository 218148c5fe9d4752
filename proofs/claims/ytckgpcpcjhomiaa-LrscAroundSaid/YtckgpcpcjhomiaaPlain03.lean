/- Plain words for layer 3: the operations' names, forms and uses, as the document lists them; which fields make an instruction. No word of the program. -/
import Derived.Test.YtckgpcpcjhomiaaPlain01
namespace Go.Proofs.Ytckgpcpcjhomiaa
open Go.RowKit

/-- The operations' names, by number; at 0 the empty one. -/
def opL : List ByteArray := [⟨#[]⟩, ⟨#[108, 117, 105]⟩, ⟨#[97, 117, 105, 112, 99]⟩, ⟨#[106, 97, 108]⟩, ⟨#[106, 97, 108, 114]⟩, ⟨#[98, 101, 113]⟩, ⟨#[98, 110, 101]⟩, ⟨#[98, 108, 116]⟩, ⟨#[98, 103, 101]⟩, ⟨#[98, 108, 116, 117]⟩, ⟨#[98, 103, 101, 117]⟩, ⟨#[108, 98]⟩, ⟨#[108, 104]⟩, ⟨#[108, 119]⟩, ⟨#[108, 100]⟩, ⟨#[108, 98, 117]⟩, ⟨#[108, 104, 117]⟩, ⟨#[108, 119, 117]⟩, ⟨#[115, 98]⟩, ⟨#[115, 104]⟩, ⟨#[115, 119]⟩, ⟨#[115, 100]⟩, ⟨#[97, 100, 100, 105]⟩, ⟨#[115, 108, 116, 105]⟩, ⟨#[115, 108, 116, 105, 117]⟩, ⟨#[120, 111, 114, 105]⟩, ⟨#[111, 114, 105]⟩, ⟨#[97, 110, 100, 105]⟩, ⟨#[115, 108, 108, 105]⟩, ⟨#[115, 114, 108, 105]⟩, ⟨#[115, 114, 97, 105]⟩, ⟨#[97, 100, 100, 105, 119]⟩, ⟨#[115, 108, 108, 105, 119]⟩, ⟨#[115, 114, 108, 105, 119]⟩, ⟨#[115, 114, 97, 105, 119]⟩, ⟨#[97, 100, 100]⟩, ⟨#[115, 117, 98]⟩, ⟨#[115, 108, 108]⟩, ⟨#[115, 108, 116]⟩, ⟨#[115, 108, 116, 117]⟩, ⟨#[120, 111, 114]⟩, ⟨#[115, 114, 108]⟩, ⟨#[115, 114, 97]⟩, ⟨#[111, 114]⟩, ⟨#[97, 110, 100]⟩, ⟨#[97, 100, 100, 119]⟩, ⟨#[115, 117, 98, 119]⟩, ⟨#[115, 108, 108, 119]⟩, ⟨#[115, 114, 108, 119]⟩, ⟨#[115, 114, 97, 119]⟩, ⟨#[109, 117, 108]⟩, ⟨#[109, 117, 108, 104]⟩, ⟨#[109, 117, 108, 104, 115, 117]⟩, ⟨#[109, 117, 108, 104, 117]⟩, ⟨#[100, 105, 118]⟩, ⟨#[100, 105, 118, 117]⟩, ⟨#[114, 101, 109]⟩, ⟨#[114, 101, 109, 117]⟩, ⟨#[109, 117, 108, 119]⟩, ⟨#[100, 105, 118, 119]⟩, ⟨#[100, 105, 118, 117, 119]⟩, ⟨#[114, 101, 109, 119]⟩, ⟨#[114, 101, 109, 117, 119]⟩, ⟨#[102, 101, 110, 99, 101]⟩, ⟨#[101, 99, 97, 108, 108]⟩, ⟨#[101, 98, 114, 101, 97, 107]⟩, ⟨#[108, 114, 46, 119]⟩, ⟨#[115, 99, 46, 119]⟩, ⟨#[97, 109, 111, 115, 119, 97, 112, 46, 119]⟩, ⟨#[97, 109, 111, 97, 100, 100, 46, 119]⟩, ⟨#[97, 109, 111, 120, 111, 114, 46, 119]⟩, ⟨#[97, 109, 111, 97, 110, 100, 46, 119]⟩, ⟨#[97, 109, 111, 111, 114, 46, 119]⟩, ⟨#[97, 109, 111, 109, 105, 110, 46, 119]⟩, ⟨#[97, 109, 111, 109, 97, 120, 46, 119]⟩, ⟨#[97, 109, 111, 109, 105, 110, 117, 46, 119]⟩, ⟨#[97, 109, 111, 109, 97, 120, 117, 46, 119]⟩, ⟨#[108, 114, 46, 100]⟩, ⟨#[115, 99, 46, 100]⟩, ⟨#[97, 109, 111, 115, 119, 97, 112, 46, 100]⟩, ⟨#[97, 109, 111, 97, 100, 100, 46, 100]⟩, ⟨#[97, 109, 111, 120, 111, 114, 46, 100]⟩, ⟨#[97, 109, 111, 97, 110, 100, 46, 100]⟩, ⟨#[97, 109, 111, 111, 114, 46, 100]⟩, ⟨#[97, 109, 111, 109, 105, 110, 46, 100]⟩, ⟨#[97, 109, 111, 109, 97, 120, 46, 100]⟩, ⟨#[97, 109, 111, 109, 105, 110, 117, 46, 100]⟩, ⟨#[97, 109, 111, 109, 97, 120, 117, 46, 100]⟩]
def opS (r : Nat) : ByteArray := opL.getD r ⟨#[]⟩
/-- The operations' forms, by number. -/
def formL : List Int := [-1, 1, 1, 2, 3, 4, 4, 4, 4, 4, 4, 3, 3, 3, 3, 3, 3, 3, 5, 5, 5, 5, 3, 3, 3, 3, 3, 3, 7, 7, 7, 3, 8, 8, 8, 6, 6, 6, 6, 6, 6, 6, 6, 6, 6, 6, 6, 6, 6, 6, 6, 6, 6, 6, 6, 6, 6, 6, 6, 6, 6, 6, 6, 9, 0, 0, 10, 11, 11, 11, 11, 11, 11, 11, 11, 11, 11, 10, 11, 11, 11, 11, 11, 11, 11, 11, 11, 11]
def readL : List Bool := [false, false, false, false, false, false, false, false, false, false, false, true, true, true, true, true, true, true, false, false, false, false, false, false, false, false, false, false, false, false, false, false, false, false, false, false, false, false, false, false, false, false, false, false, false, false, false, false, false, false, false, false, false, false, false, false, false, false, false, false, false, false, false, false, false, false, true, false, true, true, true, true, true, true, true, true, true, true, false, true, true, true, true, true, true, true, true, true]
def writeL : List Bool := [false, false, false, false, false, false, false, false, false, false, false, false, false, false, false, false, false, false, true, true, true, true, false, false, false, false, false, false, false, false, false, false, false, false, false, false, false, false, false, false, false, false, false, false, false, false, false, false, false, false, false, false, false, false, false, false, false, false, false, false, false, false, false, false, false, false, false, true, true, true, true, true, true, true, true, true, true, false, true, true, true, true, true, true, true, true, true, true]
/-- An Int-indexed reading of a list. -/
def atZ {α : Type} (l : List α) (d : α) (op : Int) : α := if 0 ≤ op then l.getD op.toNat d else d
def formZ (op : Int) : Int := atZ formL (-1) op
def readZ (op : Int) : Bool := atZ readL false op
def writeZ (op : Int) : Bool := atZ writeL false op
def nameZ (op : Int) : ByteArray := atZ opL ⟨#[]⟩ op
def okB (op : Int) : Bool := decide (1 ≤ op ∧ op ≤ 87)
/-- The letters of the reference. -/
def letL : List Int := [0, 85, 85, 74, 73, 66, 66, 66, 66, 66, 66, 73, 73, 73, 73, 73, 73, 73, 83, 83, 83, 83, 73, 73, 73, 73, 73, 73, 72, 72, 72, 73, 87, 87, 87, 82, 82, 82, 82, 82, 82, 82, 82, 82, 82, 82, 82, 82, 82, 82, 82, 82, 82, 82, 82, 82, 82, 82, 82, 82, 82, 82, 82, 70, 78, 78, 76, 65, 65, 65, 65, 65, 65, 65, 65, 65, 65, 76, 65, 65, 65, 65, 65, 65, 65, 65, 65, 65]
def letZ (op : Int) : Int := atZ letL 0 op
theorem atZ_nat {α : Type} (l : List α) (d : α) (n : Nat) : atZ l d (n : Int) = l.getD n d := by unfold atZ; rw [if_pos (by omega), Int.toNat_natCast]
theorem atZ_out {α : Type} (l : List α) (d : α) (op : Int) (h : op < 0 ∨ (l.length : Int) ≤ op) : atZ l d op = d := by
  unfold atZ
  by_cases h0 : 0 ≤ op
  · rw [if_pos h0, List.getD_eq_getElem?_getD, List.getElem?_eq_none (by omega)]; rfl
  · rw [if_neg h0]
theorem okB_nat (n : Nat) (h0 : 1 ≤ n) (h : n < 88) : okB (n : Int) = true := by unfold okB; rw [decide_eq_true_iff]; omega
theorem okB_out {op : Int} (h : op < 1 ∨ 87 < op) : okB op = false := by unfold okB; rw [decide_eq_false_iff_not]; omega
/-- An operation's number is one of 1 to 87, or there is none. -/
theorem op_cases (op : Int) : (∃ n : Nat, 1 ≤ n ∧ n < 88 ∧ op = (n : Int)) ∨ (op < 1 ∨ 87 < op) := by
  by_cases h : 1 ≤ op ∧ op ≤ 87
  · exact .inl ⟨op.toNat, by omega, by omega, by omega⟩
  · exact .inr (by omega)
theorem formZ_out {op : Int} (h : op < 1 ∨ 87 < op) : formZ op = -1 := by
  by_cases h0 : op = 0
  · subst h0; rfl
  · exact atZ_out _ _ _ (by have : formL.length = 88 := by decide +kernel
                            omega)
theorem readZ_out {op : Int} (h : op < 1 ∨ 87 < op) : readZ op = false := by
  by_cases h0 : op = 0
  · subst h0; rfl
  · exact atZ_out _ _ _ (by have : readL.length = 88 := by decide +kernel
                            omega)
theorem writeZ_out {op : Int} (h : op < 1 ∨ 87 < op) : writeZ op = false := by
  by_cases h0 : op = 0
  · subst h0; rfl
  · exact atZ_out _ _ _ (by have : writeL.length = 88 := by decide +kernel
                            omega)
theorem nameZ_out {op : Int} (h : op < 1 ∨ 87 < op) : nameZ op = ⟨#[]⟩ := by
  by_cases h0 : op = 0
  · subst h0; rfl
  · exact atZ_out _ _ _ (by have : opL.length = 88 := by decide +kernel
                            omega)
theorem letZ_out {op : Int} (h : op < 1 ∨ 87 < op) : letZ op = 0 := by
  by_cases h0 : op = 0
  · subst h0; rfl
  · exact atZ_out _ _ _ (by have : letL.length = 88 := by decide +kernel
                            omega)
/-- Which fields a form uses, by the form's number. -/
def rdF (k : Int) : Bool := atZ [false, true, true, true, false, false, true, true, true, false, true, true] false k
def aF (k : Int) : Bool := atZ [false, false, false, true, true, true, true, true, true, false, true, true] false k
def bF (k : Int) : Bool := atZ [false, false, false, false, true, true, true, false, false, false, false, true] false k
def oF (k : Int) : Bool := atZ [false, false, false, false, false, false, false, false, false, false, true, true] false k
def fitZ (x n : Int) : Bool := if 1 ≤ n ∧ n ≤ 64 then fitsB x n.toNat else false
def regB (r : Int) (u : Bool) : Bool := if u = true then decide (0 ≤ r ∧ r ≤ 31) else decide (r = 0)
theorem reg_eq (r : Int) (u : Bool) : regB r u = bif u then decide (r ≥ 0) && decide (r ≤ 31) else r == 0 := by
  unfold regB; cases u <;> simp; rfl
def evenB (v : Int) : Bool := v.tmod 2 == 0
def btwB (v l m : Int) : Bool := decide (l ≤ v ∧ v ≤ m)
def wideB (op : Int) : Bool := op == 14 || (op == 21 || btwB op 77 87)
def immB (v k : Int) : Bool :=
  bif k == 1 then fitZ v 20 else bif k == 2 then evenB v && fitZ v 21 else bif k == 4 then evenB v && fitZ v 13 else bif k == 3 then fitZ v 12 else bif k == 5 then fitZ v 12
  else bif k == 7 then btwB v 0 63 else bif k == 8 then btwB v 0 31 else bif k == 9 then btwB v 0 255 else v == 0
/-- An instruction's fields. -/
structure In where
  op : Int
  rd : Int
  a : Int
  b : Int
  imm : Int
  aq : Bool
  rl : Bool
def inV (i : In) : Value := .agg #[.int .i64 i.op, .int .i64 i.rd, .int .i64 i.a, .int .i64 i.b, .int .i64 i.imm, .bool i.aq, .bool i.rl]
def mayB (i : In) : Bool :=
  okB i.op && (regB i.rd (rdF (formZ i.op)) && (regB i.a (aF (formZ i.op)) && (regB i.b (bF (formZ i.op)) && (immB i.imm (formZ i.op) && (oF (formZ i.op) || (!i.aq && !i.rl))))))
def decIn : List Value → Option In
  | [.agg cs] => match cs.toList with
    | [.int .i64 a, .int .i64 b, .int .i64 c, .int .i64 d, .int .i64 e, .bool f, .bool g] => some ⟨a, b, c, d, e, f, g⟩
    | _ => none
  | _ => none
theorem decIn_eq : ∀ (l : List Value) (i : In), decIn l = some i → l = [inV i] := by
  intro l i h
  unfold decIn at h
  split at h
  · rename_i cs
    split at h
    · rename_i a b c d e f g hc
      simp only [Option.some.injEq] at h
      subst h
      have : cs = #[.int .i64 a, .int .i64 b, .int .i64 c, .int .i64 d, .int .i64 e, .bool f, .bool g] := by rw [← Array.toArray_toList (xs := cs), hc]
      rw [this]; rfl
    · cases h
  · cases h

/-- Is s the name of operation r? -/
def isOpB (s : ByteArray) (r : Nat) : Bool := s.toList == (opS r).toList
/-- The first of n from operation r on whose name is s; 0: none. -/
def findFrom (s : ByteArray) (r : Nat) : Nat → Nat
  | 0 => 0
  | n + 1 => if isOpB s r then r else findFrom s (r + 1) n
/-- The operation of this name; 0: there is none. -/
def findN (s : ByteArray) : Nat := findFrom s 1 87
theorem findFrom_hit (s : ByteArray) : ∀ (n r j : Nat), r ≤ j → j < r + n → isOpB s j = true → (∀ i, r ≤ i → i < j → isOpB s i = false) → findFrom s r n = j
  | 0, r, j, h1, h2, _, _ => by omega
  | n + 1, r, j, h1, h2, h3, h4 => by
    unfold findFrom
    by_cases h : r = j
    · subst h; rw [if_pos h3]
    · rw [if_neg (by rw [h4 r (Nat.le_refl _) (by omega)]; simp)]
      exact findFrom_hit s n (r + 1) j (by omega) (by omega) h3 (fun i hi hj => h4 i (by omega) hj)
theorem findFrom_none (s : ByteArray) : ∀ (n r : Nat), (∀ i, r ≤ i → i < r + n → isOpB s i = false) → findFrom s r n = 0
  | 0, _, _ => rfl
  | n + 1, r, h => by
    unfold findFrom
    rw [if_neg (by rw [h r (Nat.le_refl _) (by omega)]; simp)]
    exact findFrom_none s n (r + 1) (fun i hi hj => h i (by omega) (by omega))
/-- None of the operations from 1 up to j has this name. -/
def NotOp (s : ByteArray) (j : Nat) : Prop := ∀ i, 1 ≤ i → i < j → isOpB s i = false
theorem NotOp.succ {s : ByteArray} {j : Nat} (h : NotOp s j) (hn : isOpB s j = false) : NotOp s (j + 1) := fun i h1 hi => by
  rcases Nat.lt_or_ge i j with h' | h'
  · exact h i h1 h'
  · obtain rfl : i = j := by omega
    exact hn
theorem findN_hit {s : ByteArray} {j : Nat} (h0 : 1 ≤ j) (h1 : j < 88) (h : NotOp s j) (hj : isOpB s j = true) : findN s = j := findFrom_hit s 87 1 j h0 (by omega) hj h
theorem findN_none {s : ByteArray} (h : NotOp s 88) : findN s = 0 := findFrom_none s 87 1 (fun i h1 h2 => h i h1 (by omega))
theorem findN_own' : ∀ n : Fin 88, findN (opS n.val) = n.val := by decide +kernel
theorem findN_own (n : Nat) (h : n < 88) : findN (opS n) = n := findN_own' ⟨n, h⟩
theorem nameZ_nat (n : Nat) : nameZ (n : Int) = opS n := atZ_nat opL _ n
theorem opS_empty' : ∀ n : Fin 88, ((opS n.val).toList == []) = decide (n.val = 0) := by decide +kernel
theorem findN_nameZ (op : Int) : ((findN (nameZ op) : Nat) : Int) = if 1 ≤ op ∧ op ≤ 87 then op else 0 := by
  rcases op_cases op with ⟨n, h1, h2, rfl⟩ | h
  · rw [nameZ_nat, findN_own n h2, if_pos (by omega)]
  · rw [nameZ_out h, if_neg (by omega)]
    decide +kernel
/-- Is the operation's letter among these? -/
def hasB (op : Int) (s : ByteArray) : Bool := s.data.toList.any fun c => (c.toNat : Int) == letZ op
theorem let_has' : ∀ n : Fin 88, hasB n.val ⟨#[85, 74, 73, 82, 72, 87, 76, 65]⟩ = rdF (formZ n.val) ∧ hasB n.val ⟨#[73, 66, 83, 82, 72, 87, 76, 65]⟩ = aF (formZ n.val) ∧ hasB n.val ⟨#[66, 83, 82, 65]⟩ = bF (formZ n.val) ∧ hasB n.val ⟨#[76, 65]⟩ = oF (formZ n.val) := by decide +kernel
end Go.Proofs.Ytckgpcpcjhomiaa
