/- Tables of contracts for the evaluator of Sim. No word of the program. -/
import Derived.Test.YthmmmbfjhfocfaaDoorSimOk
namespace Go.Proofs.YthmmmbfjhfocfaaDoor.Sim
open Go Go.RowKit
set_option linter.unusedVariables false

abbrev Tab := FuncId → Array Value → Option Value
/-- One function's row: how its arguments are read; what it answers. -/
def row {α : Type} (k : FuncId) (dec : List Value → Option α) (g : α → Value) : Tab := fun f args =>
  bif Nat.beq f k then (match dec args.toList with
    | some a => some (g a)
    | none => none) else none
def orT (c1 c2 : Tab) : Tab := fun f args => match c1 f args with
  | some v => some v
  | none => c2 f args
def noT : Tab := fun _ _ => none
/-- A table's rows are true of the program. -/
def TabOk (P : Program) (gl : Nat → Option (List Value)) (c : Tab) : Prop := ∀ f args v, c f args = some v → ∀ w, Glob { P := P, glob := gl, call := c } w → Calls P f args w fun e w' => e = .returned v ∧ Below w.heap.size w w'
abbrev GlobOk (gl : Nat → Option (List Value)) (w : World) : Prop := GlobW gl w
theorem glob_of {P : Program} {gl : Nat → Option (List Value)} {c : Tab} {w : World} (h : GlobOk gl w) : Glob { P := P, glob := gl, call := c } w := h
theorem GlobOk.none (w : World) : GlobOk (fun _ => none) w := fun _ _ h => by cases h
theorem GlobOk.below {gl : Nat → Option (List Value)} {w w' : World} (h : GlobOk gl w) (hb : Below w.heap.size w w') : GlobOk gl w' := GlobW.below h hb
theorem callOk_of {P : Program} {gl : Nat → Option (List Value)} {c : Tab} (h : TabOk P gl c) : CallOk { P := P, glob := gl, call := c } := ⟨h, fun _ _ _ h => by cases h⟩
theorem TabOk.none (P : Program) (gl : Nat → Option (List Value)) : TabOk P gl noT := fun _ _ _ h => by cases h
theorem TabOk.row {P : Program} {gl : Nat → Option (List Value)} {α : Type} {k : FuncId} {dec : List Value → Option α} {g : α → Value}
    (h : ∀ args a, dec args.toList = some a → ∀ w, GlobOk gl w → Calls P k args w fun e w' => e = .returned (g a) ∧ Below w.heap.size w w') : TabOk P gl (row k dec g) := fun f args v hv w hG => by
  unfold Sim.row at hv
  cases hb : Nat.beq f k
  · rw [hb] at hv; cases hv
  · rw [hb] at hv
    have he : f = k := Nat.eq_of_beq_eq_true hb
    subst he
    simp only [cond_true] at hv
    cases hd : dec args.toList with
    | none => rw [hd] at hv; cases hv
    | some a =>
      rw [hd] at hv
      simp only [Option.some.injEq] at hv
      subst hv
      exact h args a hd w hG
theorem TabOk.or {P : Program} {gl : Nat → Option (List Value)} {c1 c2 : Tab} (h1 : TabOk P gl c1) (h2 : TabOk P gl c2) : TabOk P gl (orT c1 c2) := fun f args v hv w hG => by
  unfold orT at hv
  split at hv
  · rename_i u hu
    simp only [Option.some.injEq] at hv
    subst hv
    exact h1 f args _ hu w hG
  · exact h2 f args v hv w hG
/-- Readers of arguments. -/
def decI : List Value → Option Int
  | [.int .i64 x] => some x
  | _ => none
def decII : List Value → Option (Int × Int)
  | [.int .i64 x, .int .i64 y] => some (x, y)
  | _ => none
def decIII : List Value → Option (Int × Int × Int)
  | [.int .i64 x, .int .i64 y, .int .i64 z] => some (x, y, z)
  | _ => none
def decIB : List Value → Option (Int × Bool)
  | [.int .i64 x, .bool y] => some (x, y)
  | _ => none
def decS : List Value → Option ByteArray
  | [.string s] => some s
  | _ => none
def decIS : List Value → Option (Int × ByteArray)
  | [.int .i64 x, .string s] => some (x, s)
  | _ => none
def dec0 : List Value → Option Unit
  | [] => some ()
  | _ => none
theorem decI_eq {l : List Value} {x : Int} (h : decI l = some x) : l = [.int .i64 x] := by unfold decI at h; split at h <;> simp_all
theorem decII_eq {l : List Value} {x : Int × Int} (h : decII l = some x) : l = [.int .i64 x.1, .int .i64 x.2] := by unfold decII at h; split at h <;> simp at h; subst h; rfl
theorem decIII_eq {l : List Value} {x : Int × Int × Int} (h : decIII l = some x) : l = [.int .i64 x.1, .int .i64 x.2.1, .int .i64 x.2.2] := by unfold decIII at h; split at h <;> simp at h; subst h; rfl
theorem decIB_eq {l : List Value} {x : Int × Bool} (h : decIB l = some x) : l = [.int .i64 x.1, .bool x.2] := by unfold decIB at h; split at h <;> simp at h; subst h; rfl
theorem decS_eq {l : List Value} {x : ByteArray} (h : decS l = some x) : l = [.string x] := by unfold decS at h; split at h <;> simp_all
theorem decIS_eq {l : List Value} {x : Int × ByteArray} (h : decIS l = some x) : l = [.int .i64 x.1, .string x.2] := by unfold decIS at h; split at h <;> simp at h; subst h; rfl
theorem dec0_eq {l : List Value} {x : Unit} (h : dec0 l = some x) : l = [] := by unfold dec0 at h; split at h <;> simp_all
theorem args_eq {args : Array Value} {l : List Value} (h : args.toList = l) : args = l.toArray := by rw [← h]

/-- A contract in the form that the evaluator gives and takes. -/
def Ret (P : Program) (k : FuncId) (args : Array Value) (v : Value) (w : World) : Prop := Calls P k args w fun e w' => e = .returned v ∧ Below w.heap.size w w'
/-- A row out of a contract for every argument that is read. -/
theorem tabI {P : Program} {gl : Nat → Option (List Value)} {k : FuncId} {g : Int → Value} (h : ∀ x w, GlobOk gl w → Ret P k #[.int .i64 x] (g x) w) : TabOk P gl (row k decI g) := .row fun args a hd w hG => by rw [args_eq (decI_eq hd)]; exact h a w hG
theorem tabII {P : Program} {gl : Nat → Option (List Value)} {k : FuncId} {g : Int × Int → Value} (h : ∀ x y w, GlobOk gl w → Ret P k #[.int .i64 x, .int .i64 y] (g (x, y)) w) : TabOk P gl (row k decII g) := .row fun args a hd w hG => by rw [args_eq (decII_eq hd)]; exact h a.1 a.2 w hG
theorem tabIII {P : Program} {gl : Nat → Option (List Value)} {k : FuncId} {g : Int × Int × Int → Value} (h : ∀ x y z w, GlobOk gl w → Ret P k #[.int .i64 x, .int .i64 y, .int .i64 z] (g (x, y, z)) w) : TabOk P gl (row k decIII g) := .row fun args a hd w hG => by rw [args_eq (decIII_eq hd)]; exact h a.1 a.2.1 a.2.2 w hG
theorem tabIB {P : Program} {gl : Nat → Option (List Value)} {k : FuncId} {g : Int × Bool → Value} (h : ∀ x y w, GlobOk gl w → Ret P k #[.int .i64 x, .bool y] (g (x, y)) w) : TabOk P gl (row k decIB g) := .row fun args a hd w hG => by rw [args_eq (decIB_eq hd)]; exact h a.1 a.2 w hG
theorem tabS {P : Program} {gl : Nat → Option (List Value)} {k : FuncId} {g : ByteArray → Value} (h : ∀ x w, GlobOk gl w → Ret P k #[.string x] (g x) w) : TabOk P gl (row k decS g) := .row fun args a hd w hG => by rw [args_eq (decS_eq hd)]; exact h a w hG
theorem tabIS {P : Program} {gl : Nat → Option (List Value)} {k : FuncId} {g : Int × ByteArray → Value} (h : ∀ x y w, GlobOk gl w → Ret P k #[.int .i64 x, .string y] (g (x, y)) w) : TabOk P gl (row k decIS g) := .row fun args a hd w hG => by rw [args_eq (decIS_eq hd)]; exact h a.1 a.2 w hG
theorem tab0 {P : Program} {gl : Nat → Option (List Value)} {k : FuncId} {g : Unit → Value} (h : ∀ w, GlobOk gl w → Ret P k #[] (g ()) w) : TabOk P gl (row k dec0 g) := .row fun args a hd w hG => by rw [args_eq (dec0_eq hd)]; exact h w hG
theorem tabV {P : Program} {gl : Nat → Option (List Value)} {α : Type} {k : FuncId} {dec : List Value → Option α} {enc : α → Value} {g : α → Value} (hd : ∀ l a, dec l = some a → l = [enc a]) (h : ∀ a w, GlobOk gl w → Ret P k #[enc a] (g a) w) : TabOk P gl (row k dec g) :=
  .row fun args a he w hG => by rw [args_eq (hd _ _ he)]; exact h a w hG
theorem Ret.of_eq {P : Program} {k : FuncId} {args : Array Value} {v v' : Value} {w : World} (h : Ret P k args v w) (e : v = v') : Ret P k args v' w := e ▸ h
theorem Ret.of_same {P : Program} {k : FuncId} {args : Array Value} {v : Value} {w : World} (h : Calls P k args w fun e w' => e = .returned v ∧ w = w') : Ret P k args v w := h.mono fun _ _ ⟨he, hw⟩ => ⟨he, hw ▸ Below.refl _ _⟩

/-! ### Contracts under a condition -/
abbrev PTab := FuncId → List Value → Option (Value × Bool)
/-- A condition that the user shows. -/
def pre (b : Bool) : Bool := b
/-- One function's row: how its arguments are read; what it answers; under what condition. -/
def prow {α : Type} (k : FuncId) (dec : List Value → Option α) (g : α → Value) (c : α → Bool) : PTab := fun f args =>
  bif Nat.beq f k then (match dec args with
    | some a => some (g a, pre (c a))
    | none => none) else none
def orP (c1 c2 : PTab) : PTab := fun f args => match c1 f args with
  | some v => some v
  | none => c2 f args
def noP : PTab := fun _ _ => none
def PTabOk (P : Program) (gl : Nat → Option (List Value)) (c : PTab) : Prop := ∀ f args v, c f args = some (v, true) → ∀ w, GlobOk gl w → Ret P f args.toArray v w
theorem PTabOk.none (P : Program) (gl : Nat → Option (List Value)) : PTabOk P gl noP := fun _ _ _ h => by cases h
theorem PTabOk.row {P : Program} {gl : Nat → Option (List Value)} {α : Type} {k : FuncId} {dec : List Value → Option α} {enc : α → List Value} {g : α → Value} {c : α → Bool} (hd : ∀ l a, dec l = some a → l = enc a)
    (h : ∀ a, c a = true → ∀ w, GlobOk gl w → Ret P k (enc a).toArray (g a) w) : PTabOk P gl (prow k dec g c) := fun f args v hv w hG => by
  unfold prow at hv
  cases hb : Nat.beq f k
  · rw [hb] at hv; cases hv
  · rw [hb] at hv
    have he : f = k := Nat.eq_of_beq_eq_true hb
    subst he
    simp only [cond_true] at hv
    split at hv
    · rename_i a ha
      simp only [Option.some.injEq, Prod.mk.injEq] at hv
      obtain ⟨rfl, hc⟩ := hv
      rw [hd _ _ ha]
      exact h a hc w hG
    · cases hv
/-- A row that reads the arguments itself. -/
def prowD (k : FuncId) (dec : List Value → Option (Value × Bool)) : PTab := fun f args => bif Nat.beq f k then dec args else none
theorem PTabOk.rowD {P : Program} {gl : Nat → Option (List Value)} {k : FuncId} {dec : List Value → Option (Value × Bool)} (h : ∀ args v, dec args = some (v, true) → ∀ w, GlobOk gl w → Ret P k args.toArray v w) : PTabOk P gl (prowD k dec) := fun f args v hv w hG => by
  unfold prowD at hv
  cases hb : Nat.beq f k
  · rw [hb] at hv; cases hv
  · rw [hb] at hv
    have he : f = k := Nat.eq_of_beq_eq_true hb
    subst he
    exact h args v hv w hG
theorem PTabOk.or {P : Program} {gl : Nat → Option (List Value)} {c1 c2 : PTab} (h1 : PTabOk P gl c1) (h2 : PTabOk P gl c2) : PTabOk P gl (orP c1 c2) := fun f args v hv w hG => by
  unfold orP at hv
  split at hv
  · rename_i u hu
    simp only [Option.some.injEq] at hv
    subst hv
    exact h1 f args _ hu w hG
  · exact h2 f args v hv w hG

/-! ### Many closed calls at once -/
/-- Equality of plain values, to depth two. -/
def eqS : Value → Value → Bool
  | .bool a, .bool b => a == b
  | .int k a, .int j b => decide (k = j) && decide (a = b)
  | .string a, .string b => a.data.toList == b.data.toList
  | _, _ => false
def eqL (eq : Value → Value → Bool) : List Value → List Value → Bool
  | [], [] => true
  | x :: r, y :: t => eq x y && eqL eq r t
  | _, _ => false
def eqW (eq : Value → Value → Bool) : Value → Value → Bool
  | .agg a, .agg b => eqL eq a.toList b.toList
  | .tuple a, .tuple b => eqL eq a.toList b.toList
  | x, y => eqS x y
def eqV : Value → Value → Bool := eqW (eqW (eqW eqS))
theorem bytes_eq {a b : ByteArray} (h : a.data.toList = b.data.toList) : a = b := by
  cases a; cases b; simp at h; simp [h]
theorem arr_eq {a b : Array Value} (h : a.toList = b.toList) : a = b := by
  cases a; cases b; simp at h; simp [h]
theorem eqS_eq {x y : Value} (h : eqS x y = true) : x = y := by
  unfold eqS at h
  split at h
  · exact congrArg Value.bool (eq_of_beq h)
  · simp only [Bool.and_eq_true, decide_eq_true_eq] at h
    rw [h.1, h.2]
  · exact congrArg Value.string (bytes_eq (eq_of_beq h))
  · cases h
theorem eqL_eq {eq : Value → Value → Bool} (he : ∀ x y, eq x y = true → x = y) : ∀ (x y : List Value), eqL eq x y = true → x = y
  | [], [], _ => rfl
  | x :: r, y :: t, h => by
    simp only [eqL, Bool.and_eq_true] at h
    rw [he _ _ h.1, eqL_eq he _ _ h.2]
  | [], _ :: _, h => by simp [eqL] at h
  | _ :: _, [], h => by simp [eqL] at h
theorem eqW_eq {eq : Value → Value → Bool} (he : ∀ x y, eq x y = true → x = y) (x y : Value) (h : eqW eq x y = true) : x = y := by
  unfold eqW at h
  split at h
  · exact congrArg Value.agg (arr_eq (eqL_eq he _ _ h))
  · exact congrArg Value.tuple (arr_eq (eqL_eq he _ _ h))
  · exact eqS_eq h
theorem eqV_eq (x y : Value) (h : eqV x y = true) : x = y := eqW_eq (eqW_eq (eqW_eq fun _ _ => eqS_eq)) x y h
end Go.Proofs.YthmmmbfjhfocfaaDoor.Sim
