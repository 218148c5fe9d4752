/- A checked evaluator of my own: it runs a function's body on slots that are plain values, addresses of the call's own blocks, or slices over these, by the kernel, and the calls in it in their place or by a table of contracts; of a test on something open the oracle tells. What it answers is what the call returns (SimOk). No word of the program. -/
import Derived.WalkKit
import Derived.Below
import Derived.LoopN
import Derived.Laws.Rows
import Derived.Deep.Quiet
set_option linter.unusedVariables false
set_option linter.unusedSimpArgs false
namespace Go.Proofs.YtilljoemebbnjaaDoor.Sim
open Go Go.RowKit
def evalPure {α : Type} (P : Program) : Sem α → Option α
  | .pure a => some a
  | .program k => evalPure P (k P)
  | .mark _ k => evalPure P k
  | _ => none
theorem evalPure_run {α : Type} {P : Program} (s : Sem α) : ∀ {a : α}, evalPure P s = some a → ∀ w, s.run P w = .ok a w := by
  induction s with
  | pure a => intro b h w; simp [evalPure] at h; subst h; rfl
  | program k ih => intro b h w; exact ih P h w
  | mark m k ih => intro b h w; exact ih h w
  | _ => intro b h; simp [evalPure] at h
abbrev SV := Sum (List Bool × Value) (Nat × Nat × Option (Nat × Nat))
structure Blk where
  cells : List Value
  elem : TypeId
  fl : List Bool
def cut (fl : List Bool) (off : Nat) : Nat → List Bool
  | 0 => []
  | n + 1 => (fl[off]?).getD false :: cut fl (off + 1) n
def anyF : List Bool → Bool
  | [] => false
  | b :: r => b || anyF r
structure St where
  tmps : List (Nat × SV)
  own : List Blk
  lo : Nat
  mem : Bool
  orc : List Bool
  obl : List (Bool × Bool)
structure Env where
  P : Program
  glob : Nat → Option (List Value)
  call : FuncId → Array Value → Option Value
  /-- Calls that answer so under a condition: the condition is asked of the user. -/
  pcall : FuncId → List Value → Option (Value × Bool) := fun _ _ => none
def look : List (Nat × SV) → Nat → SV
  | [], _ => .inl ([], undef)
  | (d, x) :: r, t => bif Nat.beq d t then x else look r t
def aggD : TypeDesc → Bool
  | .struct _ | .array _ _ => true
  | _ => false
def loadB (P : Program) (t : TypeId) (cs : List Value) (off : Nat) : Option Value :=
  match P.underlying t, P.info? t with
  | some d, some i =>
    bif aggD d then (bif Nat.ble (off + i.size) cs.length then some (.agg ((cs.drop off).take i.size).toArray) else none)
    else cs[off]?
  | _, _ => none
def putL : List Value → Nat → List Value → List Value
  | c, _, [] => c
  | c, o, v :: r => putL (c.set o v) (o + 1) r
def putQ (c : List Value) (o : Nat) (vs : List Value) : List Value := bif Nat.beq o 0 && Nat.beq vs.length c.length then vs else putL c o vs
def storeB (P : Program) (t : TypeId) (cs : List Value) (off : Nat) (v : Value) : Option (List Value) :=
  match P.info? t with
  | some i => bif Nat.beq v.cells.toList.length i.size && Nat.ble (off + i.size) cs.length && v.cells.toList.all Value.oneCell' then some (putQ cs off v.cells.toList) else none
  | none => none
def fieldB (P : Program) (t : TypeId) (f off : Nat) : Option Nat :=
  match P.underlying t with
  | some (.struct fs) => match fs[f]? with
    | some fl => match P.info? fl.type with
      | some i => bif Nat.beq i.size 0 then none else some (off + fl.offset)
      | none => none
    | none => none
  | _ => none
def elemB (P : Program) (e : TypeId) (len off : Nat) (n : Int) : Option Nat :=
  match P.info? e with
  | some i => bif decide (0 ≤ n ∧ n < (len : Int)) then some (off + n.toNat * i.size) else none
  | none => none
def litB (P : Program) (t : TypeId) (len : Nat) (parts : List (Nat × Value)) : Option (List Value × TypeId) :=
  match P.underlying t with
  | some (.slice e) => match P.info? e with
    | some i => match i.zero with
      | some z => bif Nat.beq (len * i.size) 0 || Nat.blt (2 ^ 24) (len * i.size) then (match len, parts with
        | 0, [] => some ([], e)
        | _, _ => none) else
        (match Instr.fill (fun k => some (k * i.size, i.size)) ((Array.range (len * i.size)).map fun k => z.cells[k % z.cells.size]!) parts with
        | some cells => some (cells.toList, e)
        | none => none)
      | none => none
    | none => none
  | _ => none
def notSel : Op → Bool
  | .select _ _ => false
  | _ => true
def fieldF (P : Program) (t : TypeId) (f : Nat) (fl : List Bool) : List Bool :=
  match P.underlying t with
  | some (.struct fs) => match fs[f]? with
    | some fl' => cut fl fl'.offset (P.cellsOf fl'.type)
    | none => []
  | _ => []
def cmpI : BinOp → Int → Int → Option Bool
  | .eql, a, b => some (a == b)
  | .neq, a, b => some (a != b)
  | .lss, a, b => some (decide (a < b))
  | .leq, a, b => some (decide (a ≤ b))
  | .gtr, a, b => some (decide (a > b))
  | .geq, a, b => some (decide (a ≥ b))
  | _, _, _ => none
def eqFs (P : Program) (rec : TypeId → Value → Value → Option Bool) (xs ys : Array Value) : List Field → Option Bool
  | [] => some true
  | f :: r => bif f.name == "_" then none else (match evalPure P (part f.type xs f.offset), evalPure P (part f.type ys f.offset) with
    | some a, some b => match rec f.type a b with
      | some e => match eqFs P rec xs ys r with
        | some q => some (e && q)
        | none => none
      | none => none
    | _, _ => none)
def eqB (P : Program) : Nat → TypeId → Value → Value → Option Bool
  | 0, _, _, _ => none
  | n + 1, t, x, y => match P.underlying t, x, y with
    | some .bool, .bool a, .bool b => some (a == b)
    | some (.int _), .int k a, .int j b => bif decide (k = j) then some (a == b) else none
    | some .string, .string a, .string b => some (a.toList == b.toList)
    | some (.struct fs), .agg xs, .agg ys => bif P.stoodInHeld t then none else eqFs P (eqB P n) xs ys fs.toList
    | _, _, _ => none
def eqTop (P : Program) (op : BinOp) (t : TypeId) (x y : Value) : Option Bool :=
  bif P.eqGuardType P.depth t then none else match op with
    | .eql => eqB P 20 t x y
    | .neq => (match eqB P 20 t x y with
      | some b => some (!b)
      | none => none)
    | _ => none
def ask (s : St) (fl : List Bool) (b : Bool) : Bool × St :=
  bif anyF fl then (match s.orc with
    | [] => (b, s)
    | t :: r => (t, { s with orc := r, obl := (b, t) :: s.obl }))
  else (b, s)
abbrev X := Option (Option Nat)
def X.toExit : X → Exit
  | none => .normal
  | some none => .ret
  | some (some i) => .exit i
end Go.Proofs.YtilljoemebbnjaaDoor.Sim
