/- A checked evaluator of my own: it runs a function's body on slots that are plain values, addresses of the call's own blocks, or slices over these, by the kernel, and the calls in it in their place or by a table of contracts; of a test on something open the oracle tells. What it answers is what the call returns (SimOk). No word of the program. -/
import Derived.WalkKit
import Derived.Below
import Derived.LoopN
import Derived.Laws.Rows
import Derived.Deep.Quiet
namespace Go.Proofs.YthmmmbfjhfocfaaDoor.Sim
open Go Go.RowKit
set_option linter.unusedVariables false

/-- A term of the model that does not look at the world. -/
def evalPure {α : Type} (P : Program) : Sem α → Option α
  | .pure a => some a
  | .program k => evalPure P (k P)
  | .mark _ k => evalPure P k
  | _ => none
theorem evalPure_run {α : Type} {P : Program} (s : Sem α) : ∀ {a : α}, evalPure P s = some a → ∀ w, s.run P w = .ok a w := by
  induction s with
  | pure a => intro b h w; simp [evalPure] at h; subst h; rfl
  | program k ih => intro b h w; exact ih P h w
  | mark m k ih => intro b h w; exact ih h w
  | _ => intro b h; simp [evalPure] at h

/-- What a slot holds: a value (its marks say, cell by cell, which are open: a test on an open one asks the oracle; they bear on nothing else); the address of a cell of the call's own block number i; a slice over it. -/
abbrev SV := Sum (List Bool × Value) (Nat × Nat × Option (Nat × Nat))
def conc (loc : Nat → Nat) : SV → Value
  | .inl (_, x) => x
  | .inr (i, off, none) => .pointer (some ⟨loc i, off, none⟩)
  | .inr (i, off, some (len, cap)) => .slice (some ⟨loc i, off, none⟩) len cap
def okV (n : Nat) : SV → Prop
  | .inl (_, _) => True
  | .inr (i, _, none) => i < n
  | .inr (i, _, some (_, _)) => i < n
structure Blk where
  cells : List Value
  elem : TypeId
  fl : List Bool
def cut (fl : List Bool) (off : Nat) : Nat → List Bool
  | 0 => []
  | n + 1 => (fl[off]?).getD false :: cut fl (off + 1) n
def over (fl : List Bool) (off : Nat) (new : List Bool) (n : Nat) : List Bool := cut fl 0 off ++ cut new 0 n ++ fl.drop (off + n)
def anyF : List Bool → Bool
  | [] => false
  | b :: r => b || anyF r
structure St where
  tmps : List (Nat × SV)
  own : List Blk
  lo : Nat
  mem : Bool
  orc : List Bool
  obl : List (Bool × Bool)
structure Env where
  P : Program
  glob : Nat → Option (List Value)
  call : FuncId → Array Value → Option Value
  /-- Calls that answer so under a condition: the condition is asked of the user. -/
  pcall : FuncId → List Value → Option (Value × Bool) := fun _ _ => none

def look : List (Nat × SV) → Nat → SV
  | [], _ => .inl ([], undef)
  | (d, x) :: r, t => bif Nat.beq d t then x else look r t
def ev (s : St) : Operand → SV
  | .tmp t => look s.tmps t
  | .const c => .inl ([], c)
  | .global g => .inl ([], (.pointer (some ⟨g, 0, none⟩)))
  | .func f => .inl ([], (.func (.func f) #[] #[]))
def rho (s : St) (x : Operand) : Value := match ev s x with | .inl (_, y) => y | _ => undef
def isV : SV → Bool
  | .inl (_, _) => true
  | _ => false
def flS : SV → List Bool
  | .inl (fl, _) => fl
  | _ => []
def openS (s : St) : List Operand → Bool
  | [] => false
  | x :: r => anyF (flS (ev s x)) || openS s r
def aggD : TypeDesc → Bool
  | .struct _ | .array _ _ => true
  | _ => false
def loadB (P : Program) (t : TypeId) (cs : List Value) (off : Nat) : Option Value :=
  match P.underlying t, P.info? t with
  | some d, some i =>
    bif aggD d then (bif Nat.ble (off + i.size) cs.length then some (.agg ((cs.drop off).take i.size).toArray) else none)
    else cs[off]?
  | _, _ => none
def putL : List Value → Nat → List Value → List Value
  | c, _, [] => c
  | c, o, v :: r => putL (c.set o v) (o + 1) r
/-- .. where the whole row is written, at once. -/
def putQ (c : List Value) (o : Nat) (vs : List Value) : List Value := bif Nat.beq o 0 && Nat.beq vs.length c.length then vs else putL c o vs
def storeB (P : Program) (t : TypeId) (cs : List Value) (off : Nat) (v : Value) : Option (List Value) :=
  match P.info? t with
  | some i => bif Nat.beq v.cells.toList.length i.size && Nat.ble (off + i.size) cs.length && v.cells.toList.all Value.oneCell' then some (putQ cs off v.cells.toList) else none
  | none => none
def fieldB (P : Program) (t : TypeId) (f off : Nat) : Option Nat :=
  match P.underlying t with
  | some (.struct fs) => match fs[f]? with
    | some fl => match P.info? fl.type with
      | some i => bif Nat.beq i.size 0 then none else some (off + fl.offset)
      | none => none
    | none => none
  | _ => none
/-- The place of element n of an array, or of a slice of so many. -/
def elemB (P : Program) (e : TypeId) (len off : Nat) (n : Int) : Option Nat :=
  match P.info? e with
  | some i => bif decide (0 ≤ n ∧ n < (len : Int)) then some (off + n.toNat * i.size) else none
  | none => none
/-- The cells of a slice literal. -/
def litB (P : Program) (t : TypeId) (len : Nat) (parts : List (Nat × Value)) : Option (List Value × TypeId) :=
  match P.underlying t with
  | some (.slice e) => match P.info? e with
    | some i => match i.zero with
      | some z => bif Nat.beq (len * i.size) 0 || Nat.blt (2 ^ 24) (len * i.size) then (match len, parts with
        | 0, [] => some ([], e)
        | _, _ => none) else
        (match Instr.fill (fun k => some (k * i.size, i.size)) ((Array.range (len * i.size)).map fun k => z.cells[k % z.cells.size]!) parts with
        | some cells => some (cells.toList, e)
        | none => none)
      | none => none
    | none => none
  | _ => none
def notSel : Op → Bool
  | .select _ _ => false
  | _ => true
def generic (E : Env) (o : Oper) (s : St) : Option (SV × Bool) :=
  bif notSel o.op && o.op.operands.toList.all (fun x => isV (ev s x)) then
    match evalPure E.P (execOp (rho s) o) with
    | some (.value v) => some (.inl ([openS s o.op.operands.toList], v), false)
    | some (.enter f args) => match E.call f args with
      | some v => some (.inl ((List.replicate v.cells.size (openS s o.op.operands.toList)), v), true)
      | none => none
    | _ => none
  else none
def fieldF (P : Program) (t : TypeId) (f : Nat) (fl : List Bool) : List Bool :=
  match P.underlying t with
  | some (.struct fs) => match fs[f]? with
    | some fl' => cut fl fl'.offset (P.cellsOf fl'.type)
    | none => []
  | _ => []
/-- Comparisons of integers. -/
def cmpI : BinOp → Int → Int → Option Bool
  | .eql, a, b => some (a == b)
  | .neq, a, b => some (a != b)
  | .lss, a, b => some (decide (a < b))
  | .leq, a, b => some (decide (a ≤ b))
  | .gtr, a, b => some (decide (a > b))
  | .geq, a, b => some (decide (a ≥ b))
  | _, _, _ => none
/-- Equality of structs of plain fields. -/
def eqFs (P : Program) (rec : TypeId → Value → Value → Option Bool) (xs ys : Array Value) : List Field → Option Bool
  | [] => some true
  | f :: r => bif f.name == "_" then none else (match evalPure P (part f.type xs f.offset), evalPure P (part f.type ys f.offset) with
    | some a, some b => match rec f.type a b with
      | some e => match eqFs P rec xs ys r with
        | some q => some (e && q)
        | none => none
      | none => none
    | _, _ => none)
def eqB (P : Program) : Nat → TypeId → Value → Value → Option Bool
  | 0, _, _, _ => none
  | n + 1, t, x, y => match P.underlying t, x, y with
    | some .bool, .bool a, .bool b => some (a == b)
    | some (.int _), .int k a, .int j b => bif decide (k = j) then some (a == b) else none
    | some .string, .string a, .string b => some (a.toList == b.toList)
    | some (.struct fs), .agg xs, .agg ys => bif P.stoodInHeld t then none else eqFs P (eqB P n) xs ys fs.toList
    | _, _, _ => none
def eqTop (P : Program) (op : BinOp) (t : TypeId) (x y : Value) : Option Bool :=
  bif P.eqGuardType P.depth t then none else match op with
    | .eql => eqB P 20 t x y
    | .neq => (match eqB P 20 t x y with
      | some b => some (!b)
      | none => none)
    | _ => none
/-- An operation that writes nothing: its value; whether it is a call. -/
def simRO (E : Env) (o : Oper) (s : St) : Option (SV × Bool) :=
  match o.op with
  | .move x => some (ev s x, false)
  | .assign x => some (ev s x, false)
  | .nilCheck x => match ev s x with
    | .inr (i, off, none) => some (.inr (i, off, none), false)
    | .inl (_, _) => generic E o s
    | .inr (_, _, some (_, _)) => none
  | .load t x => match ev s x with
    | .inr (i, off, none) => match s.own[i]? with
      | some b => match loadB E.P t b.cells off with
        | some v => some (.inl ((cut b.fl off v.cells.size), v), false)
        | none => none
      | none => none
    | .inl (_, (.pointer (some ⟨g, off, none⟩))) => match E.glob g with
      | some cs => match loadB E.P t cs off with
        | some v => some (.inl ([], v), false)
        | none => none
      | none => none
    | _ => none
  | .fieldAddr t x f => match ev s x with
    | .inr (i, off, none) => match fieldB E.P t f off with
      | some off' => some (.inr (i, off', none), false)
      | none => none
    | .inl (_, _) => generic E o s
    | .inr (_, _, some (_, _)) => none
  | .indexAddr t x ix => match ev s x, ev s ix with
    | .inr (i, off, none), .inl (_, (.int k n)) => match E.P.underlying t with
      | some (.array len e) => match elemB E.P e len off n with
        | some off' => some (.inr (i, off', none), false)
        | none => none
      | _ => none
    | .inr (i, off, some (len, cap)), .inl (_, (.int k n)) => match E.P.underlying t with
      | some (.slice e) => match elemB E.P e len off n with
        | some off' => some (.inr (i, off', none), false)
        | none => none
      | _ => none
    | _, _ => generic E o s
  | .binOp op t x y _ => match ev s x, ev s y with
    | .inl (f, (.int k a)), .inl (g, (.int j b)) => match decide (k = j), cmpI op a b with
      | true, some r => some (.inl ([anyF f || anyF g], (.bool r)), false)
      | _, _ => generic E o s
    | .inl (f, (.agg a)), .inl (g, (.agg b)) => match eqTop E.P op t (.agg a) (.agg b) with
      | some r => some (.inl ([anyF f || anyF g], (.bool r)), false)
      | none => generic E o s
    | _, _ => generic E o s
  | .build _ _ => match generic E o s with
    | some (.inl (fl, v), c) => some (.inl ((List.replicate v.cells.size (anyF fl)), v), c)
    | r => r
  | .field t x f => match generic E o s with
    | some (.inl (_, v), c) => some (.inl ((fieldF E.P t f (flS (ev s x))), v), c)
    | r => r
  | .call { callee := .builtin .len, args := az, argTypes := ats } => match az.toList, ats.toList with
    | [x], [t] => match ev s x, E.P.underlying t with
      | .inr (i, off, some (len, cap)), some (.slice _) => some (.inl ([], (.int .i64 len)), false)
      | _, _ => generic E o s
    | _, _ => generic E o s
  | _ => generic E o s
/-- An operation that makes or writes a block of the call's own. -/
def simFX (E : Env) (o : Oper) (s : St) : Option (SV × List Blk) :=
  match o.op with
  | .alloc t => match E.P.info? t with
    | some i => match i.zero with
      | some z => some (.inr (s.own.length, 0, none), s.own ++ [⟨z.cells.toList, t, []⟩])
      | none => none
    | none => none
  | .box t x => match ev s x with
    | .inl (fl, y) => some (.inr (s.own.length, 0, none), s.own ++ [⟨y.cells.toList, t, fl⟩])
    | _ => none
  | .store t x y => match ev s x, ev s y with
    | .inr (i, off, none), .inl (fl, u) => bif Nat.ble s.lo i then (match s.own[i]? with
      | some b => match storeB E.P t b.cells off u with
        | some cs => some (.inl ([], undef), s.own.set i ⟨cs, b.elem, over b.fl off fl u.cells.size⟩)
        | none => none
      | none => none) else none
    | _, _ => none
  | .buildSlice t len parts => bif parts.toList.all (fun p => isV (ev s p.2)) then
      (match litB E.P t len (parts.toList.map fun p => (p.1, rho s p.2)) with
      | some (cells, e) => some (.inr (s.own.length, 0, some (len, len)), s.own ++ [⟨cells, e, []⟩])
      | none => none) else none
  | _ => none
def putS (n : Nat) (dst : Option Tmp) (x : SV) (s : St) : Option St :=
  match dst with
  | none => some s
  | some d => bif Nat.blt d n then some { s with tmps := (d, x) :: s.tmps } else none
/-- A test on a Bool: a closed one is what it is; of an open one the oracle tells. -/
def ask (s : St) (fl : List Bool) (b : Bool) : Bool × St :=
  bif anyF fl then (match s.orc with
    | [] => (b, s)
    | t :: r => (t, { s with orc := r, obl := (b, t) :: s.obl }))
  else (b, s)
def know (s : St) (d : Nat) (b : Bool) : St := { s with tmps := (d, .inl ([], (.bool b))) :: s.tmps }
def askC (s : St) (c : Operand) (fl : List Bool) (b : Bool) : Bool × St :=
  match c with
  | .tmp d => ((ask s fl b).1, know (ask s fl b).2 d (ask s fl b).1)
  | _ => ask s fl b
def wantS (n : Nat) (ops : Array Oper) (o : Oper) (s : St) : Option (Bool × St) :=
  match o.guard with
  | none => some (true, s)
  | some (j, want) => match (ops[j]?).bind (·.dst) with
    | some d => bif Nat.blt d n then (match look s.tmps d with
      | .inl (fl, (.bool b)) => some ((ask s fl b).1 == want, know (ask s fl b).2 d (ask s fl b).1)
      | .inl (_, (.tuple _)) => some (false, s)
      | _ => none) else none
    | none => none
/-- A call of a function that the source names. -/
def callArgs (s : St) (o : Oper) : Option (FuncId × List SV) :=
  match o.op with
  | .call { callee := .value (.func f), args := az, argTypes := _ } => some (f, az.toList.map (ev s))
  | _ => none
abbrev Callee := FuncId → List SV → St → Option (SV × St)
def simOps (E : Env) (cl : Callee) (n : Nat) (ops : Array Oper) (ro : Bool) : List Oper → St → Option St
  | [], s => some s
  | o :: rest, s => match wantS n ops o s with
    | none => none
    | some (false, s1) => match putS n o.dst (.inl ([], undef)) s1 with
      | some s2 => simOps E cl n ops ro rest s2
      | none => none
    | some (true, s1) => match (bif ro then none else simFX E o s1) with
      | some (x, own) => match putS n o.dst x { s1 with own := own, mem := true } with
        | some s2 => simOps E cl n ops ro rest s2
        | none => none
      | none => match simRO E o s1 with
        | some (x, c) => match putS n o.dst x { s1 with mem := s1.mem || c } with
          | some s2 => simOps E cl n ops ro rest s2
          | none => none
        | none => match callArgs s1 o with
          | none => none
          | some (f, args) => bif ro then
              (match cl f args { s1 with lo := s1.own.length } with
              | some (.inl (fl, x), s2) => match putS n o.dst (.inl (fl, x)) { s1 with mem := true, orc := s2.orc, obl := s2.obl } with
                | some s3 => simOps E cl n ops ro rest s3
                | none => none
              | _ => none)
            else (match cl f args s1 with
              | some (x, s2) => match putS n o.dst x { s1 with own := s2.own, mem := s2.mem, orc := s2.orc, obl := s2.obl } with
                | some s3 => simOps E cl n ops ro rest s3
                | none => none
              | none => none)
/-- How a piece of code is left: none: at its end; some none: by a return; else by an exit of this number. -/
abbrev X := Option (Option Nat)
def X.toExit : X → Exit
  | none => .normal
  | some none => .ret
  | some (some i) => .exit i
def resV (P : Program) (s : St) : ResultVar → Option SV
  | .tmp t => some (look s.tmps t)
  | .cell a t => match look s.tmps a with
    | .inr (i, off, none) => match s.own[i]? with
      | some b => match loadB P t b.cells off with
        | some v => some (.inl ((cut b.fl off v.cells.size), v))
        | none => none
      | none => none
    | _ => none
def resTup : Option SV → Option SV → Option SV
  | some (.inl (f, x)), some (.inl (g, y)) => some (.inl ([anyF f || anyF g], (.tuple #[x, y])))
  | _, _ => none
def resTup3 : Option SV → Option SV → Option SV → Option SV
  | some (.inl (f, x)), some (.inl (g, y)), some (.inl (h, z)) => some (.inl ([anyF f || anyF g || anyF h], (.tuple #[x, y, z])))
  | _, _, _ => none
def simRes (P : Program) (fn : Func) (s : St) : Option SV :=
  match fn.results.toList with
  | [] => some (.inl ([], (.tuple #[])))
  | [r] => resV P s r
  | [r1, r2] => resTup (resV P s r1) (resV P s r2)
  | [r1, r2, r3] => resTup3 (resV P s r1) (resV P s r2) (resV P s r3)
  | _ => none
def initS : Nat → List SV → List (Nat × SV)
  | _, [] => []
  | i, x :: r => (i, x) :: initS (i + 1) r
abbrev Runner := Nat → Code → St → Option (X × St)
def argsV : List SV → Option (List Value)
  | [] => some []
  | .inl (_, v) :: r => match argsV r with
    | some l => some (v :: l)
    | none => none
  | .inr _ :: _ => none
/-- A call that answers so under a condition. -/
def pcallS (E : Env) : Callee := fun f args s =>
  match argsV args with
  | some l => match E.pcall f l with
    | some (v, b) => match E.P.funcs[f]? with
      | some fn => bif fn.name == "runtime.NumGoroutine" || fn.body.isNone then none else
        some (.inl (List.replicate v.cells.size (args.any fun x => anyF (flS x)), v), { s with mem := true, obl := (b, true) :: s.obl })
      | none => none
    | none => none
  | none => none
/-- The call of a function, its body run in place. -/
def enterO (E : Env) (ih : Runner) : Callee := fun f args s =>
  match E.P.funcs[f]? with
  | some fn => bif fn.name == "runtime.NumGoroutine" then none else (match fn.body with
    | some c => match ih (args.length + (fn.ntmps - args.length)) c { s with tmps := initS 0 args } with
      | some (none, s') => match simRes E.P fn s' with
        | some x => some (x, s')
        | none => none
      | some (some none, s') => match simRes E.P fn s' with
        | some x => some (x, s')
        | none => none
      | _ => none
    | none => none)
  | none => none
def enterS (E : Env) (ih : Runner) : Callee := fun f args s => match pcallS E f args s with
  | some r => some r
  | none => enterO E ih f args s
def stepC (E : Env) (ih : Runner) (n : Nat) : Code → St → Option (X × St)
  | .skip, s => some (none, s)
  | .label _, s => some (none, s)
  | .region _ ops false, s => match simOps E (enterS E ih) n ops false ops.toList s with
    | some s' => some (none, s')
    | none => none
  | .region _ ops true, s => bif E.P.follows .mixedOrders && Region.lexB .any ops then (match simOps E (enterS E ih) n ops true ops.toList { s with mem := true } with
    | some s' => some (none, s')
    | none => none) else none
  | .seq x y, s => match ih n x s with
    | some (none, s') => ih n y s'
    | r => r
  | .cond c x y, s => match ev s c with
    | .inl (fl, (.bool b)) => match askC s c fl b with
      | (true, s') => ih n x s'
      | (false, s') => ih n y s'
    | _ => none
  | .block id x, s => match ih n x s with
    | some (some (some i), s') => bif Nat.beq i id then some (none, s') else some (some (some i), s')
    | r => r
  | .loop x, s => match ih n x s with
    | some (none, s') => ih n (.loop x) s'
    | r => r
  | .exit id, s => some (some (some id), s)
  | .ret, s => some (some none, s)
  | _, _ => none
def simC (E : Env) (fuel : Nat) : Runner :=
  Nat.rec (fun _ _ _ => none) (fun _ ih n c s => stepC E ih n c s) fuel
def initA (fl : List (List Bool)) : Nat → List Value → List SV
  | _, [] => []
  | i, v :: r => .inl (((fl[i]?).getD []), v) :: initA fl (i + 1) r
/-- The call's end: what it answers and the state. -/
def simEnd (E : Env) (fuel : Nat) (fl : List (List Bool)) (orc : List Bool) (f : FuncId) (args : List Value) : Option (SV × St) :=
  enterS E (simC E fuel) f (initA fl 0 args) { tmps := [], own := [], lo := 0, mem := false, orc := orc, obl := [] }
/-- What the call answers; what the oracle took for true on the way; whether the world may have turned. -/
def simCall (E : Env) (fuel : Nat) (fl : List (List Bool)) (orc : List Bool) (f : FuncId) (args : List Value) : Option (Value × List (Bool × Bool) × Bool) :=
  match simEnd E fuel fl orc f args with
  | some (.inl (_, x), s) => some (x, s.obl, s.mem)
  | _ => none
/-- The cells of a slice of its own that the call answers. -/
def simMake (E : Env) (fuel : Nat) (fl : List (List Bool)) (orc : List Bool) (f : FuncId) (args : List Value) : Option (List Value × Nat × Nat × Nat × List (Bool × Bool)) :=
  match simEnd E fuel fl orc f args with
  | some (.inr (i, off, some (len, cap)), s) => match s.own[i]? with
    | some b => some (b.cells, off, len, cap, s.obl)
    | none => none
  | _ => none
end Go.Proofs.YthmmmbfjhfocfaaDoor.Sim
