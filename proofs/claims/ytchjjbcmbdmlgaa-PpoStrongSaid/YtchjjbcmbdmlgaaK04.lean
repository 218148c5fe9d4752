/- Sim, SimOk, SimCalls. -/
import Derived.WalkKit
import Derived.Below
import Derived.LoopN
import Derived.Laws.Rows
import Derived.Deep.Quiet
import Derived.Laws.StructEq
set_option linter.unusedVariables false
set_option linter.unusedSimpArgs false
namespace Go.Proofs.Ytchjjbcmbdmlgaa.Sim
open Go Go.RowKit
def evalPure {α : Type} (P : Program) : Sem α → Option α
  | .pure a => some a
  | .program k => evalPure P (k P)
  | .mark _ k => evalPure P k
  | _ => none
theorem evalPure_run {α : Type} {P : Program} (s : Sem α) : ∀ {a : α}, evalPure P s = some a → ∀ w, s.run P w = .ok a w := by
  induction s with
  | pure a => intro b h w; simp [evalPure] at h; subst h; rfl
  | program k ih => intro b h w; exact ih P h w
  | mark m k ih => intro b h w; exact ih h w
  | _ => intro b h; simp [evalPure] at h
abbrev SV := Sum (List Bool × Value) (Nat × Nat × Option (Nat × Nat))
def conc (loc : Nat → Nat) : SV → Value
  | .inl (_, x) => x
  | .inr (i, off, none) => .pointer (some ⟨loc i, off, none⟩)
  | .inr (i, off, some (len, cap)) => .slice (some ⟨loc i, off, none⟩) len cap
def okV (n : Nat) : SV → Prop
  | .inl (_, _) => True
  | .inr (i, _, none) => i < n
  | .inr (i, _, some (_, _)) => i < n
structure Blk where
  cells : List Value
  elem : TypeId
  fl : List Bool
def cut (fl : List Bool) (off : Nat) : Nat → List Bool
  | 0 => []
  | n + 1 => (fl[off]?).getD false :: cut fl (off + 1) n
def over (fl : List Bool) (off : Nat) (new : List Bool) (n : Nat) : List Bool := cut fl 0 off ++ cut new 0 n ++ fl.drop (off + n)
def anyF : List Bool → Bool
  | [] => false
  | b :: r => b || anyF r
structure St where
  tmps : List (Nat × SV)
  own : List Blk
  lo : Nat
  mem : Bool
  orc : List Bool
  obl : List (Bool × Bool)
structure Env where
  P : Program
  glob : Nat → Option (List Value)
  call : FuncId → Array Value → Option Value
  /-- Calls that answer so under a condition: the condition is asked of the user. -/
  pcall : FuncId → List Value → Option (Value × Bool) := fun _ _ => none
def look : List (Nat × SV) → Nat → SV
  | [], _ => .inl ([], undef)
  | (d, x) :: r, t => bif Nat.beq d t then x else look r t
def ev (s : St) : Operand → SV
  | .tmp t => look s.tmps t
  | .const c => .inl ([], c)
  | .global g => .inl ([], (.pointer (some ⟨g, 0, none⟩)))
  | .func f => .inl ([], (.func (.func f) #[] #[]))
def rho (s : St) (x : Operand) : Value := match ev s x with | .inl (_, y) => y | _ => undef
def isV : SV → Bool
  | .inl (_, _) => true
  | _ => false
def flS : SV → List Bool
  | .inl (fl, _) => fl
  | _ => []
def openS (s : St) : List Operand → Bool
  | [] => false
  | x :: r => anyF (flS (ev s x)) || openS s r
def aggD : TypeDesc → Bool
  | .struct _ | .array _ _ => true
  | _ => false
def loadB (P : Program) (t : TypeId) (cs : List Value) (off : Nat) : Option Value :=
  match P.underlying t, P.info? t with
  | some d, some i =>
    bif aggD d then (bif Nat.ble (off + i.size) cs.length then some (.agg ((cs.drop off).take i.size).toArray) else none)
    else cs[off]?
  | _, _ => none
def putL : List Value → Nat → List Value → List Value
  | c, _, [] => c
  | c, o, v :: r => putL (c.set o v) (o + 1) r
def putQ (c : List Value) (o : Nat) (vs : List Value) : List Value := bif Nat.beq o 0 && Nat.beq vs.length c.length then vs else putL c o vs
def storeB (P : Program) (t : TypeId) (cs : List Value) (off : Nat) (v : Value) : Option (List Value) :=
  match P.info? t with
  | some i => bif Nat.beq v.cells.toList.length i.size && Nat.ble (off + i.size) cs.length && v.cells.toList.all Value.oneCell' then some (putQ cs off v.cells.toList) else none
  | none => none
def fieldB (P : Program) (t : TypeId) (f off : Nat) : Option Nat :=
  match P.underlying t with
  | some (.struct fs) => match fs[f]? with
    | some fl => match P.info? fl.type with
      | some i => bif Nat.beq i.size 0 then none else some (off + fl.offset)
      | none => none
    | none => none
  | _ => none
def elemB (P : Program) (e : TypeId) (len off : Nat) (n : Int) : Option Nat :=
  match P.info? e with
  | some i => bif decide (0 ≤ n ∧ n < (len : Int)) then some (off + n.toNat * i.size) else none
  | none => none
def litB (P : Program) (t : TypeId) (len : Nat) (parts : List (Nat × Value)) : Option (List Value × TypeId) :=
  match P.underlying t with
  | some (.slice e) => match P.info? e with
    | some i => match i.zero with
      | some z => bif Nat.beq (len * i.size) 0 || Nat.blt (2 ^ 24) (len * i.size) then (match len, parts with
        | 0, [] => some ([], e)
        | _, _ => none) else
        (match Instr.fill (fun k => some (k * i.size, i.size)) ((Array.range (len * i.size)).map fun k => z.cells[k % z.cells.size]!) parts with
        | some cells => some (cells.toList, e)
        | none => none)
      | none => none
    | none => none
  | _ => none
def notSel : Op → Bool
  | .select _ _ => false
  | _ => true
def generic (E : Env) (o : Oper) (s : St) : Option (SV × Bool) :=
  bif notSel o.op && o.op.operands.toList.all (fun x => isV (ev s x)) then
    match evalPure E.P (execOp (rho s) o) with
    | some (.value v) => some (.inl ([openS s o.op.operands.toList], v), false)
    | some (.enter f args) => match E.call f args with
      | some v => some (.inl ((List.replicate v.cells.size (openS s o.op.operands.toList)), v), true)
      | none => none
    | _ => none
  else none
def fieldF (P : Program) (t : TypeId) (f : Nat) (fl : List Bool) : List Bool :=
  match P.underlying t with
  | some (.struct fs) => match fs[f]? with
    | some fl' => cut fl fl'.offset (P.cellsOf fl'.type)
    | none => []
  | _ => []
def cmpI : BinOp → Int → Int → Option Bool
  | .eql, a, b => some (a == b)
  | .neq, a, b => some (a != b)
  | .lss, a, b => some (decide (a < b))
  | .leq, a, b => some (decide (a ≤ b))
  | .gtr, a, b => some (decide (a > b))
  | .geq, a, b => some (decide (a ≥ b))
  | _, _, _ => none
def eqFs (P : Program) (rec : TypeId → Value → Value → Option Bool) (xs ys : Array Value) : List Field → Option Bool
  | [] => some true
  | f :: r => bif f.name == "_" then none else (match evalPure P (part f.type xs f.offset), evalPure P (part f.type ys f.offset) with
    | some a, some b => match rec f.type a b with
      | some e => match eqFs P rec xs ys r with
        | some q => some (e && q)
        | none => none
      | none => none
    | _, _ => none)
def eqB (P : Program) : Nat → TypeId → Value → Value → Option Bool
  | 0, _, _, _ => none
  | n + 1, t, x, y => match P.underlying t, x, y with
    | some .bool, .bool a, .bool b => some (a == b)
    | some (.int _), .int k a, .int j b => bif decide (k = j) then some (a == b) else none
    | some .string, .string a, .string b => some (a.toList == b.toList)
    | some (.struct fs), .agg xs, .agg ys => bif P.stoodInHeld t then none else eqFs P (eqB P n) xs ys fs.toList
    | _, _, _ => none
def eqTop (P : Program) (op : BinOp) (t : TypeId) (x y : Value) : Option Bool :=
  bif P.eqGuardType P.depth t then none else match op with
    | .eql => eqB P 20 t x y
    | .neq => (match eqB P 20 t x y with
      | some b => some (!b)
      | none => none)
    | _ => none
def simRO (E : Env) (o : Oper) (s : St) : Option (SV × Bool) :=
  match o.op with
  | .move x => some (ev s x, false)
  | .assign x => some (ev s x, false)
  | .nilCheck x => match ev s x with
    | .inr (i, off, none) => some (.inr (i, off, none), false)
    | .inl (_, _) => generic E o s
    | .inr (_, _, some (_, _)) => none
  | .load t x => match ev s x with
    | .inr (i, off, none) => match s.own[i]? with
      | some b => match loadB E.P t b.cells off with
        | some v => some (.inl ((cut b.fl off v.cells.size), v), false)
        | none => none
      | none => none
    | .inl (_, (.pointer (some ⟨g, off, none⟩))) => match E.glob g with
      | some cs => match loadB E.P t cs off with
        | some v => some (.inl ([], v), false)
        | none => none
      | none => none
    | _ => none
  | .fieldAddr t x f => match ev s x with
    | .inr (i, off, none) => match fieldB E.P t f off with
      | some off' => some (.inr (i, off', none), false)
      | none => none
    | .inl (_, _) => generic E o s
    | .inr (_, _, some (_, _)) => none
  | .indexAddr t x ix => match ev s x, ev s ix with
    | .inr (i, off, none), .inl (_, (.int k n)) => match E.P.underlying t with
      | some (.array len e) => match elemB E.P e len off n with
        | some off' => some (.inr (i, off', none), false)
        | none => none
      | _ => none
    | .inr (i, off, some (len, cap)), .inl (_, (.int k n)) => match E.P.underlying t with
      | some (.slice e) => match elemB E.P e len off n with
        | some off' => some (.inr (i, off', none), false)
        | none => none
      | _ => none
    | _, _ => generic E o s
  | .binOp op t x y _ => match ev s x, ev s y with
    | .inl (f, (.int k a)), .inl (g, (.int j b)) => match decide (k = j), cmpI op a b with
      | true, some r => some (.inl ([anyF f || anyF g], (.bool r)), false)
      | _, _ => generic E o s
    | .inl (f, (.agg a)), .inl (g, (.agg b)) => match eqTop E.P op t (.agg a) (.agg b) with
      | some r => some (.inl ([anyF f || anyF g], (.bool r)), false)
      | none => generic E o s
    | _, _ => generic E o s
  | .build _ _ => match generic E o s with
    | some (.inl (fl, v), c) => some (.inl ((List.replicate v.cells.size (anyF fl)), v), c)
    | r => r
  | .field t x f => match generic E o s with
    | some (.inl (_, v), c) => some (.inl ((fieldF E.P t f (flS (ev s x))), v), c)
    | r => r
  | .call { callee := .builtin .len, args := az, argTypes := ats } => match az.toList, ats.toList with
    | [x], [t] => match ev s x, E.P.underlying t with
      | .inr (i, off, some (len, cap)), some (.slice _) => some (.inl ([], (.int .i64 len)), false)
      | _, _ => generic E o s
    | _, _ => generic E o s
  | _ => generic E o s
def simFX (E : Env) (o : Oper) (s : St) : Option (SV × List Blk) :=
  match o.op with
  | .alloc t => match E.P.info? t with
    | some i => match i.zero with
      | some z => some (.inr (s.own.length, 0, none), s.own ++ [⟨z.cells.toList, t, []⟩])
      | none => none
    | none => none
  | .box t x => match ev s x with
    | .inl (fl, y) => some (.inr (s.own.length, 0, none), s.own ++ [⟨y.cells.toList, t, fl⟩])
    | _ => none
  | .store t x y => match ev s x, ev s y with
    | .inr (i, off, none), .inl (fl, u) => bif Nat.ble s.lo i then (match s.own[i]? with
      | some b => match storeB E.P t b.cells off u with
        | some cs => some (.inl ([], undef), s.own.set i ⟨cs, b.elem, over b.fl off fl u.cells.size⟩)
        | none => none
      | none => none) else none
    | _, _ => none
  | .buildSlice t len parts => bif parts.toList.all (fun p => isV (ev s p.2)) then
      (match litB E.P t len (parts.toList.map fun p => (p.1, rho s p.2)) with
      | some (cells, e) => some (.inr (s.own.length, 0, some (len, len)), s.own ++ [⟨cells, e, []⟩])
      | none => none) else none
  | _ => none
def putS (n : Nat) (dst : Option Tmp) (x : SV) (s : St) : Option St :=
  match dst with
  | none => some s
  | some d => bif Nat.blt d n then some { s with tmps := (d, x) :: s.tmps } else none
def ask (s : St) (fl : List Bool) (b : Bool) : Bool × St :=
  bif anyF fl then (match s.orc with
    | [] => (b, s)
    | t :: r => (t, { s with orc := r, obl := (b, t) :: s.obl }))
  else (b, s)
def know (s : St) (d : Nat) (b : Bool) : St := { s with tmps := (d, .inl ([], (.bool b))) :: s.tmps }
def askC (s : St) (c : Operand) (fl : List Bool) (b : Bool) : Bool × St :=
  match c with
  | .tmp d => ((ask s fl b).1, know (ask s fl b).2 d (ask s fl b).1)
  | _ => ask s fl b
def wantS (n : Nat) (ops : Array Oper) (o : Oper) (s : St) : Option (Bool × St) :=
  match o.guard with
  | none => some (true, s)
  | some (j, want) => match (ops[j]?).bind (·.dst) with
    | some d => bif Nat.blt d n then (match look s.tmps d with
      | .inl (fl, (.bool b)) => some ((ask s fl b).1 == want, know (ask s fl b).2 d (ask s fl b).1)
      | .inl (_, (.tuple _)) => some (false, s)
      | _ => none) else none
    | none => none
def callArgs (s : St) (o : Oper) : Option (FuncId × List SV) :=
  match o.op with
  | .call { callee := .value (.func f), args := az, argTypes := _ } => some (f, az.toList.map (ev s))
  | _ => none
abbrev Callee := FuncId → List SV → St → Option (SV × St)
def simOps (E : Env) (cl : Callee) (n : Nat) (ops : Array Oper) (ro : Bool) : List Oper → St → Option St
  | [], s => some s
  | o :: rest, s => match wantS n ops o s with
    | none => none
    | some (false, s1) => match putS n o.dst (.inl ([], undef)) s1 with
      | some s2 => simOps E cl n ops ro rest s2
      | none => none
    | some (true, s1) => match (bif ro then none else simFX E o s1) with
      | some (x, own) => match putS n o.dst x { s1 with own := own, mem := true } with
        | some s2 => simOps E cl n ops ro rest s2
        | none => none
      | none => match simRO E o s1 with
        | some (x, c) => match putS n o.dst x { s1 with mem := s1.mem || c } with
          | some s2 => simOps E cl n ops ro rest s2
          | none => none
        | none => match callArgs s1 o with
          | none => none
          | some (f, args) => bif ro then
              (match cl f args { s1 with lo := s1.own.length } with
              | some (.inl (fl, x), s2) => match putS n o.dst (.inl (fl, x)) { s1 with mem := true, orc := s2.orc, obl := s2.obl } with
                | some s3 => simOps E cl n ops ro rest s3
                | none => none
              | _ => none)
            else (match cl f args s1 with
              | some (x, s2) => match putS n o.dst x { s1 with own := s2.own, mem := s2.mem, orc := s2.orc, obl := s2.obl } with
                | some s3 => simOps E cl n ops ro rest s3
                | none => none
              | none => none)
abbrev X := Option (Option Nat)
def X.toExit : X → Exit
  | none => .normal
  | some none => .ret
  | some (some i) => .exit i
def resV (P : Program) (s : St) : ResultVar → Option SV
  | .tmp t => some (look s.tmps t)
  | .cell a t => match look s.tmps a with
    | .inr (i, off, none) => match s.own[i]? with
      | some b => match loadB P t b.cells off with
        | some v => some (.inl ((cut b.fl off v.cells.size), v))
        | none => none
      | none => none
    | _ => none
def resTup : Option SV → Option SV → Option SV
  | some (.inl (f, x)), some (.inl (g, y)) => some (.inl ([anyF f || anyF g], (.tuple #[x, y])))
  | _, _ => none
def resTup3 : Option SV → Option SV → Option SV → Option SV
  | some (.inl (f, x)), some (.inl (g, y)), some (.inl (h, z)) => some (.inl ([anyF f || anyF g || anyF h], (.tuple #[x, y, z])))
  | _, _, _ => none
def simRes (P : Program) (fn : Func) (s : St) : Option SV :=
  match fn.results.toList with
  | [] => some (.inl ([], (.tuple #[])))
  | [r] => resV P s r
  | [r1, r2] => resTup (resV P s r1) (resV P s r2)
  | [r1, r2, r3] => resTup3 (resV P s r1) (resV P s r2) (resV P s r3)
  | _ => none
def initS : Nat → List SV → List (Nat × SV)
  | _, [] => []
  | i, x :: r => (i, x) :: initS (i + 1) r
abbrev Runner := Nat → Code → St → Option (X × St)
def argsV : List SV → Option (List Value)
  | [] => some []
  | .inl (_, v) :: r => match argsV r with
    | some l => some (v :: l)
    | none => none
  | .inr _ :: _ => none
def pcallS (E : Env) : Callee := fun f args s =>
  match argsV args with
  | some l => match E.pcall f l with
    | some (v, b) => match E.P.funcs[f]? with
      | some fn => bif fn.name == "runtime.NumGoroutine" || fn.body.isNone then none else
        some (.inl (List.replicate v.cells.size (args.any fun x => anyF (flS x)), v), { s with mem := true, obl := (b, true) :: s.obl })
      | none => none
    | none => none
  | none => none
def enterO (E : Env) (ih : Runner) : Callee := fun f args s =>
  match E.P.funcs[f]? with
  | some fn => bif fn.name == "runtime.NumGoroutine" then none else (match fn.body with
    | some c => match ih (args.length + (fn.ntmps - args.length)) c { s with tmps := initS 0 args } with
      | some (none, s') => match simRes E.P fn s' with
        | some x => some (x, s')
        | none => none
      | some (some none, s') => match simRes E.P fn s' with
        | some x => some (x, s')
        | none => none
      | _ => none
    | none => none)
  | none => none
def enterS (E : Env) (ih : Runner) : Callee := fun f args s => match pcallS E f args s with
  | some r => some r
  | none => enterO E ih f args s
def stepC (E : Env) (ih : Runner) (n : Nat) : Code → St → Option (X × St)
  | .skip, s => some (none, s)
  | .label _, s => some (none, s)
  | .region _ ops false, s => match simOps E (enterS E ih) n ops false ops.toList s with
    | some s' => some (none, s')
    | none => none
  | .region _ ops true, s => bif E.P.follows .mixedOrders && Region.lexB .any ops then (match simOps E (enterS E ih) n ops true ops.toList { s with mem := true } with
    | some s' => some (none, s')
    | none => none) else none
  | .seq x y, s => match ih n x s with
    | some (none, s') => ih n y s'
    | r => r
  | .cond c x y, s => match ev s c with
    | .inl (fl, (.bool b)) => match askC s c fl b with
      | (true, s') => ih n x s'
      | (false, s') => ih n y s'
    | _ => none
  | .block id x, s => match ih n x s with
    | some (some (some i), s') => bif Nat.beq i id then some (none, s') else some (some (some i), s')
    | r => r
  | .loop x, s => match ih n x s with
    | some (none, s') => ih n (.loop x) s'
    | r => r
  | .exit id, s => some (some (some id), s)
  | .ret, s => some (some none, s)
  | _, _ => none
def simC (E : Env) (fuel : Nat) : Runner :=
  Nat.rec (fun _ _ _ => none) (fun _ ih n c s => stepC E ih n c s) fuel
def initA (fl : List (List Bool)) : Nat → List Value → List SV
  | _, [] => []
  | i, v :: r => .inl (((fl[i]?).getD []), v) :: initA fl (i + 1) r
def simEnd (E : Env) (fuel : Nat) (fl : List (List Bool)) (orc : List Bool) (f : FuncId) (args : List Value) : Option (SV × St) :=
  enterS E (simC E fuel) f (initA fl 0 args) { tmps := [], own := [], lo := 0, mem := false, orc := orc, obl := [] }
def simCall (E : Env) (fuel : Nat) (fl : List (List Bool)) (orc : List Bool) (f : FuncId) (args : List Value) : Option (Value × List (Bool × Bool) × Bool) :=
  match simEnd E fuel fl orc f args with
  | some (.inl (_, x), s) => some (x, s.obl, s.mem)
  | _ => none
def simMake (E : Env) (fuel : Nat) (fl : List (List Bool)) (orc : List Bool) (f : FuncId) (args : List Value) : Option (List Value × Nat × Nat × Nat × List (Bool × Bool)) :=
  match simEnd E fuel fl orc f args with
  | some (.inr (i, off, some (len, cap)), s) => match s.own[i]? with
    | some b => some (b.cells, off, len, cap, s.obl)
    | none => none
  | _ => none
end Go.Proofs.Ytchjjbcmbdmlgaa.Sim
namespace Go.Proofs.Ytchjjbcmbdmlgaa.Sim
open Go Go.RowKit
def Agree (n : Nat) (loc loc' : Nat → Nat) : Prop := ∀ i, i < n → loc i = loc' i
theorem Agree.refl (n : Nat) (loc : Nat → Nat) : Agree n loc loc := fun _ _ => rfl
theorem Agree.trans {n m : Nat} {a b c : Nat → Nat} (h : Agree n a b) (k : Agree m b c) (hl : n ≤ m) : Agree n a c := fun i hi => (h i hi).trans (k i (by omega))
theorem conc_congr {loc loc' : Nat → Nat} {n : Nat} {x : SV} (h : okV n x) (hl : Agree n loc loc') : conc loc x = conc loc' x := by
  rcases x with ⟨fl, x⟩ | ⟨i, off, _ | ⟨len, cap⟩⟩
  · rfl
  · simp [conc, hl i h]
  · simp [conc, hl i h]
theorem okV.mono {n m : Nat} {x : SV} (h : okV n x) (hl : n ≤ m) : okV m x := by
  rcases x with ⟨fl, x⟩ | ⟨i, off, _ | ⟨len, cap⟩⟩
  · trivial
  · exact Nat.lt_of_lt_of_le h hl
  · exact Nat.lt_of_lt_of_le h hl
theorem look_ok {n : Nat} : ∀ {l : List (Nat × SV)} {t : Nat}, (∀ p ∈ l, okV n p.2) → okV n (look l t)
  | [], _, _ => trivial
  | (d, x) :: r, t, h => by
    unfold look
    cases hb : Nat.beq d t
    · exact look_ok fun p hp => h p (List.mem_cons_of_mem _ hp)
    · exact h (d, x) (List.mem_cons_self)
structure WR (w0 : World) (loc : Nat → Nat) (own : List Blk) (mem : Bool) (w : World) : Prop where
  below : Below w0.heap.size w0 w
  blk : ∀ i b, own[i]? = some b → w.heap[loc i]? = some (.cells b.cells.toArray b.elem (0, 0)) ∧ w0.heap.size ≤ loc i
  inj : ∀ i j, i < own.length → j < own.length → loc i = loc j → i = j
  same : mem = false → w = w0
structure TR (n : Nat) (loc : Nat → Nat) (s : St) (a : Act) : Prop where
  size : a.tmps.size = n
  tm : ∀ t, a.tmps.getD t undef = conc loc (look s.tmps t)
  df : a.defers = []
structure Good (s : St) : Prop where
  lo : s.lo ≤ s.own.length
  ok : ∀ p ∈ s.tmps, okV s.own.length p.2
def Holds' (s : St) : Prop := ∀ p ∈ s.obl, p.1 = p.2
structure Le (s s' : St) : Prop where
  ext : ∀ p ∈ s.obl, p ∈ s'.obl
  len : s.own.length ≤ s'.own.length
  lo : s'.lo = s.lo
  keep : ∀ i, i < s.lo → s'.own[i]? = s.own[i]?
theorem Le.refl (s : St) : Le s s := ⟨fun _ h => h, Nat.le_refl _, rfl, fun _ _ => rfl⟩
theorem Le.trans {s t u : St} (h : Le s t) (k : Le t u) : Le s u :=
  ⟨fun p hp => k.ext p (h.ext p hp), Nat.le_trans h.len k.len, k.lo.trans h.lo, fun i hi => (k.keep i (by rw [h.lo]; exact hi)).trans (h.keep i hi)⟩
theorem Le.holds {s s' : St} (h : Le s s') (k : Holds' s') : Holds' s := fun p hp => k p (h.ext p hp)
def exactL : List Value → Bool
  | .int .u64 _ :: _ => true
  | _ => false
def GlobW (gl : Nat → Option (List Value)) (w : World) : Prop := ∀ g cs, gl g = some cs → (∀ (i : Nat) v, cs[i]? = some v → w.cell? ⟨g, i, none⟩ = some v) ∧ (exactL cs = true → ∀ i : Nat, w.cell? ⟨g, i, none⟩ = cs[i]?)
abbrev Glob (E : Env) (w : World) : Prop := GlobW E.glob w
def CallOk (E : Env) : Prop := (∀ f args v, E.call f args = some v → ∀ w, Glob E w → Calls E.P f args w fun e w' => e = .returned v ∧ Below w.heap.size w w') ∧
  ∀ f args v, E.pcall f args = some (v, true) → ∀ w, Glob E w → Calls E.P f args.toArray w fun e w' => e = .returned v ∧ Below w.heap.size w w'
theorem lt_of_some {α : Type} {a : Array α} {i : Nat} {x : α} (h : a[i]? = some x) : i < a.size := by
  rcases Nat.lt_or_ge i a.size with h' | h'
  · exact h'
  · rw [Array.getElem?_eq_none h'] at h; cases h
theorem lt_of_some_list {α : Type} {a : List α} {i : Nat} {x : α} (h : a[i]? = some x) : i < a.length := by
  rcases Nat.lt_or_ge i a.length with h' | h'
  · exact h'
  · rw [List.getElem?_eq_none h'] at h; cases h
theorem GlobW.below {gl : Nat → Option (List Value)} {w w' : World} (h : GlobW gl w) (hb : Below w.heap.size w w') : GlobW gl w' := fun g cs hg => by
  obtain ⟨k1, k2⟩ := h g cs hg
  refine ⟨fun i v hv => ?_, fun he i => ?_⟩
  · have h0 := k1 i v hv
    rw [hb.cell (p := ⟨g, i, none⟩) (block_lt_of_cell h0)]; exact h0
  · cases cs with
    | nil => cases he
    | cons v r =>
      have h0 := k1 0 v rfl
      rw [hb.cell (p := ⟨g, i, none⟩) (show g < w.heap.size from block_lt_of_cell h0)]; exact k2 he i
theorem WR.calls {w0 : World} {loc : Nat → Nat} {own : List Blk} {mem : Bool} {w w' : World} (h : WR w0 loc own mem w) (hb : Below w.heap.size w w') : WR w0 loc own true w' :=
  ⟨h.below.trans (hb.mono h.below.size), fun i b hi => by
    obtain ⟨h1, h2⟩ := h.blk i b hi
    exact ⟨by rw [hb.block _ (lt_of_some h1)]; exact h1, h2⟩, h.inj, fun h => by cases h⟩
theorem WR.mem {w0 : World} {loc : Nat → Nat} {own : List Blk} {mem : Bool} {w : World} (h : WR w0 loc own mem w) : WR w0 loc own true w :=
  ⟨h.below, h.blk, h.inj, fun h => by cases h⟩
theorem WR.restrict {w0 : World} {loc loc' : Nat → Nat} {own own' : List Blk} {mem : Bool} {w : World} (h : WR w0 loc' own' mem w) (ha : Agree own.length loc loc') (hl : own.length ≤ own'.length) (hk : ∀ i, i < own.length → own'[i]? = own[i]?) : WR w0 loc own true w :=
  ⟨h.below, fun i b hi => by
    have hlt := lt_of_some_list hi
    rw [ha i hlt]
    exact h.blk i b (by rw [hk i hlt]; exact hi), fun i j hi hj he => h.inj i j (by omega) (by omega) (by rw [← ha i hi, ← ha j hj]; exact he), fun h => by cases h⟩
theorem eval_ev {n : Nat} {loc : Nat → Nat} {s : St} {a : Act} (h : TR n loc s a) (x : Operand) : a.eval x = conc loc (ev s x) := by
  cases x with
  | tmp t => exact h.tm t
  | const v => rfl
  | global g => rfl
  | func f => rfl
theorem eval_rho {n : Nat} {loc : Nat → Nat} {s : St} {a : Act} (h : TR n loc s a) {x : Operand} (hx : isV (ev s x) = true) : a.eval x = rho s x := by
  rw [eval_ev h]
  unfold rho
  rcases he : ev s x with ⟨fl, y⟩ | ⟨i, off, _ | ⟨len, cap⟩⟩
  · rfl
  · rw [he] at hx; cases hx
  · rw [he] at hx; cases hx
theorem eval_v {n : Nat} {loc : Nat → Nat} {s : St} {a : Act} (h : TR n loc s a) {x : Operand} {fl : List Bool} {y : Value} (hx : ev s x = .inl (fl, y)) : a.eval x = y := by rw [eval_ev h, hx]; rfl
theorem eval_own {n : Nat} {loc : Nat → Nat} {s : St} {a : Act} (h : TR n loc s a) {x : Operand} {i off : Nat} (hx : ev s x = .inr (i, off, none)) : a.eval x = .pointer (some ⟨loc i, off, none⟩) := by rw [eval_ev h, hx]; rfl
theorem eval_sl {n : Nat} {loc : Nat → Nat} {s : St} {a : Act} (h : TR n loc s a) {x : Operand} {i off len cap : Nat} (hx : ev s x = .inr (i, off, some (len, cap))) : a.eval x = .slice (some ⟨loc i, off, none⟩) len cap := by rw [eval_ev h, hx]; rfl
theorem ev_ok {s : St} (h : Good s) (x : Operand) : okV s.own.length (ev s x) := by
  cases x with
  | tmp t => exact look_ok h.ok
  | _ => exact trivial
theorem add_plain (g off n : Nat) : (⟨g, off, none⟩ : Addr).add n = ⟨g, off + n, none⟩ := by
  unfold Addr.add
  by_cases h : n = 0
  · subst h; simp
  · simp [h]
theorem run_loadB {P : Program} {t : TypeId} {cs : List Value} {off g : Nat} {v : Value} (h : loadB P t cs off = some v) (w : World)
    (hc : ∀ (i : Nat) u, cs[i]? = some u → w.cell? ⟨g, i, none⟩ = some u) : (loadVar t ⟨g, off, none⟩).run P w = .ok v w := by
  unfold loadB at h
  cases hu : P.underlying t with
  | none => simp [hu] at h
  | some d =>
    cases hi : P.info? t with
    | none => simp [hu, hi] at h
    | some i =>
      simp only [hu, hi] at h
      have hagg : (isAgg t).run P w = .ok (aggD d) w := by
        unfold isAgg
        rw [Sem.run_bind, run_underlying hu w]
        cases d <;> rfl
      cases hd : aggD d
      · rw [hd] at h
        simp only [cond_false] at h
        have h0 := hc off v h
        simp only [loadVar, Sem.run_bind, hagg, hd, Result.andThen_ok, Bool.false_eq_true, if_false, run_load, h0]
      · rw [hd] at h
        simp only [cond_true] at h
        cases hb : Nat.ble (off + i.size) cs.length
        · rw [hb] at h; cases h
        · rw [hb] at h
          simp only [cond_true, Option.some.injEq] at h
          have hle : off + i.size ≤ cs.length := Nat.le_of_ble_eq_true hb
          have hl : ((cs.drop off).take i.size).length = i.size := by simp; omega
          have hrun := run_loadCells_list (P := P) w ⟨g, off, none⟩ ((cs.drop off).take i.size) (fun j u hj => by
            rw [add_plain]
            refine hc _ _ ?_
            rw [List.getElem?_take] at hj
            split at hj
            · rw [List.getElem?_drop] at hj; exact hj
            · cases hj)
          rw [hl] at hrun
          simp only [loadVar, Sem.run_bind, hagg, hd, Result.andThen_ok, if_true, sizeOf, typeInfo, run_program, hi, Sem.run_pure, hrun, h]
theorem cells_of_blk {w : World} {g : Nat} {cs : List Value} {e : TypeId} (h : w.heap[g]? = some (.cells cs.toArray e (0, 0))) : ∀ (i : Nat) u, cs[i]? = some u → w.cell? ⟨g, i, none⟩ = some u := fun i u hu => by
  rw [cell_of_row w g i _ _ _ h]; simpa using hu
theorem putL_at : ∀ (vs c d : List Value), vs.length = d.length → putL (c ++ d) c.length vs = c ++ vs
  | [], c, [], _ => rfl
  | v :: r, c, [], h => by simp at h
  | [], c, _ :: _, h => by simp at h
  | v :: r, c, x :: d, h => by
    unfold putL
    have e : (c ++ x :: d).set c.length v = (c ++ [v]) ++ d := by simp
    rw [e]
    have := putL_at r (c ++ [v]) d (by simpa using h)
    rw [List.length_append] at this
    rw [show c.length + 1 = c.length + [v].length from rfl, this]; simp
theorem putQ_eq (c : List Value) (o : Nat) (vs : List Value) : putQ c o vs = putL c o vs := by
  unfold putQ
  cases hb : (Nat.beq o 0 && Nat.beq vs.length c.length)
  · rfl
  · simp only [Bool.and_eq_true] at hb
    have h0 := Nat.eq_of_beq_eq_true hb.1
    subst h0
    exact (putL_at vs [] c (Nat.eq_of_beq_eq_true hb.2)).symm
theorem run_storeCells {P : Program} {g : Nat} {e : TypeId} (off : Nat) : ∀ (vs : List Value) (i : Nat) (c : List Value) (w : World), w.heap[g]? = some (.cells c.toArray e (0, 0)) → off + i + vs.length ≤ c.length → vs.all Value.oneCell' = true →
    ∃ w', (storeCells ⟨g, off, none⟩ vs i).run P w = .ok () w' ∧ w'.heap[g]? = some (.cells (putL c (off + i) vs).toArray e (0, 0)) ∧ (∀ k, k ≠ g → w'.heap[k]? = w.heap[k]?) ∧ w'.heap.size = w.heap.size ∧ w'.os = w.os ∧ w'.tape = w.tape ∧ w'.output = w.output
  | [], i, c, w, hg, _, _ => ⟨w, rfl, hg, fun _ _ => rfl, rfl, rfl, rfl, rfl⟩
  | v :: r, i, c, w, hg, hl, hv => by
    simp only [List.all_cons, Bool.and_eq_true] at hv
    simp only [List.length_cons] at hl
    have hlt : off + i < c.length := by omega
    have hc : w.cell? ⟨g, off + i, none⟩ = some c[off + i] := by
      rw [cell_of_row w g _ _ _ _ hg]; simp [hlt]
    have hf : w.frozen? ⟨g, off + i, none⟩ = false := frozen_of_row w g _ _ _ hg
    have hg1 : (w.setCell ⟨g, off + i, none⟩ v).heap[g]? = some (.cells (c.set (off + i) v).toArray e (0, 0)) := by
      rw [heap_setCell_same w g _ _ _ v hg]; simp
    obtain ⟨w', h1, h2, h3, h4, h5, h6, h7⟩ := run_storeCells (P := P) off r (i + 1) (c.set (off + i) v) (w.setCell ⟨g, off + i, none⟩ v) hg1 (by simp; omega) hv.2
    refine ⟨w', ?_, h2, fun k hk => (h3 k hk).trans (heap_setCell_other w _ k v hk), h4.trans (World.size_setCell ..), h5, h6, h7⟩
    unfold storeCells
    rw [Sem.run_bind, add_plain, run_store P w _ v .plain hv.1]
    simp only [hc, hf, Bool.false_eq_true, if_false, Result.andThen_ok]
    exact h1
theorem run_storeB {P : Program} {t : TypeId} {cs cs' : List Value} {off g : Nat} {e : TypeId} {v : Value} (h : storeB P t cs off v = some cs') (w : World) (hg : w.heap[g]? = some (.cells cs.toArray e (0, 0))) :
    ∃ w', (storeVar t ⟨g, off, none⟩ v).run P w = .ok () w' ∧ w'.heap[g]? = some (.cells cs'.toArray e (0, 0)) ∧ (∀ k, k ≠ g → w'.heap[k]? = w.heap[k]?) ∧ w'.heap.size = w.heap.size ∧ w'.os = w.os ∧ w'.tape = w.tape ∧ w'.output = w.output := by
  unfold storeB at h
  cases hi : P.info? t with
  | none => simp [hi] at h
  | some i =>
    simp only [hi] at h
    cases hb : (Nat.beq v.cells.toList.length i.size && Nat.ble (off + i.size) cs.length && v.cells.toList.all Value.oneCell')
    · rw [hb] at h; cases h
    · rw [hb] at h
      simp only [cond_true, Option.some.injEq] at h
      simp only [Bool.and_eq_true] at hb
      obtain ⟨⟨h1, h2⟩, h3⟩ := hb
      have h1 : v.cells.toList.length = i.size := Nat.eq_of_beq_eq_true h1
      have h2 := Nat.le_of_ble_eq_true h2
      have hs : v.cells.size = i.size := by simpa using h1
      obtain ⟨w', r1, r2, r3⟩ := run_storeCells (P := P) off v.cells.toList 0 cs w hg (by rw [h1]; omega) h3
      rw [Nat.add_zero, ← putQ_eq, h] at r2
      refine ⟨w', ?_, r2, r3⟩
      simp only [storeVar, Sem.run_bind, sizeOf, typeInfo, run_program, hi, Sem.run_pure, Result.andThen_ok, hs, ne_eq, not_true_eq_false, if_false]
      exact r1
theorem run_fieldB {P : Program} {t : TypeId} {f off off' g : Nat} (h : fieldB P t f off = some off') (w : World) : (Instr.fieldAt t (.pointer (some ⟨g, off, none⟩)) f).run P w = .ok (.pointer (some ⟨g, off', none⟩)) w := by
  unfold fieldB at h
  split at h
  · rename_i fs hu
    split at h
    · rename_i fl hf
      split at h
      · rename_i i hi
        cases hb : Nat.beq i.size 0
        · rw [hb] at h
          simp only [cond_false, Option.some.injEq] at h
          have hne : ¬ i.size = 0 := fun e => by rw [e] at hb; cases hb
          simp only [Instr.fieldAt, Sem.run_bind, run_underlying hu, Result.andThen_ok, hf, Instr.sureAddr, Sem.run_pure, fieldPlace, sizeOf, typeInfo, run_program, hi, hne, if_false, add_plain, h]
        · rw [hb] at h; cases h
      · cases h
    · cases h
  · cases h
theorem run_elemB {P : Program} {t e : TypeId} {len off off' g : Nat} {k : IntKind} {n : Int} (h : elemB P e len off n = some off') (w : World) :
    (P.underlying t = some (.array len e) → (Instr.indexAt t (.pointer (some ⟨g, off, none⟩)) (.int k n)).run P w = .ok (.pointer (some ⟨g, off', none⟩)) w) ∧
    (P.underlying t = some (.slice e) → ∀ cap, (Instr.indexAt t (.slice (some ⟨g, off, none⟩) len cap) (.int k n)).run P w = .ok (.pointer (some ⟨g, off', none⟩)) w) := by
  unfold elemB at h
  split at h
  · rename_i i hi
    cases hb : decide (0 ≤ n ∧ n < (len : Int))
    · rw [hb] at h; cases h
    · rw [hb] at h
      simp only [cond_true, Option.some.injEq] at h
      have hb := of_decide_eq_true hb
      have hs : (sizeOf e).run P w = .ok i.size w := by simp [sizeOf, typeInfo, hi]
      refine ⟨fun hu => ?_, fun hu cap => ?_⟩
      · simp only [Instr.indexAt, asIntOf, Sem.run_bind, Sem.run_pure, Result.andThen_ok, run_underlying hu, Instr.sureAddr, hb, and_self, if_true, hs, add_plain, h]
      · simp only [Instr.indexAt, asIntOf, Sem.run_bind, Sem.run_pure, Result.andThen_ok, run_underlying hu, hb, and_self, if_true, hs, add_plain, h]
  · cases h
theorem run_litB {P : Program} {t e : TypeId} {len : Nat} {parts : List (Nat × Value)} {cells : List Value} (h : litB P t len parts = some (cells, e)) (w : World) :
    (Instr.buildSlice t len parts.toArray).run P w = .ok (.slice (some ⟨w.heap.size, 0, none⟩) len len) (w.alloc (.cells cells.toArray e)) := by
  unfold litB at h
  split at h
  · rename_i e' hu
    split at h
    · rename_i i hi
      split at h
      · rename_i z hz
        cases hb : (Nat.beq (len * i.size) 0 || Nat.blt (2 ^ 24) (len * i.size))
        · rw [hb] at h
          simp only [cond_false] at h
          split at h
          · rename_i cs hf
            simp only [Option.some.injEq, Prod.mk.injEq] at h
            obtain ⟨rfl, rfl⟩ := h
            simp only [Bool.or_eq_false_iff] at hb
            have h0 : ¬ len * i.size = 0 := fun e => by rw [e] at hb; exact absurd hb.1 (by decide)
            have h1 : ¬ len * i.size > 2 ^ 24 := fun e => by
              have := hb.2
              rw [Nat.blt_eq.mpr e] at this
              cases this
            simp only [Instr.buildSlice, Sem.run_bind, run_underlying hu, Result.andThen_ok, sizeOf, typeInfo, run_program, hi, Sem.run_pure, h1, if_false, h0, zeroValue, hz, hf, newRow, run_newObj, World.alloc_eq, Array.toArray_toList]
          · cases h
        · rw [hb] at h
          simp only [cond_true] at h
          split at h
          · simp only [Option.some.injEq, Prod.mk.injEq] at h
            obtain ⟨rfl, rfl⟩ := h
            simp [Instr.buildSlice, run_underlying hu, Result.andThen_ok, sizeOf, typeInfo, run_program, hi, newRow, Instr.fill]
            rw [show (Array.map (fun _ : Nat => (default : Value)) (Array.range 0)) = #[] from Array.eq_empty_of_size_eq_zero (by rw [Array.size_map, Array.size_range])]
          · cases h
      · cases h
    · cases h
  · cases h
theorem eqFs_ok {P : Program} {rec : TypeId → Value → Value → Option Bool} {D : Nat} (hrec : ∀ t x y b, rec t x y = some b → ∀ w, (Op.equalIn D t x y).run P w = .ok b w) (xs ys : Array Value) : ∀ (fs : List Field) (b : Bool), eqFs P rec xs ys fs = some b → ∀ w, (Op.eqFields D xs ys fs).run P w = .ok b w
  | [], b, h, w => by simp [eqFs] at h; subst h; simp [Op.eqFields]
  | f :: r, b, h, w => by
    unfold eqFs at h
    cases hn : (f.name == "_")
    · rw [hn] at h
      simp only [cond_false] at h
      have hn' : ¬ f.name = "_" := by intro e; rw [e] at hn; simp at hn
      split at h
      · rename_i a b' ha hb
        split at h
        · rename_i e he
          split at h
          · rename_i q hq
            simp only [Option.some.injEq] at h
            subst h
            have h1 := hrec _ _ _ _ he w
            have h2 := eqFs_ok hrec xs ys r q hq w
            simp only [Op.eqFields, hn', ne_eq, not_false_eq_true, if_true, Sem.run_bind, evalPure_run _ ha w, evalPure_run _ hb w, h1, Result.andThen_ok]
            cases e <;> simp [h2]
          · cases h
        · cases h
      · cases h
    · rw [hn] at h; cases h
theorem eqB_ok {P : Program} : ∀ (n : Nat) (t : TypeId) (x y : Value) (b : Bool), eqB P n t x y = some b → ∀ (D : Nat), n ≤ D → ∀ w, (Op.equalIn D t x y).run P w = .ok b w
  | 0, _, _, _, _, h, _, _, _ => by simp [eqB] at h
  | n + 1, t, x, y, b, h, D, hD, w => by
    obtain ⟨d, rfl⟩ : ∃ d, D = d + 1 := ⟨D - 1, by omega⟩
    unfold eqB at h
    split at h
    · rename_i a c hu
      simp only [Option.some.injEq] at h
      subst h
      exact run_equalIn_bool w d t a c hu
    · rename_i k' k a j c hu
      cases hk : decide (k = j)
      · rw [hk] at h; cases h
      · rw [hk] at h
        simp only [cond_true, Option.some.injEq] at h
        have := of_decide_eq_true hk
        subst this h
        exact run_equalIn_int w d t k k' a c hu
    · rename_i a c hu
      simp only [Option.some.injEq] at h
      subst h
      exact run_equalIn_string w d t a c hu
    · rename_i fs xs ys hu
      cases hs : P.stoodInHeld t
      · rw [hs] at h
        simp only [cond_false] at h
        have hf : P.fieldsOf t = fs := by simp [Program.fieldsOf, hu]
        rw [run_equalIn_struct w d t xs ys (by rw [hf]; exact hu) hs, hf]
        exact eqFs_ok (fun t x y b hb w => eqB_ok n t x y b hb d (by omega) w) xs ys fs.toList b h w
      · rw [hs] at h; cases h
    · cases h
theorem eqTop_ok {P : Program} {op : BinOp} {t : TypeId} {xs ys : Array Value} {r : Bool} (h : eqTop P op t (.agg xs) (.agg ys) = some r) (x y : Operand) (w : World) :
    (do eqGuard op t x y (.agg xs) (.agg ys); binOp op t (.agg xs) (.agg ys)).run P w = .ok (.bool r) w := by
  unfold eqTop at h
  cases hg : P.eqGuardType P.depth t
  · rw [hg] at h
    simp only [cond_false] at h
    split at h
    · have he := eqB_ok 20 t _ _ _ h Op.maxDepth (by decide) w
      simp [eqGuard, binOp, Op.equal, he, hg]
    · split at h
      · rename_i b hb
        simp only [Option.some.injEq] at h
        subst h
        have he := eqB_ok 20 t _ _ _ hb Op.maxDepth (by decide) w
        simp [eqGuard, binOp, Op.equal, he, hg]
      · cases h
    · cases h
  · rw [hg] at h; cases h
def Does (E : Env) (o : Oper) (a : Act) (C : World → Prop) (v : Value) (isCall : Bool) : Prop :=
  (isCall = false ∧ ∀ w, C w → (execOp a.eval o).run E.P w = .ok (.value v) w) ∨
    (isCall = true ∧ ∃ f args, E.call f args = some v ∧ ∀ w, (execOp a.eval o).run E.P w = .ok (.enter f args) w)
theorem generic_st {E : Env} {o : Oper} {s : St} {x : SV} {c : Bool} (h : generic E o s = some (x, c)) : ∃ fl v, x = .inl (fl, v) := by
  unfold generic at h
  cases hb : (notSel o.op && o.op.operands.toList.all (fun x => isV (ev s x)))
  · rw [hb] at h; cases h
  · rw [hb] at h
    simp only [cond_true] at h
    split at h
    · simp only [Option.some.injEq, Prod.mk.injEq] at h; exact ⟨_, _, h.1.symm⟩
    · split at h
      · simp only [Option.some.injEq, Prod.mk.injEq] at h; exact ⟨_, _, h.1.symm⟩
      · cases h
    · cases h
theorem generic_ok {E : Env} {o : Oper} {s : St} {x : SV} {c : Bool} {n : Nat} {loc : Nat → Nat} {a : Act} (C : World → Prop) (h : generic E o s = some (x, c)) (ht : TR n loc s a) : Does E o a C (conc loc x) c := by
  unfold generic at h
  cases hb : (notSel o.op && o.op.operands.toList.all (fun x => isV (ev s x)))
  · rw [hb] at h; cases h
  · rw [hb] at h
    simp only [cond_true] at h
    simp only [Bool.and_eq_true, List.all_eq_true] at hb
    have he : execOp a.eval o = execOp (rho s) o := execOp_congr o (fun cs b e => by rw [e] at hb; exact absurd hb.1 (by simp [notSel])) fun y hy => eval_rho ht (hb.2 y (by simpa using hy))
    cases hp : evalPure E.P (execOp (rho s) o) with
    | none => rw [hp] at h; cases h
    | some q =>
      have hrun := evalPure_run _ hp
      rw [hp] at h
      cases q <;> simp only [Option.some.injEq, Prod.mk.injEq, reduceCtorEq] at h
      case value v =>
        obtain ⟨rfl, rfl⟩ := h
        exact .inl ⟨rfl, fun w _ => by rw [he]; exact hrun w⟩
      case enter f args =>
        cases hcall : E.call f args with
        | none => rw [hcall] at h; cases h
        | some v =>
          rw [hcall] at h
          simp only [Option.some.injEq, Prod.mk.injEq] at h
          obtain ⟨rfl, rfl⟩ := h
          exact .inr ⟨rfl, f, args, hcall, fun w => by rw [he]; exact hrun w⟩
theorem simRO_st {E : Env} {o : Oper} {s : St} {x : SV} {c : Bool} (h : simRO E o s = some (x, c)) (hg : Good s) : okV s.own.length x := by
  have gen : ∀ {x : SV} {c : Bool}, generic E o s = some (x, c) → okV s.own.length x := fun h => by
    obtain ⟨_, _, rfl⟩ := generic_st h; trivial
  have ev1 : ∀ {y : Operand} {i off : Nat}, ev s y = .inr (i, off, none) → i < s.own.length := fun {y i off} hy => by
    have := ev_ok hg y; rw [hy] at this; exact this
  have ev2 : ∀ {y : Operand} {i off l k : Nat}, ev s y = .inr (i, off, some (l, k)) → i < s.own.length := fun {y i off l k} hy => by
    have := ev_ok hg y; rw [hy] at this; exact this
  unfold simRO at h
  repeat' (first | exact gen h | (cases h; done) | split at h)
  all_goals (simp only [Option.some.injEq, Prod.mk.injEq] at h; obtain ⟨rfl, _⟩ := h)
  all_goals first | trivial | exact ev_ok hg _ | exact ev1 ‹_› | exact ev2 ‹_› | skip
theorem simRO_ok {E : Env} {o : Oper} {s : St} {x : SV} {c : Bool} {n : Nat} {loc : Nat → Nat} {a : Act} (C : World → Prop) (h : simRO E o s = some (x, c)) (ht : TR n loc s a)
    (hC : ∀ w, C w → (∀ i b, s.own[i]? = some b → w.heap[loc i]? = some (.cells b.cells.toArray b.elem (0, 0))) ∧ Glob E w) : Does E o a C (conc loc x) c := by
  unfold simRO at h
  split at h
  · rename_i x' ho
    simp only [Option.some.injEq, Prod.mk.injEq] at h
    obtain ⟨rfl, rfl⟩ := h
    refine .inl ⟨rfl, fun w _ => ?_⟩
    rw [← eval_ev ht]; simp only [execOp, ho, Sem.run_pure]
  · rename_i x' ho
    simp only [Option.some.injEq, Prod.mk.injEq] at h
    obtain ⟨rfl, rfl⟩ := h
    refine .inl ⟨rfl, fun w _ => ?_⟩
    rw [← eval_ev ht]; simp only [execOp, ho, Sem.run_pure]
  · rename_i x' ho
    split at h
    · rename_i i off hx
      simp only [Option.some.injEq, Prod.mk.injEq] at h
      obtain ⟨rfl, rfl⟩ := h
      refine .inl ⟨rfl, fun w _ => ?_⟩
      have he := eval_own ht hx
      simp only [execOp, ho, he, Sem.run_pure]; rfl
    · exact generic_ok C h ht
    · cases h
  · rename_i t x' ho
    split at h
    · rename_i i off hx
      split at h
      · rename_i b hb
        split at h
        · rename_i v hv
          simp only [Option.some.injEq, Prod.mk.injEq] at h
          obtain ⟨rfl, rfl⟩ := h
          refine .inl ⟨rfl, fun w hw => ?_⟩
          have he := eval_own ht hx
          have hl := run_loadB (g := loc i) hv w (cells_of_blk ((hC w hw).1 i b hb))
          simp only [execOp, ho, he, Instr.loadAt, Instr.sureAddr, Sem.run_bind, Sem.run_pure, Result.andThen_ok, hl]; rfl
        · cases h
      · cases h
    · rename_i fl g off hx
      split at h
      · rename_i cs hg
        split at h
        · rename_i v hv
          simp only [Option.some.injEq, Prod.mk.injEq] at h
          obtain ⟨rfl, rfl⟩ := h
          refine .inl ⟨rfl, fun w hw => ?_⟩
          have he := eval_v ht hx
          have hl := run_loadB (g := g) hv w ((hC w hw).2 g cs hg).1
          simp only [execOp, ho, he, Instr.loadAt, Instr.sureAddr, Sem.run_bind, Sem.run_pure, Result.andThen_ok, hl]; rfl
        · cases h
      · cases h
    · cases h
  · rename_i t x' f ho
    split at h
    · rename_i i off hx
      split at h
      · rename_i off' hf
        simp only [Option.some.injEq, Prod.mk.injEq] at h
        obtain ⟨rfl, rfl⟩ := h
        refine .inl ⟨rfl, fun w hw => ?_⟩
        have he := eval_own ht hx
        have hl := run_fieldB (g := loc i) hf w
        simp only [execOp, ho, he, Sem.run_bind, hl, Result.andThen_ok, Sem.run_pure]; rfl
      · cases h
    · exact generic_ok C h ht
    · cases h
  · rename_i t x' ix ho
    split at h
    · rename_i i off fl k m hx hix
      split at h
      · rename_i len e hu
        split at h
        · rename_i off' hf
          simp only [Option.some.injEq, Prod.mk.injEq] at h
          obtain ⟨rfl, rfl⟩ := h
          refine .inl ⟨rfl, fun w hw => ?_⟩
          have he := eval_own ht hx
          have hei := eval_v ht hix
          have hl := (run_elemB (P := E.P) (t := t) (g := loc i) (k := k) hf w).1 hu
          simp only [execOp, ho, he, hei, Sem.run_bind, hl, Result.andThen_ok, Sem.run_pure]; rfl
        · cases h
      · cases h
    · rename_i i off len cap fl k m hx hix
      split at h
      · rename_i e hu
        split at h
        · rename_i off' hf
          simp only [Option.some.injEq, Prod.mk.injEq] at h
          obtain ⟨rfl, rfl⟩ := h
          refine .inl ⟨rfl, fun w hw => ?_⟩
          have he := eval_sl ht hx
          have hei := eval_v ht hix
          have hl := (run_elemB (P := E.P) (t := t) (g := loc i) (k := k) hf w).2 hu cap
          simp only [execOp, ho, he, hei, Sem.run_bind, hl, Result.andThen_ok, Sem.run_pure]; rfl
        · cases h
      · cases h
    · exact generic_ok C h ht
  · rename_i op t x' y' yt ho
    split at h
    · rename_i f k a' g j b' hx hy
      split at h
      · rename_i r hk hr
        simp only [Option.some.injEq, Prod.mk.injEq] at h
        obtain ⟨rfl, rfl⟩ := h
        have hk := of_decide_eq_true hk
        subst hk
        have he := eval_v ht hx
        have he' := eval_v ht hy
        refine .inl ⟨rfl, fun w _ => ?_⟩
        unfold cmpI at hr
        split at hr <;> first | (cases hr; done) | (simp only [Option.some.injEq] at hr; subst hr; simp [execOp, ho, he, he', binOp, eqGuard, Op.intCmp, conc])
      · exact generic_ok C h ht
    · rename_i f a' g b' hx hy
      split at h
      · rename_i r hr
        simp only [Option.some.injEq, Prod.mk.injEq] at h
        obtain ⟨rfl, rfl⟩ := h
        have he := eval_v ht hx
        have he' := eval_v ht hy
        refine .inl ⟨rfl, fun w _ => ?_⟩
        have hq := eqTop_ok hr x' y' w
        simp only [Sem.run_bind] at hq
        simp only [execOp, ho, he, he', Sem.run_bind, conc]
        rw [hq]; rfl
      · exact generic_ok C h ht
    · exact generic_ok C h ht
  · split at h
    · rename_i fl v c' hgen
      simp only [Option.some.injEq, Prod.mk.injEq] at h
      obtain ⟨rfl, rfl⟩ := h
      have hd := generic_ok C hgen ht
      exact hd
    · exact generic_ok C h ht
  · split at h
    · rename_i fl v c' hgen
      simp only [Option.some.injEq, Prod.mk.injEq] at h
      obtain ⟨rfl, rfl⟩ := h
      have hd := generic_ok C hgen ht
      exact hd
    · exact generic_ok C h ht
  · rename_i az ats ho
    split at h
    · rename_i x' t hl1 hl2
      split at h
      · rename_i i off len cap e hx hu
        simp only [Option.some.injEq, Prod.mk.injEq] at h
        obtain ⟨rfl, rfl⟩ := h
        refine .inl ⟨rfl, fun w hw => ?_⟩
        have he := eval_sl ht hx
        have e1 : az = #[x'] := by rw [← Array.toArray_toList (xs := az), hl1]
        have e2 : ats = #[t] := by rw [← Array.toArray_toList (xs := ats), hl2]
        subst e1 e2
        obtain ⟨dst, op, type, pos, after, guard⟩ := o
        simp only at ho
        subst ho
        unfold execOp
        simp [resolve, invoke, builtin, Builtin.len_, he, run_underlying hu, goInt, conc]
      · exact generic_ok C h ht
    · exact generic_ok C h ht
  · exact generic_ok C h ht
theorem putS_keep {n : Nat} {dst : Option Tmp} {x : SV} {s s' : St} (h : putS n dst x s = some s') : s'.obl = s.obl ∧ s'.own = s.own ∧ s'.mem = s.mem ∧ s'.lo = s.lo ∧ (∀ p ∈ s'.tmps, p ∈ s.tmps ∨ p.2 = x) := by
  unfold putS at h
  cases dst with
  | none => simp only [Option.some.injEq] at h; subst h; exact ⟨rfl, rfl, rfl, rfl, fun p hp => .inl hp⟩
  | some d =>
    simp only at h
    cases hb : Nat.blt d n
    · rw [hb] at h; cases h
    · rw [hb] at h; simp only [cond_true, Option.some.injEq] at h; subst h
      refine ⟨rfl, rfl, rfl, rfl, fun p hp => ?_⟩
      rcases List.mem_cons.mp hp with rfl | hp
      · exact .inr rfl
      · exact .inl hp
theorem putS_good {n : Nat} {dst : Option Tmp} {x : SV} {s s' : St} (h : putS n dst x s = some s') (hg : Good s) (hx : okV s.own.length x) : Good s' ∧ Le s s' := by
  obtain ⟨h1, h2, h3, h4, h5⟩ := putS_keep h
  refine ⟨⟨by rw [h2, h4]; exact hg.lo, fun p hp => ?_⟩, ⟨fun p hp => by rw [h1]; exact hp, by rw [h2]; exact Nat.le_refl _, h4, fun i _ => by rw [h2]⟩⟩
  rw [h2]
  rcases h5 p hp with h | h
  · exact hg.ok p h
  · rw [h]; exact hx
theorem tr_put {n : Nat} {loc : Nat → Nat} {s s' : St} {a : Act} {dst : Option Tmp} {x : SV} (h : putS n dst x s = some s') (ht : TR n loc s a) : TR n loc s' (a.put dst (conc loc x)) := by
  unfold putS at h
  cases dst with
  | none => simp only [Option.some.injEq] at h; subst h; exact ht
  | some d =>
    simp only at h
    cases hb : Nat.blt d n
    · rw [hb] at h; cases h
    · rw [hb] at h
      simp only [cond_true, Option.some.injEq] at h
      subst h
      have hd : d < n := by simpa [Nat.blt_eq] using hb
      refine ⟨?_, fun t => ?_, ht.df⟩
      · simp [Act.put, ht.size]
      · have h0 := ht.tm t
        have hsz := ht.size
        simp only [Act.put, look]
        simp only [Array.getD_eq_getD_getElem?, Array.getElem?_setIfInBounds] at h0 ⊢
        by_cases hdt : d = t
        · subst hdt
          simp [hsz, hd]
        · have : Nat.beq d t = false := by
            cases hbb : Nat.beq d t
            · rfl
            · exact absurd (Nat.eq_of_beq_eq_true hbb) hdt
          simp only [this, cond_false, hdt, if_false]
          exact h0
theorem TR.of {n : Nat} {loc : Nat → Nat} {s s' : St} {a : Act} (ht : TR n loc s a) (h : s'.tmps = s.tmps) : TR n loc s' a := ⟨ht.size, fun t => by rw [h]; exact ht.tm t, ht.df⟩
theorem TR.move {n : Nat} {loc loc' : Nat → Nat} {s s' : St} {a : Act} (ht : TR n loc s a) (hg : Good s) (ha : Agree s.own.length loc loc') (h : s'.tmps = s.tmps) : TR n loc' s' a :=
  ⟨ht.size, fun t => by rw [h, ht.tm t]; exact conc_congr (look_ok hg.ok) ha, ht.df⟩
theorem ask_ok (s : St) (fl : List Bool) (b : Bool) : (∀ p ∈ s.obl, p ∈ (ask s fl b).2.obl) ∧ (Holds' (ask s fl b).2 → (ask s fl b).1 = b) ∧ (ask s fl b).2.tmps = s.tmps ∧ (ask s fl b).2.own = s.own ∧ (ask s fl b).2.mem = s.mem ∧ (ask s fl b).2.lo = s.lo := by
  unfold ask
  cases anyF fl
  · exact ⟨fun _ h => h, fun _ => rfl, rfl, rfl, rfl, rfl⟩
  · simp only [cond_true]
    split
    · exact ⟨fun _ h => h, fun _ => rfl, rfl, rfl, rfl, rfl⟩
    · exact ⟨fun p hp => List.mem_cons_of_mem _ hp, fun h => (h _ (List.mem_cons_self)).symm, rfl, rfl, rfl, rfl⟩
theorem ask_le (s : St) (fl : List Bool) (b : Bool) : Le s (ask s fl b).2 := by
  obtain ⟨h1, _, h3, h4, h5, h6⟩ := ask_ok s fl b
  exact ⟨h1, by rw [h4]; exact Nat.le_refl _, h6, fun i _ => by rw [h4]⟩
theorem ask_good {s : St} (hg : Good s) (fl : List Bool) (b : Bool) : Good (ask s fl b).2 := by
  obtain ⟨h1, _, h3, h4, h5, h6⟩ := ask_ok s fl b
  exact ⟨by rw [h4, h6]; exact hg.lo, fun p hp => by rw [h4]; exact hg.ok p (by rw [← h3]; exact hp)⟩
theorem know_good {s : St} (hg : Good s) (d : Nat) (b : Bool) : Good (know s d b) :=
  ⟨hg.lo, fun p hp => by
    rcases List.mem_cons.mp hp with rfl | hp
    · trivial
    · exact hg.ok p hp⟩
theorem know_le (s : St) (d : Nat) (b : Bool) : Le s (know s d b) := ⟨fun _ h => h, Nat.le_refl _, rfl, fun _ _ => rfl⟩
theorem TR.ask {n : Nat} {loc : Nat → Nat} {s : St} {a : Act} (ht : TR n loc s a) (fl : List Bool) (b : Bool) : TR n loc (Sim.ask s fl b).2 a := ht.of (ask_ok s fl b).2.2.1
theorem TR.know {n : Nat} {loc : Nat → Nat} {s : St} {a : Act} (ht : TR n loc s a) {d : Nat} {b : Bool} (h : a.tmps.getD d undef = .bool b) : TR n loc (know s d b) a := by
  refine ⟨ht.size, fun t => ?_, ht.df⟩
  simp only [Sim.know, look]
  cases hb : Nat.beq d t
  · exact ht.tm t
  · have he : d = t := Nat.eq_of_beq_eq_true hb
    subst he
    exact h
theorem wantS_st {n : Nat} {ops : Array Oper} {o : Oper} {s s1 : St} {t : Bool} (h : wantS n ops o s = some (t, s1)) : Le s s1 ∧ s1.own = s.own ∧ s1.mem = s.mem ∧ (Good s → Good s1) := by
  unfold wantS at h
  split at h
  · simp only [Option.some.injEq, Prod.mk.injEq] at h
    obtain ⟨_, rfl⟩ := h
    exact ⟨Le.refl s, rfl, rfl, id⟩
  · split at h
    · rename_i d hd
      cases hb : Nat.blt d n
      · rw [hb] at h; cases h
      · rw [hb] at h
        simp only [cond_true] at h
        split at h
        · rename_i fl b hl
          simp only [Option.some.injEq, Prod.mk.injEq] at h
          obtain ⟨_, rfl⟩ := h
          obtain ⟨h1, _, h3, h4, h5, h6⟩ := ask_ok s fl b
          exact ⟨(ask_le s fl b).trans (know_le _ _ _), h4, h5, fun hg => know_good (ask_good hg fl b) _ _⟩
        · simp only [Option.some.injEq, Prod.mk.injEq] at h
          obtain ⟨_, rfl⟩ := h
          exact ⟨Le.refl s, rfl, rfl, id⟩
        · cases h
    · cases h
theorem wantS_ok {n : Nat} {ops : Array Oper} {o : Oper} {s s1 : St} {t : Bool} (h : wantS n ops o s = some (t, s1)) (hh : Holds' s1) {loc : Nat → Nat} {a : Act} (ht : TR n loc s a) :
    Region.wanted o (yielded ops a.tmps) = t ∧ TR n loc s1 a := by
  unfold wantS at h
  split at h
  · rename_i hg
    simp only [Option.some.injEq, Prod.mk.injEq] at h
    obtain ⟨rfl, rfl⟩ := h
    exact ⟨by simp [Region.wanted, hg], ht⟩
  · rename_i j want hg
    split at h
    · rename_i d hd
      cases hb : Nat.blt d n
      · rw [hb] at h; cases h
      · rw [hb] at h
        simp only [cond_true] at h
        have hdn : d < n := by simpa [Nat.blt_eq] using hb
        have hlt : d < a.tmps.size := by rw [ht.size]; exact hdn
        split at h
        · rename_i fl b hl
          simp only [Option.some.injEq, Prod.mk.injEq] at h
          obtain ⟨rfl, rfl⟩ := h
          obtain ⟨k1, k2, k3, k4, k5⟩ := ask_ok s fl b
          have h0 : a.tmps.getD d undef = .bool b := by have := ht.tm d; rw [hl] at this; exact this
          refine ⟨?_, (ht.ask fl b).know (by rw [h0, k2 hh])⟩
          have h1 : a.tmps[d]? = some (.bool b) := by
            rw [Array.getD_eq_getD_getElem?, Array.getElem?_eq_getElem hlt] at h0
            rw [Array.getElem?_eq_getElem hlt]
            simpa using h0
          have hy : yielded ops a.tmps j = some b := by simp [yielded, hd, h1]
          rw [k2 hh]
          simp [Region.wanted, hg, hy]
        · rename_i fl vs hl
          simp only [Option.some.injEq, Prod.mk.injEq] at h
          obtain ⟨rfl, rfl⟩ := h
          refine ⟨?_, ht⟩
          have h0 : a.tmps.getD d undef = .tuple vs := by have := ht.tm d; rw [hl] at this; exact this
          have h1 : a.tmps[d]? = some (.tuple vs) := by
            rw [Array.getD_eq_getD_getElem?, Array.getElem?_eq_getElem hlt] at h0
            rw [Array.getElem?_eq_getElem hlt]
            simpa using h0
          have hy : yielded ops a.tmps j = none := by simp [yielded, hd, h1]
          simp [Region.wanted, hg, hy]
        · cases h
    · cases h
theorem op_ro {E : Env} (HC : CallOk E) {n : Nat} {o : Oper} {s : St} {x : SV} {c : Bool} {w0 : World} (hG : Glob E w0) {loc : Nat → Nat} {a : Act} {w : World} {K : Act → World → Prop} {Q : Exit → Act → World → Prop}
    (h : simRO E o s = some (x, c)) (ht : TR n loc s a) (hw : WR w0 loc s.own s.mem w) (hK : ∀ w', WR w0 loc s.own (s.mem || c) w' → K (a.put o.dst (conc loc x)) w') : o.wp E.P a w K Q := by
  have hd := simRO_ok (fun w' => WR w0 loc s.own s.mem w') h ht (fun w' hw' => ⟨fun i b hi => (hw'.blk i b hi).1, hG.below hw'.below⟩)
  unfold Oper.wp
  rcases hd with ⟨rfl, hd⟩ | ⟨rfl, f, args, hf, hd⟩
  · rw [hd w hw, Oper.upon_value]
    exact hK w (by rw [Bool.or_false]; exact hw)
  · rw [hd w, Oper.upon_enter]
    refine (HC.1 f args _ hf w (hG.below hw.below)).mono fun e w' ⟨he, hb⟩ => ?_
    subst he
    exact hK w' (by rw [Bool.or_true]; exact hw.calls hb)
def ext (loc : Nat → Nat) (n b : Nat) : Nat → Nat := fun i => if i = n then b else loc i
theorem ext_old (loc : Nat → Nat) (n b : Nat) : Agree n loc (ext loc n b) := fun i h => by unfold ext; rw [if_neg (by omega)]
theorem ext_new (loc : Nat → Nat) (n b : Nat) : ext loc n b n = b := by unfold ext; rw [if_pos rfl]
theorem WR.grow {w0 : World} {loc : Nat → Nat} {own : List Blk} {mem : Bool} {w : World} (h : WR w0 loc own mem w) (cs : List Value) (t : TypeId) (fl : List Bool) :
    WR w0 (ext loc own.length w.heap.size) (own ++ [⟨cs, t, fl⟩]) true (w.alloc (.cells cs.toArray t)) := by
  have hsz := h.below.size
  refine ⟨h.below.alloc hsz _, fun i b hi => ?_, fun i j hi hj he => ?_, fun h => by cases h⟩
  · rcases Nat.lt_trichotomy i own.length with hl | hl | hl
    · rw [List.getElem?_append_left hl] at hi
      obtain ⟨h1, h2⟩ := h.blk i b hi
      rw [← ext_old loc _ _ i hl]
      exact ⟨by rw [Below.heap_alloc w _ (loc i) (lt_of_some h1)]; exact h1, h2⟩
    · subst hl
      simp at hi
      subst hi
      rw [ext_new]
      exact ⟨by rw [heap_alloc_new], hsz⟩
    · rw [List.getElem?_eq_none (by simp; omega)] at hi; cases hi
  · have key : ∀ i, i < own.length → loc i < w.heap.size := fun i hi => by
      obtain ⟨h1, _⟩ := h.blk i own[i] (by simp [hi])
      exact lt_of_some h1
    simp only [List.length_append, List.length_cons, List.length_nil] at hi hj
    unfold ext at he
    by_cases h1 : i = own.length <;> by_cases h2 : j = own.length
    · omega
    · rw [if_pos h1, if_neg h2] at he; have := key j (by omega); omega
    · rw [if_neg h1, if_pos h2] at he; have := key i (by omega); omega
    · rw [if_neg h1, if_neg h2] at he; exact h.inj i j (by omega) (by omega) he
theorem WR.store {w0 : World} {loc : Nat → Nat} {own : List Blk} {mem : Bool} {w w' : World} (h : WR w0 loc own mem w) {i : Nat} {b : Blk} (hi : own[i]? = some b) {cs : List Value}
    (h1 : w'.heap[loc i]? = some (.cells cs.toArray b.elem (0, 0))) (h2 : ∀ k, k ≠ loc i → w'.heap[k]? = w.heap[k]?) (h3 : w'.heap.size = w.heap.size) (h4 : w'.os = w.os) (h5 : w'.tape = w.tape) (h6 : w'.output = w.output) (fl : List Bool) :
    WR w0 loc (own.set i ⟨cs, b.elem, fl⟩) true w' := by
  have hil := lt_of_some_list hi
  obtain ⟨_, hge⟩ := h.blk i b hi
  refine ⟨h.below.trans ⟨h4, h5, h6, by omega, fun k hk => h2 k (by omega)⟩, fun j c hj => ?_, fun j k hj hk he => h.inj j k (by simpa using hj) (by simpa using hk) he, fun h => by cases h⟩
  by_cases hij : i = j
  · subst hij
    rw [List.getElem?_set_self hil] at hj
    simp only [Option.some.injEq] at hj
    subst hj
    exact ⟨h1, hge⟩
  · rw [List.getElem?_set_ne hij] at hj
    obtain ⟨k1, k2⟩ := h.blk j c hj
    have hjl := lt_of_some_list hj
    exact ⟨by rw [h2 _ (fun e => hij (h.inj j i hjl hil e).symm)]; exact k1, k2⟩
theorem simFX_st {E : Env} {o : Oper} {s : St} {x : SV} {own : List Blk} (h : simFX E o s = some (x, own)) (hg : Good s) : okV own.length x ∧ s.own.length ≤ own.length ∧ (∀ i, i < s.lo → own[i]? = s.own[i]?) := by
  have grow : ∀ (b : Blk), s.own.length ≤ (s.own ++ [b]).length ∧ (∀ i, i < s.lo → (s.own ++ [b])[i]? = s.own[i]?) := fun b =>
    ⟨by simp, fun i hi => List.getElem?_append_left (Nat.lt_of_lt_of_le hi hg.lo)⟩
  unfold simFX at h
  split at h
  · split at h
    · split at h
      · simp only [Option.some.injEq, Prod.mk.injEq] at h
        obtain ⟨rfl, rfl⟩ := h
        exact ⟨by show _ < _; simp, grow _⟩
      · cases h
    · cases h
  · split at h
    · simp only [Option.some.injEq, Prod.mk.injEq] at h
      obtain ⟨rfl, rfl⟩ := h
      exact ⟨by show _ < _; simp, grow _⟩
    · cases h
  · split at h
    · rename_i i off fl u hx hy
      cases hb : Nat.ble s.lo i
      · rw [hb] at h; cases h
      · rw [hb] at h
        simp only [cond_true] at h
        split at h
        · split at h
          · simp only [Option.some.injEq, Prod.mk.injEq] at h
            obtain ⟨rfl, rfl⟩ := h
            refine ⟨trivial, by simp, fun j hj => ?_⟩
            have : s.lo ≤ i := Nat.le_of_ble_eq_true hb
            rw [List.getElem?_set_ne (by omega)]
          · cases h
        · cases h
    · cases h
  · rename_i t len parts ho
    cases hb : parts.toList.all (fun p => isV (ev s p.2))
    · rw [hb] at h; cases h
    · rw [hb] at h
      simp only [cond_true] at h
      split at h
      · simp only [Option.some.injEq, Prod.mk.injEq] at h
        obtain ⟨rfl, rfl⟩ := h
        exact ⟨by show _ < _; simp, grow _⟩
      · cases h
  · cases h
theorem op_fx {E : Env} {n : Nat} {o : Oper} {s : St} {x : SV} {own : List Blk} {w0 : World} {loc : Nat → Nat} {a : Act} {w : World} {K : Act → World → Prop} {Q : Exit → Act → World → Prop}
    (h : simFX E o s = some (x, own)) (ht : TR n loc s a) (hw : WR w0 loc s.own s.mem w)
    (hK : ∀ loc' w', Agree s.own.length loc loc' → WR w0 loc' own true w' → K (a.put o.dst (conc loc' x)) w') : o.wp E.P a w K Q := by
  unfold simFX at h
  unfold Oper.wp
  split at h
  · rename_i t ho
    split at h
    · rename_i i hi
      split at h
      · rename_i z hz
        simp only [Option.some.injEq, Prod.mk.injEq] at h
        obtain ⟨rfl, rfl⟩ := h
        have hr : (execOp a.eval o).run E.P w = .ok (.value (.pointer (some ⟨w.heap.size, 0, none⟩))) (w.alloc (.cells z.cells t)) := by
          simp only [execOp, ho, Instr.alloc, zeroValue, typeInfo, Sem.run_bind, run_program, Result.andThen_ok, hi, Sem.run_pure, hz, newVar, newRow, run_newObj, World.alloc_eq]
        rw [hr, Oper.upon_value]
        have := hK (ext loc s.own.length w.heap.size) (w.alloc (.cells z.cells t)) (ext_old _ _ _) (hw.grow z.cells.toList t _)
        simpa [conc, ext_new] using this
      · cases h
    · cases h
  · rename_i t x' ho
    split at h
    · rename_i fl y hx
      simp only [Option.some.injEq, Prod.mk.injEq] at h
      obtain ⟨rfl, rfl⟩ := h
      have he := eval_v ht hx
      have hr : (execOp a.eval o).run E.P w = .ok (.value (.pointer (some ⟨w.heap.size, 0, none⟩))) (w.alloc (.cells y.cells t)) := by
        simp only [execOp, ho, he, Instr.box, Sem.run_bind, Result.andThen_ok, Sem.run_pure, newVar, newRow, run_newObj, World.alloc_eq]
      rw [hr, Oper.upon_value]
      have := hK (ext loc s.own.length w.heap.size) (w.alloc (.cells y.cells t)) (ext_old _ _ _) (hw.grow y.cells.toList t _)
      simpa [conc, ext_new] using this
    · cases h
  · rename_i t x' y' ho
    split at h
    · rename_i i off fl u hx hy
      cases hlo : Nat.ble s.lo i
      · rw [hlo] at h; cases h
      · rw [hlo] at h
        simp only [cond_true] at h
        split at h
        · rename_i b hb
          split at h
          · rename_i cs hcs
            simp only [Option.some.injEq, Prod.mk.injEq] at h
            obtain ⟨rfl, rfl⟩ := h
            have hex := eval_own ht hx
            have hey := eval_v ht hy
            obtain ⟨w', r1, r2, r3, r4, r5, r6, r7⟩ := run_storeB hcs w (hw.blk i b hb).1
            have hr : (execOp a.eval o).run E.P w = .ok .skip w' := by
              simp only [execOp, ho, hex, hey, Instr.storeAt, Instr.sureAddr, Sem.run_bind, Sem.run_pure, Result.andThen_ok, r1]
            rw [hr, Oper.upon_skip]
            exact hK loc w' (Agree.refl _ _) (hw.store hb r2 r3 r4 r5 r6 r7 _)
          · cases h
        · cases h
    · cases h
  · rename_i t len parts ho
    cases hb : parts.toList.all (fun p => isV (ev s p.2))
    · rw [hb] at h; cases h
    · rw [hb] at h
      simp only [cond_true] at h
      split at h
      · rename_i cells e hlit
        simp only [Option.some.injEq, Prod.mk.injEq] at h
        obtain ⟨rfl, rfl⟩ := h
        have hp : (parts.map fun (i, x) => (i, a.eval x)) = (parts.toList.map fun p => (p.1, rho s p.2)).toArray := by
          rw [← Array.toArray_toList (xs := parts.map _), Array.toList_map]
          congr 1
          refine List.map_congr_left fun p hp => ?_
          rw [List.all_eq_true] at hb
          show (p.1, a.eval p.2) = _
          rw [eval_rho ht (hb p hp)]
        have hr : (execOp a.eval o).run E.P w = .ok (.value (.slice (some ⟨w.heap.size, 0, none⟩) len len)) (w.alloc (.cells cells.toArray e)) := by
          simp only [execOp, ho, hp, Sem.run_bind, run_litB hlit w, Result.andThen_ok, Sem.run_pure]
        rw [hr, Oper.upon_value]
        have := hK (ext loc s.own.length w.heap.size) (w.alloc (.cells cells.toArray e)) (ext_old _ _ _) (hw.grow cells e _)
        simpa [conc, ext_new] using this
      · cases h
  · cases h
def ClSt (cl : Callee) : Prop := ∀ f args s x s', s.lo ≤ s.own.length → (∀ y ∈ args, okV s.own.length y) → cl f args s = some (x, s') → Le s s' ∧ okV s'.own.length x
def ClOk (E : Env) (w0 : World) (cl : Callee) : Prop := ∀ f args s x s', s.lo ≤ s.own.length → (∀ y ∈ args, okV s.own.length y) → cl f args s = some (x, s') → Holds' s' → ∀ loc w, WR w0 loc s.own s.mem w →
  (∃ fn, E.P.funcs[f]? = some fn ∧ (fn.name == "runtime.NumGoroutine") = false ∧ fn.body.isNone = false) ∧
    Calls E.P f (args.map (conc loc)).toArray w fun e w' => ∃ loc', Agree s.own.length loc loc' ∧ e = .returned (conc loc' x) ∧ WR w0 loc' s'.own s'.mem w'
theorem callArgs_ok {s : St} {o : Oper} {f : FuncId} {args : List SV} (h : callArgs s o = some (f, args)) : ∃ az ats, o.op = .call { callee := .value (.func f), args := az, argTypes := ats } ∧ args = az.toList.map (ev s) := by
  unfold callArgs at h
  split at h
  · rename_i f' az ats ho
    simp only [Option.some.injEq, Prod.mk.injEq] at h
    obtain ⟨rfl, rfl⟩ := h
    exact ⟨az, ats, ho, rfl⟩
  · cases h
theorem run_enter {P : Program} {o : Oper} {a : Act} {f : FuncId} {az : Array Operand} {ats : Array TypeId} (ho : o.op = .call { callee := .value (.func f), args := az, argTypes := ats })
    (hf : ∃ fn, P.funcs[f]? = some fn ∧ (fn.name == "runtime.NumGoroutine") = false ∧ fn.body.isNone = false) (w : World) : (execOp a.eval o).run P w = .ok (.enter f (az.map a.eval)) w := by
  obtain ⟨fn, h1, h2, h3⟩ := hf
  have e1 : execOp a.eval o = callFunc f (az.map a.eval) := by
    have ef : a.eval (.func f) = .func (.func f) #[] #[] := rfl
    unfold execOp
    simp [ho, resolve, Deferred.ofValue, invoke, ef]
  rw [e1]
  simp only [callFunc, Sem.run_bind, run_program, Result.andThen_ok, h1, h2, h3, Bool.false_eq_true, if_false, Sem.run_pure]
theorem map_conc {n : Nat} {loc : Nat → Nat} {s : St} {a : Act} (ht : TR n loc s a) (az : Array Operand) : az.map a.eval = ((az.toList.map (ev s)).map (conc loc)).toArray := by
  rw [← Array.toArray_toList (xs := az.map a.eval), Array.toList_map, List.map_map]
  congr 1
  exact List.map_congr_left fun x _ => eval_ev ht x
theorem Le.upd {s t : St} (h : Le s t) (s' : St) (h1 : s'.obl = t.obl) (h2 : s'.own = t.own) (h3 : s'.lo = s.lo) : Le s s' :=
  ⟨fun p hp => by rw [h1]; exact h.ext p hp, by rw [h2]; exact h.len, h3, fun i hi => by rw [h2]; exact h.keep i hi⟩
theorem simOps_st {E : Env} {cl : Callee} (hcl : ClSt cl) {n : Nat} {ops : Array Oper} {ro : Bool} : ∀ (l : List Oper) (s s' : St), Good s → simOps E cl n ops ro l s = some s' → Le s s' ∧ Good s' ∧ (ro = true → s'.own = s.own)
  | [], s, s', hg, h => by simp only [simOps, Option.some.injEq] at h; subst h; exact ⟨Le.refl s, hg, fun _ => rfl⟩
  | o :: rest, s, s', hg, h => by
    have go : ∀ (s1 s2 s3 : St) (x : SV), Le s s1 → Le s1 s2 → Good s2 → okV s2.own.length x → (ro = true → s2.own = s.own) → putS n o.dst x s2 = some s3 → simOps E cl n ops ro rest s3 = some s' → Le s s' ∧ Good s' ∧ (ro = true → s'.own = s.own) := fun s1 s2 s3 x k1 k2 k3 k4 k5 hp hr => by
      obtain ⟨g3, l3⟩ := putS_good hp k3 k4
      obtain ⟨r1, r2, r3⟩ := simOps_st hcl rest s3 s' g3 hr
      exact ⟨((k1.trans k2).trans l3).trans r1, r2, fun hro => by rw [r3 hro, (putS_keep hp).2.1, k5 hro]⟩
    unfold simOps at h
    split at h
    · cases h
    · rename_i s1 hw
      obtain ⟨k1, k2, k3, k4⟩ := wantS_st hw
      split at h
      · rename_i s2 hp
        exact go s1 s1 s2 (.inl ([], undef)) k1 (Le.refl _) (k4 hg) trivial (fun _ => k2) hp h
      · cases h
    · rename_i s1 hw
      obtain ⟨k1, k2, k3, k4⟩ := wantS_st hw
      have g1 := k4 hg
      split at h
      · rename_i x own hfx
        cases ro with
        | true => cases hfx
        | false =>
          simp only [cond_false] at hfx
          obtain ⟨f1, f2, f3⟩ := simFX_st hfx g1
          split at h
          · rename_i s2 hp
            refine go s1 { s1 with own := own, mem := true } s2 x k1 ⟨fun _ h => h, f2, rfl, f3⟩ ⟨Nat.le_trans g1.lo f2, fun p hp => (g1.ok p hp).mono f2⟩ f1 (fun h => by cases h) hp h
          · cases h
      · split at h
        · rename_i x c hro
          have hx := simRO_st hro g1
          split at h
          · rename_i s2 hp
            exact go s1 { s1 with mem := s1.mem || c } s2 x k1 ⟨fun _ h => h, Nat.le_refl _, rfl, fun _ _ => rfl⟩ ⟨g1.lo, g1.ok⟩ hx (fun _ => k2) hp h
          · cases h
        · split at h
          · cases h
          · rename_i f args hca
            have hargs : ∀ y ∈ args, okV s1.own.length y := fun y hy => by
              obtain ⟨az, ats, _, rfl⟩ := callArgs_ok hca
              obtain ⟨x, _, rfl⟩ := List.mem_map.mp hy
              exact ev_ok g1 x
            cases ro with
            | true =>
              simp only [cond_true] at h
              split at h
              · rename_i fl x s2 hc
                obtain ⟨c1, c2⟩ := hcl f args { s1 with lo := s1.own.length } _ s2 (Nat.le_refl _) hargs hc
                split at h
                · rename_i s3 hp
                  exact go s1 { s1 with mem := true, orc := s2.orc, obl := s2.obl } s3 (.inl (fl, x)) k1 ⟨c1.ext, Nat.le_refl _, rfl, fun _ _ => rfl⟩ ⟨g1.lo, g1.ok⟩ trivial (fun _ => k2) hp h
                · cases h
              · cases h
            | false =>
              simp only [cond_false] at h
              split at h
              · rename_i x s2 hc
                obtain ⟨c1, c2⟩ := hcl f args s1 _ s2 g1.lo hargs hc
                split at h
                · rename_i s3 hp
                  exact go s1 { s1 with own := s2.own, mem := s2.mem, orc := s2.orc, obl := s2.obl } s3 _ k1 (c1.upd _ rfl rfl rfl) ⟨Nat.le_trans g1.lo c1.len, fun p hp => (g1.ok p hp).mono c1.len⟩ c2 (fun h => by cases h) hp h
                · cases h
              · cases h
theorem simOps_wp {E : Env} (HC : CallOk E) {cl : Callee} (hst : ClSt cl) {w0 : World} (hok : ClOk E w0 cl) {n : Nat} {ops : Array Oper} (hG : Glob E w0) {Q : Exit → Act → World → Prop} :
    ∀ (l : List Oper) (s s' : St), simOps E cl n ops false l s = some s' → Good s → Holds' s' → ∀ loc a w, TR n loc s a → WR w0 loc s.own s.mem w →
      (∀ loc' a' w', Agree s.own.length loc loc' → TR n loc' s' a' → WR w0 loc' s'.own s'.mem w' → Q .normal a' w') → wpList E.P ops Q l a w
  | [], s, s', h, _, _, loc, a, w, ht, hw, hQ => by
    simp only [simOps, Option.some.injEq] at h; subst h
    exact wpList_nil (hQ loc a w (Agree.refl _ _) ht hw)
  | o :: rest, s, s', h, hg, hh, loc, a, w, ht, hw, hQ => by
    unfold simOps at h
    refine wpList_step fun K hK => ?_
    split at h
    · cases h
    · rename_i s1 hwant
      obtain ⟨k1, k2, k3, k4⟩ := wantS_st hwant
      have g1 := k4 hg
      split at h
      · rename_i s2 hp
        obtain ⟨p1, p2, p3, p4, _⟩ := putS_keep hp
        obtain ⟨g2, l2⟩ := putS_good hp g1 trivial
        have hh1 : Holds' s1 := (l2.trans (simOps_st hst rest s2 s' g2 h).1).holds hh
        obtain ⟨hwn, ht1⟩ := wantS_ok hwant hh1 ht
        rw [if_neg (by rw [hwn]; simp)]
        exact hK _ _ (simOps_wp HC hst hok hG rest s2 s' h g2 hh loc _ w (tr_put hp ht1) (by rw [p2, p3, k2, k3]; exact hw) (fun loc' a' w' ha => hQ loc' a' w' (fun i hi => ha i (by rw [p2, k2]; exact hi))))
      · cases h
    · rename_i s1 hwant
      obtain ⟨k1, k2, k3, k4⟩ := wantS_st hwant
      have g1 := k4 hg
      have hw1 : WR w0 loc s1.own s1.mem w := by rw [k2, k3]; exact hw
      split at h
      · rename_i x own hfx
        simp only [cond_false] at hfx
        obtain ⟨f1, f2, f3⟩ := simFX_st hfx g1
        split at h
        · rename_i s2 hp
          obtain ⟨p1, p2, p3, p4, _⟩ := putS_keep hp
          have gm : Good { s1 with own := own, mem := true } := ⟨Nat.le_trans g1.lo f2, fun p hp => (g1.ok p hp).mono f2⟩
          obtain ⟨g2, l2⟩ := putS_good hp gm f1
          have hh1 : Holds' s1 := fun p hp' => ((l2.trans (simOps_st hst rest s2 s' g2 h).1).holds hh) p hp'
          obtain ⟨hwn, ht1⟩ := wantS_ok hwant hh1 ht
          rw [if_pos hwn]
          refine op_fx hfx ht1 hw1 fun loc' w' ha hw' => ?_
          exact hK _ _ (simOps_wp HC hst hok hG rest s2 s' h g2 hh loc' _ w' (tr_put hp (ht1.move g1 ha rfl)) (by rw [p2, p3]; exact hw')
            (fun loc'' a' w'' ha' => hQ loc'' a' w'' (fun i hi => (ha i (by rw [k2]; exact hi)).trans (ha' i (by rw [p2]; exact Nat.lt_of_lt_of_le (by rw [k2]; exact hi) f2)))))
        · cases h
      · split at h
        · rename_i x c hro
          split at h
          · rename_i s2 hp
            obtain ⟨p1, p2, p3, p4, _⟩ := putS_keep hp
            have gm : Good { s1 with mem := s1.mem || c } := ⟨g1.lo, g1.ok⟩
            have hx := simRO_st hro g1
            obtain ⟨g2, l2⟩ := putS_good hp gm hx
            have hh1 : Holds' s1 := fun p hp' => ((l2.trans (simOps_st hst rest s2 s' g2 h).1).holds hh) p hp'
            obtain ⟨hwn, ht1⟩ := wantS_ok hwant hh1 ht
            rw [if_pos hwn]
            refine op_ro HC hG hro ht1 hw1 fun w' hw' => ?_
            exact hK _ _ (simOps_wp HC hst hok hG rest s2 s' h g2 hh loc _ w' (tr_put hp (ht1.of rfl)) (by rw [p2, p3]; exact hw')
              (fun loc'' a' w'' ha' => hQ loc'' a' w'' (fun i hi => ha' i (by rw [p2]; show i < s1.own.length; rw [k2]; exact hi))))
          · cases h
        · split at h
          · cases h
          · rename_i f args hca
            obtain ⟨az, ats, hop, hargs⟩ := callArgs_ok hca
            have hok1 : ∀ y ∈ args, okV s1.own.length y := fun y hy => by
              rw [hargs] at hy
              obtain ⟨x, _, rfl⟩ := List.mem_map.mp hy
              exact ev_ok g1 x
            simp only [cond_false] at h
            split at h
            · rename_i x s2 hc
              obtain ⟨c1, c2⟩ := hst f args s1 _ s2 g1.lo hok1 hc
              split at h
              · rename_i s3 hp
                obtain ⟨p1, p2, p3, p4, _⟩ := putS_keep hp
                have gm : Good { s1 with own := s2.own, mem := s2.mem, orc := s2.orc, obl := s2.obl } := ⟨Nat.le_trans g1.lo c1.len, fun p hp => (g1.ok p hp).mono c1.len⟩
                obtain ⟨g3, l3⟩ := putS_good hp gm c2
                have hh2 : Holds' s2 := fun p hp' => ((l3.trans (simOps_st hst rest s3 s' g3 h).1).holds hh) p hp'
                have hh1 : Holds' s1 := c1.holds hh2
                obtain ⟨hwn, ht1⟩ := wantS_ok hwant hh1 ht
                rw [if_pos hwn]
                obtain ⟨hf, hcalls⟩ := hok f args s1 x s2 g1.lo hok1 hc hh2 loc w hw1
                unfold Oper.wp
                rw [run_enter hop hf w, Oper.upon_enter, map_conc ht1, ← hargs]
                refine hcalls.mono fun e w' ⟨loc', ha, he, hw'⟩ => ?_
                subst he
                exact hK _ _ (simOps_wp HC hst hok hG rest s3 s' h g3 hh loc' _ w' (tr_put hp (ht1.move g1 ha rfl)) (by rw [p2, p3]; exact hw')
                  (fun loc'' a' w'' ha' => hQ loc'' a' w'' (fun i hi => (ha i (by rw [k2]; exact hi)).trans (ha' i (by rw [p2]; exact Nat.lt_of_lt_of_le (by rw [k2]; exact hi) c1.len)))))
              · cases h
            · cases h
theorem simOps_quiet {E : Env} (HC : CallOk E) {cl : Callee} (hst : ClSt cl) {w0 : World} (hok : ClOk E w0 cl) {n : Nat} {ops : Array Oper} (hG : Glob E w0) {loc : Nat → Nat} {own : List Blk} {Q : Act → Prop} :
    ∀ (l : List Oper) (s s' : St), simOps E cl n ops true l s = some s' → Good s → Holds' s' → s.own = own → s.mem = true → ∀ a, TR n loc s a →
      (s'.mem = true → ∀ a', TR n loc s' a' → Q a') → wpQuiet E.P ops (fun w => WR w0 loc own true w) Q l a
  | [], s, s', h, _, _, h1, h2, a, ht, hQ => by
    simp only [simOps, Option.some.injEq] at h; subst h
    exact wpQuiet_nil (hQ h2 a ht)
  | o :: rest, s, s', h, hg, hh, h1, h2, a, ht, hQ => by
    unfold simOps at h
    refine wpQuiet_step fun K hK => ?_
    split at h
    · cases h
    · rename_i s1 hwant
      obtain ⟨k1, k2, k3, k4⟩ := wantS_st hwant
      have g1 := k4 hg
      split at h
      · rename_i s2 hp
        obtain ⟨p1, p2, p3, p4, _⟩ := putS_keep hp
        obtain ⟨g2, l2⟩ := putS_good hp g1 trivial
        have hh1 : Holds' s1 := (l2.trans (simOps_st hst rest s2 s' g2 h).1).holds hh
        obtain ⟨hwn, ht1⟩ := wantS_ok hwant hh1 ht
        rw [if_neg (by rw [hwn]; simp)]
        exact hK _ (simOps_quiet HC hst hok hG rest s2 s' h g2 hh (by rw [p2, k2, h1]) (by rw [p3, k3, h2]) _ (tr_put hp ht1) hQ)
      · cases h
    · rename_i s1 hwant
      obtain ⟨k1, k2, k3, k4⟩ := wantS_st hwant
      have g1 := k4 hg
      have e1 : s1.own = own := k2.trans h1
      split at h
      · rename_i x own' hfx
        cases hfx
      · split at h
        · rename_i x c hro
          split at h
          · rename_i s2 hp
            obtain ⟨p1, p2, p3, p4, _⟩ := putS_keep hp
            have gm : Good { s1 with mem := s1.mem || c } := ⟨g1.lo, g1.ok⟩
            have hx := simRO_st hro g1
            obtain ⟨g2, l2⟩ := putS_good hp gm hx
            have hh1 : Holds' s1 := fun p hp' => ((l2.trans (simOps_st hst rest s2 s' g2 h).1).holds hh) p hp'
            obtain ⟨hwn, ht1⟩ := wantS_ok hwant hh1 ht
            rw [if_pos hwn]
            have hdo := simRO_ok (fun w => WR w0 loc own true w) hro ht1 (fun w' hw' => ⟨fun i b hi => (hw'.blk i b (by rw [← e1]; exact hi)).1, hG.below hw'.below⟩)
            refine ⟨conc loc x, fun w hw => ?_, hK _ (simOps_quiet HC hst hok hG rest s2 s' h g2 hh (by rw [p2]; exact e1) (by rw [p3]; show (s1.mem || c) = true; rw [k3, h2]; rfl) _ (tr_put hp (ht1.of rfl)) hQ)⟩
            unfold Oper.quietAt
            rcases hdo with ⟨rfl, hd⟩ | ⟨rfl, f, args, hf, hd⟩
            · rw [hd w hw]; exact ⟨rfl, rfl⟩
            · rw [hd w]
              exact ⟨rfl, (HC.1 f args _ hf w (hG.below hw.below)).mono fun e w' ⟨he, hb⟩ => ⟨he, hw.calls hb⟩⟩
          · cases h
        · split at h
          · cases h
          · rename_i f args hca
            obtain ⟨az, ats, hop, hargs⟩ := callArgs_ok hca
            have hok1 : ∀ y ∈ args, okV s1.own.length y := fun y hy => by
              rw [hargs] at hy
              obtain ⟨x, _, rfl⟩ := List.mem_map.mp hy
              exact ev_ok g1 x
            simp only [cond_true] at h
            split at h
            · rename_i fl x s2 hc
              obtain ⟨c1, c2⟩ := hst f args { s1 with lo := s1.own.length } _ s2 (Nat.le_refl _) hok1 hc
              split at h
              · rename_i s3 hp
                obtain ⟨p1, p2, p3, p4, _⟩ := putS_keep hp
                have gm : Good { s1 with mem := true, orc := s2.orc, obl := s2.obl } := ⟨g1.lo, g1.ok⟩
                obtain ⟨g3, l3⟩ := putS_good hp gm trivial
                have hh2 : Holds' s2 := fun p hp' => ((l3.trans (simOps_st hst rest s3 s' g3 h).1).holds hh) p hp'
                have hh1 : Holds' s1 := fun p hp' => hh2 p (c1.ext p hp')
                obtain ⟨hwn, ht1⟩ := wantS_ok hwant hh1 ht
                rw [if_pos hwn]
                refine ⟨x, fun w hw => ?_, hK _ (simOps_quiet HC hst hok hG rest s3 s' h g3 hh (by rw [p2]; exact e1) (by rw [p3]) _ (tr_put hp (ht1.of rfl)) hQ)⟩
                obtain ⟨hf, hcalls⟩ := hok f args { s1 with lo := s1.own.length } _ s2 (Nat.le_refl _) hok1 hc hh2 loc w (by show WR w0 loc s1.own s1.mem w; rw [e1, k3, h2]; exact hw)
                unfold Oper.quietAt
                rw [run_enter hop hf w, map_conc ht1, ← hargs]
                refine ⟨rfl, hcalls.mono fun e w' ⟨loc', ha, he, hw'⟩ => ⟨he, ?_⟩⟩
                have := hw'.restrict (own := s1.own) ha c1.len (fun i hi => c1.keep i hi)
                rw [e1] at this
                exact this
              · cases h
            · cases h
theorem WR.drew {w0 : World} {loc : Nat → Nat} {own : List Blk} {mem : Bool} {w : World} (h : WR w0 loc own mem w) : WR w0 loc own true { w with drawn := w.drawn + 1 } :=
  ⟨h.below.drew, h.blk, h.inj, fun h => by cases h⟩
def Piece (P : Program) (fuel : Nat) (Q : Exit → Act → World → Prop) (a : Act) (w : World) : Code → Prop
  | .loop c => Code.rounds P c Q fuel a w
  | c => c.wp P Q a w
theorem Piece.wp {P : Program} {fuel : Nat} {Q : Exit → Act → World → Prop} {a : Act} {w : World} {c : Code} (h : Piece P fuel Q a w c) : c.wp P Q a w := by
  cases c <;> first | exact h | exact wp_loop_rounds fuel h
theorem askC_ok {n : Nat} {s s1 : St} {c : Operand} {fl : List Bool} {b t : Bool} (hev : ev s c = .inl (fl, (.bool b))) (h : askC s c fl b = (t, s1)) :
    Le s s1 ∧ s1.own = s.own ∧ s1.mem = s.mem ∧ (Good s → Good s1) ∧ (Holds' s1 → b = t ∧ ∀ loc a, TR n loc s a → TR n loc s1 a) := by
  obtain ⟨a1, a2, a3, a4, a5, a6⟩ := ask_ok s fl b
  unfold askC at h
  split at h
  · rename_i d
    simp only [Prod.mk.injEq] at h
    obtain ⟨rfl, rfl⟩ := h
    refine ⟨(ask_le s fl b).trans (know_le _ _ _), a4, a5, fun hg => know_good (ask_good hg fl b) _ _, fun hh => ⟨(a2 hh).symm, fun loc a ht => (ht.ask fl b).know ?_⟩⟩
    rw [a2 hh]
    exact eval_v ht hev
  · have e1 : (ask s fl b).2 = s1 := by rw [h]
    have e2 : (ask s fl b).1 = t := by rw [h]
    rw [← e1, ← e2]
    exact ⟨ask_le s fl b, a4, a5, fun hg => ask_good hg fl b, fun hh => ⟨(a2 hh).symm, fun loc a ht => ht.ask fl b⟩⟩
def RunSt (ih : Runner) : Prop := ∀ n c s x s', Good s → ih n c s = some (x, s') → Le s s' ∧ Good s'
def RunOk (E : Env) (w0 : World) (k : Nat) (ih : Runner) : Prop := ∀ n c s x s', Good s → ih n c s = some (x, s') → Holds' s' → ∀ Q loc a w, TR n loc s a → WR w0 loc s.own s.mem w →
  (∀ loc' a' w', Agree s.own.length loc loc' → TR n loc' s' a' → WR w0 loc' s'.own s'.mem w' → Q x.toExit a' w') → Piece E.P k Q a w c
theorem resV_st {P : Program} {s : St} {r : ResultVar} {x : SV} (h : resV P s r = some x) (hg : Good s) : okV s.own.length x := by
  unfold resV at h
  split at h
  · simp only [Option.some.injEq] at h; subst h; exact look_ok hg.ok
  · split at h
    · split at h
      · split at h
        · simp only [Option.some.injEq] at h; subst h; trivial
        · cases h
      · cases h
    · cases h
theorem simRes_st {P : Program} {fn : Func} {s : St} {x : SV} (h : simRes P fn s = some x) (hg : Good s) : okV s.own.length x := by
  unfold simRes at h
  split at h
  · simp only [Option.some.injEq] at h; subst h; trivial
  · exact resV_st h hg
  · unfold resTup at h; split at h
    · simp only [Option.some.injEq] at h; subst h; trivial
    · cases h
  · unfold resTup3 at h; split at h
    · simp only [Option.some.injEq] at h; subst h; trivial
    · cases h
  · cases h
theorem initS_mem : ∀ (l : List SV) (k : Nat), ∀ p ∈ initS k l, p.2 ∈ l
  | [], _, p, hp => by cases hp
  | x :: r, k, p, hp => by
    rcases List.mem_cons.mp hp with rfl | hp
    · exact List.mem_cons_self
    · exact List.mem_cons_of_mem _ (initS_mem r _ p hp)
theorem enterO_st {E : Env} {ih : Runner} (hih : RunSt ih) : ClSt (enterO E ih) := fun f args s x s' hlo hargs h => by
  unfold enterO at h
  split at h
  · rename_i fn hf
    cases hb : (fn.name == "runtime.NumGoroutine")
    · rw [hb] at h
      simp only [cond_false] at h
      split at h
      · rename_i c hbody
        have hg : Good { s with tmps := initS 0 args } := ⟨hlo, fun p hp => hargs _ (initS_mem _ _ p hp)⟩
        split at h
        · rename_i s1 hr
          obtain ⟨l1, g1⟩ := hih _ _ _ _ _ hg hr
          split at h
          · rename_i u hu
            simp only [Option.some.injEq, Prod.mk.injEq] at h
            obtain ⟨rfl, rfl⟩ := h
            exact ⟨⟨l1.ext, l1.len, l1.lo, l1.keep⟩, simRes_st hu g1⟩
          · cases h
        · rename_i s1 hr
          obtain ⟨l1, g1⟩ := hih _ _ _ _ _ hg hr
          split at h
          · rename_i u hu
            simp only [Option.some.injEq, Prod.mk.injEq] at h
            obtain ⟨rfl, rfl⟩ := h
            exact ⟨⟨l1.ext, l1.len, l1.lo, l1.keep⟩, simRes_st hu g1⟩
          · cases h
        · cases h
      · cases h
    · rw [hb] at h; cases h
  · cases h
theorem argsV_conc (loc : Nat → Nat) : ∀ {l : List SV} {vs : List Value}, argsV l = some vs → l.map (conc loc) = vs
  | [], vs, h => by simp only [argsV, Option.some.injEq] at h; subst h; rfl
  | .inl (_, v) :: r, vs, h => by
    unfold argsV at h
    split at h
    · rename_i l hl
      simp only [Option.some.injEq] at h
      subst h
      show v :: r.map (conc loc) = _
      rw [argsV_conc loc hl]
    · cases h
  | .inr _ :: _, vs, h => by simp [argsV] at h
theorem pcallS_some {E : Env} {f : FuncId} {args : List SV} {s s' : St} {x : SV} (h : pcallS E f args s = some (x, s')) :
    ∃ l v b fn fl, argsV args = some l ∧ E.pcall f l = some (v, b) ∧ E.P.funcs[f]? = some fn ∧ (fn.name == "runtime.NumGoroutine") = false ∧ fn.body.isNone = false ∧ x = .inl (fl, v) ∧ s' = { s with mem := true, obl := (b, true) :: s.obl } := by
  unfold pcallS at h
  split at h
  · rename_i l hl
    split at h
    · rename_i v b hb
      split at h
      · rename_i fn hf
        cases hn : (fn.name == "runtime.NumGoroutine" || fn.body.isNone)
        · rw [hn] at h
          simp only [cond_false, Option.some.injEq, Prod.mk.injEq] at h
          simp only [Bool.or_eq_false_iff] at hn
          exact ⟨l, v, b, fn, _, hl, hb, hf, hn.1, hn.2, h.1.symm, h.2.symm⟩
        · rw [hn] at h; cases h
      · cases h
    · cases h
  · cases h
theorem enterS_st {E : Env} {ih : Runner} (hih : RunSt ih) : ClSt (enterS E ih) := fun f args s x s' hlo hargs h => by
  unfold enterS at h
  split at h
  · rename_i r hr
    obtain ⟨l, v, b, fn, fl, _, _, _, _, _, rfl, rfl⟩ := pcallS_some (hr.trans h)
    exact ⟨⟨fun p hp => List.mem_cons_of_mem _ hp, Nat.le_refl _, rfl, fun _ _ => rfl⟩, trivial⟩
  · exact enterO_st hih f args s x s' hlo hargs h
def resM (tmps : Array Value) : ResultVar → Sem Value
  | .tmp t => pure (tmps.getD t undef)
  | .cell p t => do loadVar t (← asAddr (tmps.getD p undef))
theorem results_resM (fn : Func) (tmps : Array Value) : results fn tmps = (do let vs ← fn.results.mapM (resM tmps); pure (if h : vs.size = 1 then vs[0] else .tuple vs)) := rfl
theorem resV_ok {E : Env} {n : Nat} {w0 w : World} {loc : Nat → Nat} {s : St} {a : Act} {r : ResultVar} {x : SV} (h : resV E.P s r = some x) (ht : TR n loc s a) (hw : WR w0 loc s.own s.mem w) :
    (resM a.tmps r).run E.P w = .ok (conc loc x) w := by
  unfold resV at h
  split at h
  · rename_i t
    simp only [Option.some.injEq] at h
    subst h
    have h0 := ht.tm t
    simp only [resM, h0, Sem.run_pure]
  · rename_i p t
    have h0 := ht.tm p
    split at h
    · rename_i i off hl
      split at h
      · rename_i b hb
        split at h
        · rename_i v hv
          simp only [Option.some.injEq] at h
          subst h
          rw [hl] at h0
          have := run_loadB hv w (cells_of_blk (hw.blk i b hb).1)
          simp only [resM, h0, conc, asAddr, Sem.run_bind, Sem.run_pure, Result.andThen_ok, this]
        · cases h
      · cases h
    · cases h
theorem simRes_ok {E : Env} {n : Nat} {w0 w : World} {loc : Nat → Nat} {s : St} {a : Act} {fn : Func} {x : SV} (h : simRes E.P fn s = some x) (ht : TR n loc s a) (hw : WR w0 loc s.own s.mem w) :
    (results fn a.tmps).run E.P w = .ok (conc loc x) w := by
  unfold simRes at h
  split at h
  · rename_i hr
    have hl : fn.results = #[] := by rw [← Array.toArray_toList (xs := fn.results), hr]
    simp only [Option.some.injEq] at h
    subst h
    rw [results_none hl]; rfl
  · rename_i r hr
    have hl : fn.results = #[r] := by rw [← Array.toArray_toList (xs := fn.results), hr]
    have h1 := resV_ok h ht hw
    rw [results_resM, hl]
    simp only [List.mapM_toArray, List.mapM_cons, List.mapM_nil, Sem.run_bind, Sem.run_map, h1, Result.andThen_ok, Sem.run_pure]
    rfl
  · rename_i r1 r2 hr
    have hl : fn.results = #[r1, r2] := by rw [← Array.toArray_toList (xs := fn.results), hr]
    unfold resTup at h
    split at h
    · rename_i f1 x1 f2 x2 h1 h2
      simp only [Option.some.injEq] at h
      subst h
      have h1 := resV_ok h1 ht hw
      have h2 := resV_ok h2 ht hw
      rw [results_resM, hl]
      simp only [List.mapM_toArray, List.mapM_cons, List.mapM_nil, Sem.run_bind, Sem.run_map, h1, h2, Result.andThen_ok, Sem.run_pure]
      rfl
    · cases h
  · rename_i r1 r2 r3 hr
    have hl : fn.results = #[r1, r2, r3] := by rw [← Array.toArray_toList (xs := fn.results), hr]
    unfold resTup3 at h
    split at h
    · rename_i f1 x1 f2 x2 f3 x3 h1 h2 h3
      simp only [Option.some.injEq] at h
      subst h
      have h1 := resV_ok h1 ht hw
      have h2 := resV_ok h2 ht hw
      have h3 := resV_ok h3 ht hw
      rw [results_resM, hl]
      simp only [List.mapM_toArray, List.mapM_cons, List.mapM_nil, Sem.run_bind, Sem.run_map, h1, h2, h3, Result.andThen_ok, Sem.run_pure]
      rfl
    · cases h
  · cases h
theorem look_initS (loc : Nat → Nat) : ∀ (l : List SV) (k t : Nat), conc loc (look (initS k l) t) = (if k ≤ t then ((l.map (conc loc))[t - k]?).getD undef else undef)
  | [], k, t => by simp [initS, look, conc]
  | x :: r, k, t => by
    have ih := look_initS loc r (k + 1) t
    unfold initS look
    cases hb : Nat.beq k t
    · have hne : k ≠ t := fun e => by rw [e] at hb; simp at hb
      simp only [cond_false]
      rw [ih]
      by_cases h : k ≤ t
      · rw [if_pos h, if_pos (by omega), show t - k = (t - (k + 1)) + 1 by omega]; rfl
      · rw [if_neg h, if_neg (by omega)]
    · have he : k = t := Nat.eq_of_beq_eq_true hb
      subst he
      simp
theorem tr_init (args : List SV) (m : Nat) (loc : Nat → Nat) (s : St) :
    TR (args.length + (m - args.length)) loc { s with tmps := initS 0 args } { tmps := (args.map (conc loc)).toArray ++ Array.replicate (m - (args.map (conc loc)).toArray.size) undef, defers := [] } := by
  refine ⟨by simp, fun t => ?_, rfl⟩
  show _ = conc loc (look (initS 0 args) t)
  rw [look_initS]
  simp only [Nat.zero_le, if_true, Nat.sub_zero, Array.getD_eq_getD_getElem?, Array.getElem?_append, List.size_toArray, List.length_map, List.getElem?_toArray]
  by_cases h : t < args.length
  · rw [if_pos h]
  · have e : (args.map (conc loc))[t]? = none := List.getElem?_eq_none (by simp; omega)
    rw [if_neg h, e, Array.getElem?_replicate]
    split <;> rfl
theorem enterO_ok {E : Env} {w0 : World} {k : Nat} {ih : Runner} (hst : RunSt ih) (hok : RunOk E w0 k ih) : ClOk E w0 (enterO E ih) := fun f args s x s' hlo hargs h hh loc w hw => by
  unfold enterO at h
  split at h
  · rename_i fn hf
    cases hb : (fn.name == "runtime.NumGoroutine")
    · rw [hb] at h
      simp only [cond_false] at h
      split at h
      · rename_i c hbody
        have hg : Good { s with tmps := initS 0 args } := ⟨hlo, fun p hp => hargs _ (initS_mem _ _ p hp)⟩
        refine ⟨⟨fn, hf, hb, by rw [hbody]; rfl⟩, calls_of_wp hf hbody ?_⟩
        split at h
        · rename_i s1 hr
          split at h
          · rename_i u hu
            simp only [Option.some.injEq, Prod.mk.injEq] at h
            obtain ⟨rfl, rfl⟩ := h
            exact (hok _ _ _ _ _ hg hr hh _ loc _ w (tr_init args fn.ntmps loc s) hw fun loc' a' w' ha ht' hw' => bodyPost_end (simRes_ok hu ht' hw') ht'.df ⟨loc', ha, rfl, hw'⟩).wp
          · cases h
        · rename_i s1 hr
          split at h
          · rename_i u hu
            simp only [Option.some.injEq, Prod.mk.injEq] at h
            obtain ⟨rfl, rfl⟩ := h
            exact (hok _ _ _ _ _ hg hr hh _ loc _ w (tr_init args fn.ntmps loc s) hw fun loc' a' w' ha ht' hw' => bodyPost_ret (simRes_ok hu ht' hw') ht'.df ⟨loc', ha, rfl, hw'⟩).wp
          · cases h
        · cases h
      · cases h
    · rw [hb] at h; cases h
  · cases h
theorem enterS_ok {E : Env} (HC : CallOk E) {w0 : World} (hG : Glob E w0) {k : Nat} {ih : Runner} (hst : RunSt ih) (hok : RunOk E w0 k ih) : ClOk E w0 (enterS E ih) := fun f args s x s' hlo hargs h hh loc w hw => by
  unfold enterS at h
  split at h
  · rename_i r hr
    obtain ⟨l, v, b, fn, fl, hl, hb, hf, hn, hbody, rfl, rfl⟩ := pcallS_some (hr.trans h)
    have e : b = true := hh (b, true) List.mem_cons_self
    subst e
    refine ⟨⟨fn, hf, hn, hbody⟩, ?_⟩
    rw [argsV_conc loc hl]
    exact (HC.2 f l v hb w (hG.below hw.below)).mono fun e w' ⟨he, hb⟩ => ⟨loc, Agree.refl _ _, he, hw.calls hb⟩
  · exact enterO_ok hst hok f args s x s' hlo hargs h hh loc w hw
theorem simC_zero (E : Env) : simC E 0 = fun _ _ _ => none := rfl
theorem simC_succ (E : Env) (k n : Nat) (c : Code) (s : St) : simC E (k + 1) n c s = stepC E (simC E k) n c s := rfl
theorem simC_st (E : Env) : ∀ (fuel : Nat), RunSt (simC E fuel)
  | 0 => fun n c s x s' _ h => by rw [simC_zero] at h; cases h
  | k + 1 => fun n c s x s' hg h => by
    have ih := simC_st E k
    have hcl := enterS_st (E := E) ih
    rw [simC_succ] at h
    unfold stepC at h
    split at h
    · simp only [Option.some.injEq, Prod.mk.injEq] at h
      obtain ⟨_, rfl⟩ := h; exact ⟨Le.refl _, hg⟩
    · simp only [Option.some.injEq, Prod.mk.injEq] at h
      obtain ⟨_, rfl⟩ := h; exact ⟨Le.refl _, hg⟩
    · split at h
      · rename_i s1 hs
        simp only [Option.some.injEq, Prod.mk.injEq] at h
        obtain ⟨_, rfl⟩ := h
        obtain ⟨a, b, _⟩ := simOps_st hcl _ _ _ hg hs
        exact ⟨a, b⟩
      · cases h
    · rename_i id ops
      cases hb : (E.P.follows .mixedOrders && Region.lexB .any ops)
      · rw [hb] at h; cases h
      · rw [hb] at h
        simp only [cond_true] at h
        split at h
        · rename_i s1 hs
          simp only [Option.some.injEq, Prod.mk.injEq] at h
          obtain ⟨_, rfl⟩ := h
          obtain ⟨a, b, _⟩ := simOps_st hcl _ { s with mem := true } _ ⟨hg.lo, hg.ok⟩ hs
          exact ⟨⟨a.ext, a.len, a.lo, a.keep⟩, b⟩
        · cases h
    · split at h
      · rename_i s1 h1
        obtain ⟨l1, g1⟩ := ih _ _ _ _ _ hg h1
        obtain ⟨l2, g2⟩ := ih _ _ _ _ _ g1 h
        exact ⟨l1.trans l2, g2⟩
      · exact ih _ _ _ _ _ hg h
    · rename_i c c1 c2
      split at h
      · rename_i fl b hev
        split at h
        · rename_i s1 hask
          obtain ⟨b1, _, _, b4, _⟩ := askC_ok (n := n) hev hask
          obtain ⟨l1, g1⟩ := ih _ _ _ _ _ (b4 hg) h
          exact ⟨b1.trans l1, g1⟩
        · rename_i s1 hask
          obtain ⟨b1, _, _, b4, _⟩ := askC_ok (n := n) hev hask
          obtain ⟨l1, g1⟩ := ih _ _ _ _ _ (b4 hg) h
          exact ⟨b1.trans l1, g1⟩
      · cases h
    · split at h
      · rename_i i s1 h1
        obtain ⟨l1, g1⟩ := ih _ _ _ _ _ hg h1
        revert h
        cases Nat.beq i _ <;> intro h <;> simp only [cond_true, cond_false, Option.some.injEq, Prod.mk.injEq] at h <;> (obtain ⟨_, rfl⟩ := h; exact ⟨l1, g1⟩)
      · exact ih _ _ _ _ _ hg h
    · split at h
      · rename_i s1 h1
        obtain ⟨l1, g1⟩ := ih _ _ _ _ _ hg h1
        obtain ⟨l2, g2⟩ := ih _ _ _ _ _ g1 h
        exact ⟨l1.trans l2, g2⟩
      · exact ih _ _ _ _ _ hg h
    · simp only [Option.some.injEq, Prod.mk.injEq] at h
      obtain ⟨_, rfl⟩ := h; exact ⟨Le.refl _, hg⟩
    · simp only [Option.some.injEq, Prod.mk.injEq] at h
      obtain ⟨_, rfl⟩ := h; exact ⟨Le.refl _, hg⟩
    · cases h
theorem simC_ok {E : Env} (HC : CallOk E) {w0 : World} (hG : Glob E w0) : ∀ (fuel : Nat), RunOk E w0 fuel (simC E fuel)
  | 0 => fun n c s x s' _ h => by rw [simC_zero] at h; cases h
  | k + 1 => fun n c s x s' hg h hh Q loc a w ht hw hQ => by
    have st := simC_st E k
    have ih := simC_ok HC hG k
    have hst := enterS_st (E := E) st
    have hok := enterS_ok (E := E) HC hG st ih
    rw [simC_succ] at h
    unfold stepC at h
    split at h
    · simp only [Option.some.injEq, Prod.mk.injEq] at h
      obtain ⟨rfl, rfl⟩ := h
      exact wp_skip (hQ _ _ _ (Agree.refl _ _) ht hw)
    · simp only [Option.some.injEq, Prod.mk.injEq] at h
      obtain ⟨rfl, rfl⟩ := h
      exact wp_label (hQ _ _ _ (Agree.refl _ _) ht hw)
    · rename_i id ops
      split at h
      · rename_i s1 hs
        simp only [Option.some.injEq, Prod.mk.injEq] at h
        obtain ⟨rfl, rfl⟩ := h
        exact wp_region_list (simOps_wp HC hst hok hG _ _ _ hs hg hh loc a w ht hw hQ)
      · cases h
    · rename_i id ops
      cases hb : (E.P.follows .mixedOrders && Region.lexB .any ops)
      · rw [hb] at h; cases h
      · rw [hb] at h
        simp only [cond_true] at h
        simp only [Bool.and_eq_true] at hb
        split at h
        · rename_i s1 hs
          simp only [Option.some.injEq, Prod.mk.injEq] at h
          obtain ⟨rfl, rfl⟩ := h
          have hown := (simOps_st hst _ { s with mem := true } _ ⟨hg.lo, hg.ok⟩ hs).2.2 rfl
          refine wp_region_quiet (C := fun w => WR w0 loc s.own true w) hb.1 hb.2 hw.drew ?_
          exact simOps_quiet HC hst hok hG _ _ _ hs ⟨hg.lo, hg.ok⟩ hh rfl rfl a (ht.of rfl) fun e2 a' ht' w' hw' => hQ loc a' w' (Agree.refl _ _) ht' (by rw [hown, e2]; exact hw')
        · cases h
    · rename_i c1 c2
      split at h
      · rename_i s1 h1
        obtain ⟨l1, g1⟩ := st _ _ _ _ _ hg h1
        obtain ⟨l2, g2⟩ := st _ _ _ _ _ g1 h
        exact wp_seq (ih _ _ _ _ _ hg h1 (l2.holds hh) _ loc a w ht hw fun loc' a' w' ha ht' hw' =>
          (ih _ _ _ _ _ g1 h hh Q loc' a' w' ht' hw' fun loc'' a'' w'' ha' => hQ loc'' a'' w'' (ha.trans ha' l1.len)).wp).wp
      · rename_i hne
        refine wp_seq (ih _ _ _ _ _ hg h hh _ loc a w ht hw fun loc' a' w' ha ht' hw' => ?_).wp
        rcases x with _ | _ | i
        · exact absurd h (hne _)
        · exact hQ _ _ _ ha ht' hw'
        · exact hQ _ _ _ ha ht' hw'
    · rename_i c c1 c2
      split at h
      · rename_i fl b hev
        split at h
        · rename_i s1 hask
          obtain ⟨b1, b2, b3, b4, b5⟩ := askC_ok (n := n) hev hask
          have g1 := b4 hg
          obtain ⟨l1, _⟩ := st _ _ _ _ _ g1 h
          obtain ⟨hb, ht1⟩ := b5 (l1.holds hh)
          exact wp_cond_true (by rw [eval_v ht hev, hb]) (ih _ _ _ _ _ g1 h hh Q loc a w (ht1 loc a ht) (by rw [b2, b3]; exact hw) fun loc' a' w' ha => hQ loc' a' w' (by rw [← b2]; exact ha)).wp
        · rename_i s1 hask
          obtain ⟨b1, b2, b3, b4, b5⟩ := askC_ok (n := n) hev hask
          have g1 := b4 hg
          obtain ⟨l1, _⟩ := st _ _ _ _ _ g1 h
          obtain ⟨hb, ht1⟩ := b5 (l1.holds hh)
          exact wp_cond_false (by rw [eval_v ht hev, hb]) (ih _ _ _ _ _ g1 h hh Q loc a w (ht1 loc a ht) (by rw [b2, b3]; exact hw) fun loc' a' w' ha => hQ loc' a' w' (by rw [← b2]; exact ha)).wp
      · cases h
    · rename_i id c1
      split at h
      · rename_i i s1 h1
        cases hb : Nat.beq i id
        · rw [hb] at h
          simp only [cond_false, Option.some.injEq, Prod.mk.injEq] at h
          obtain ⟨rfl, rfl⟩ := h
          have hne : i ≠ id := fun e => by rw [e] at hb; simp at hb
          refine wp_block (ih _ _ _ _ _ hg h1 hh _ loc a w ht hw fun loc' a' w' ha ht' hw' => ?_).wp
          simp only [X.toExit, Exit.inBlock, if_neg hne]
          exact hQ _ _ _ ha ht' hw'
        · rw [hb] at h
          simp only [cond_true, Option.some.injEq, Prod.mk.injEq] at h
          obtain ⟨rfl, rfl⟩ := h
          have heq : i = id := Nat.eq_of_beq_eq_true hb
          refine wp_block (ih _ _ _ _ _ hg h1 hh _ loc a w ht hw fun loc' a' w' ha ht' hw' => ?_).wp
          simp only [X.toExit, Exit.inBlock, if_pos heq]
          exact hQ _ _ _ ha ht' hw'
      · rename_i hne
        refine wp_block (ih _ _ _ _ _ hg h hh _ loc a w ht hw fun loc' a' w' ha ht' hw' => ?_).wp
        rcases x with _ | _ | i
        · exact hQ _ _ _ ha ht' hw'
        · exact hQ _ _ _ ha ht' hw'
        · exact absurd h (hne _ _)
    · rename_i c1
      split at h
      · rename_i s1 h1
        obtain ⟨l1, g1⟩ := st _ _ _ _ _ hg h1
        obtain ⟨l2, g2⟩ := st _ _ _ _ _ g1 h
        show Code.rounds _ _ _ (k + 1) _ _
        rw [rounds_succ]
        exact (ih _ _ _ _ _ hg h1 (l2.holds hh) _ loc a w ht hw fun loc' a' w' ha ht' hw' => ih _ _ _ _ _ g1 h hh Q loc' a' w' ht' hw' fun loc'' a'' w'' ha' => hQ loc'' a'' w'' (ha.trans ha' l1.len)).wp
      · rename_i hne
        show Code.rounds _ _ _ (k + 1) _ _
        rw [rounds_succ]
        refine (ih _ _ _ _ _ hg h hh _ loc a w ht hw fun loc' a' w' ha ht' hw' => ?_).wp
        rcases x with _ | _ | i
        · exact absurd h (hne _)
        · exact hQ _ _ _ ha ht' hw'
        · exact hQ _ _ _ ha ht' hw'
    · simp only [Option.some.injEq, Prod.mk.injEq] at h
      obtain ⟨rfl, rfl⟩ := h
      exact wp_exit (hQ _ _ _ (Agree.refl _ _) ht hw)
    · simp only [Option.some.injEq, Prod.mk.injEq] at h
      obtain ⟨rfl, rfl⟩ := h
      exact wp_ret (hQ _ _ _ (Agree.refl _ _) ht hw)
    · cases h
theorem initA_v (fl : List (List Bool)) (loc : Nat → Nat) : ∀ (l : List Value) (k : Nat), (initA fl k l).map (conc loc) = l ∧ ∀ y ∈ initA fl k l, okV 0 y
  | [], _ => ⟨rfl, fun y hy => by cases hy⟩
  | v :: r, k => by
    obtain ⟨h1, h2⟩ := initA_v fl loc r (k + 1)
    refine ⟨?_, fun y hy => ?_⟩
    · show v :: (initA fl (k + 1) r).map (conc loc) = _
      rw [h1]
    · rcases List.mem_cons.mp hy with rfl | hy
      · trivial
      · exact h2 y hy
theorem simEnd_ok {E : Env} (HC : CallOk E) {fuel : Nat} {fls : List (List Bool)} {orc : List Bool} {f : FuncId} {args : List Value} {x : SV} {s : St}
    (h : simEnd E fuel fls orc f args = some (x, s)) (hl : Holds' s) (w : World) (hG : Glob E w) :
    Calls E.P f args.toArray w fun e w' => ∃ loc, e = .returned (conc loc x) ∧ okV s.own.length x ∧ WR w loc s.own s.mem w' := by
  obtain ⟨h1, h2⟩ := initA_v fls (fun _ => 0) args 0
  have hwr : WR w (fun _ => 0) [] false w := ⟨Below.refl _ _, fun i b hi => by simp at hi, fun i j hi => by simp at hi, fun _ => rfl⟩
  have hst := enterS_st (E := E) (simC_st E fuel)
  have hok := enterS_ok (E := E) HC hG (simC_st E fuel) (simC_ok HC hG fuel)
  unfold simEnd at h
  obtain ⟨_, hx⟩ := hst _ _ { tmps := [], own := [], lo := 0, mem := false, orc := orc, obl := [] } _ _ (Nat.le_refl _) h2 h
  obtain ⟨_, hc⟩ := hok _ _ { tmps := [], own := [], lo := 0, mem := false, orc := orc, obl := [] } _ _ (Nat.le_refl _) h2 h hl (fun _ => 0) w hwr
  rw [h1] at hc
  exact hc.mono fun e w' ⟨loc, _, he, hw⟩ => ⟨loc, he, hx, hw⟩
theorem simCall_all {E : Env} (HC : CallOk E) {fuel : Nat} {fls : List (List Bool)} {orc : List Bool} {f : FuncId} {args : List Value} {v : Value} {l : List (Bool × Bool)} {mem : Bool}
    (h : simCall E fuel fls orc f args = some (v, l, mem)) (hl : ∀ p ∈ l, p.1 = p.2) (w : World) (hG : Glob E w) :
    Calls E.P f args.toArray w fun e w' => e = .returned v ∧ Below w.heap.size w w' ∧ (mem = false → w' = w) := by
  unfold simCall at h
  split at h
  · rename_i fl x s hs
    simp only [Option.some.injEq, Prod.mk.injEq] at h
    obtain ⟨rfl, rfl, rfl⟩ := h
    exact (simEnd_ok HC hs hl w hG).mono fun e w' ⟨loc, he, _, hw⟩ => ⟨he, hw.below, hw.same⟩
  · cases h
theorem simCall_below {E : Env} (HC : CallOk E) {fuel : Nat} {fls : List (List Bool)} {orc : List Bool} {f : FuncId} {args : List Value} {v : Value} {l : List (Bool × Bool)} {mem : Bool}
    (h : simCall E fuel fls orc f args = some (v, l, mem)) (hl : ∀ p ∈ l, p.1 = p.2) (w : World) (hG : Glob E w) :
    Calls E.P f args.toArray w fun e w' => e = .returned v ∧ Below w.heap.size w w' := (simCall_all HC h hl w hG).mono fun _ _ ⟨h1, h2, _⟩ => ⟨h1, h2⟩
theorem simCall_same {E : Env} (HC : CallOk E) {fuel : Nat} {fls : List (List Bool)} {orc : List Bool} {f : FuncId} {args : List Value} {v : Value} {l : List (Bool × Bool)}
    (h : simCall E fuel fls orc f args = some (v, l, false)) (hl : ∀ p ∈ l, p.1 = p.2) (w : World) (hG : Glob E w) :
    Calls E.P f args.toArray w fun e w' => e = .returned v ∧ w = w' := (simCall_all HC h hl w hG).mono fun _ _ ⟨h1, _, h2⟩ => ⟨h1, (h2 rfl).symm⟩
theorem simMake_ok {E : Env} (HC : CallOk E) {fuel : Nat} {fls : List (List Bool)} {orc : List Bool} {f : FuncId} {args : List Value} {cs : List Value} {off len cap : Nat} {l : List (Bool × Bool)}
    (h : simMake E fuel fls orc f args = some (cs, off, len, cap, l)) (hl : ∀ p ∈ l, p.1 = p.2) (w : World) (hG : Glob E w) :
    Calls E.P f args.toArray w fun e w' => ∃ b, e = .returned (.slice (some ⟨b, off, none⟩) len cap) ∧ w.heap.size ≤ b ∧ b < w'.heap.size ∧ (∀ (i : Nat) v, cs[i]? = some v → w'.cell? ⟨b, i, none⟩ = some v) ∧ Below w.heap.size w w' := by
  unfold simMake at h
  split at h
  · rename_i i off' len' cap' s hs
    split at h
    · rename_i b hb
      simp only [Option.some.injEq, Prod.mk.injEq] at h
      obtain ⟨rfl, rfl, rfl, rfl, rfl⟩ := h
      refine (simEnd_ok HC hs hl w hG).mono fun e w' ⟨loc, he, _, hw⟩ => ?_
      obtain ⟨h1, h2⟩ := hw.blk i b hb
      exact ⟨loc i, he, h2, lt_of_some h1, cells_of_blk h1, hw.below⟩
    · cases h
  · cases h
theorem callOk_none (P : Program) (g : Nat → Option (List Value)) : CallOk { P := P, glob := g, call := fun _ _ => none } := ⟨fun _ _ _ h => (nomatch h), fun _ _ _ h => (nomatch h)⟩
theorem glob_none (P : Program) (c : FuncId → Array Value → Option Value) (w : World) : Glob { P := P, glob := fun _ => none, call := c } w := fun g cs h => by cases h
end Go.Proofs.Ytchjjbcmbdmlgaa.Sim
namespace Go.Proofs.Ytchjjbcmbdmlgaa.Sim
open Go Go.RowKit
abbrev Tab := FuncId → Array Value → Option Value
def row {α : Type} (k : FuncId) (dec : List Value → Option α) (g : α → Value) : Tab := fun f args =>
  bif Nat.beq f k then (match dec args.toList with
    | some a => some (g a)
    | none => none) else none
def orT (c1 c2 : Tab) : Tab := fun f args => match c1 f args with
  | some v => some v
  | none => c2 f args
def noT : Tab := fun _ _ => none
def TabOk (P : Program) (gl : Nat → Option (List Value)) (c : Tab) : Prop := ∀ f args v, c f args = some v → ∀ w, Glob { P := P, glob := gl, call := c } w → Calls P f args w fun e w' => e = .returned v ∧ Below w.heap.size w w'
abbrev GlobOk (gl : Nat → Option (List Value)) (w : World) : Prop := GlobW gl w
theorem GlobOk.none (w : World) : GlobOk (fun _ => none) w := fun _ _ h => by cases h
theorem GlobOk.below {gl : Nat → Option (List Value)} {w w' : World} (h : GlobOk gl w) (hb : Below w.heap.size w w') : GlobOk gl w' := GlobW.below h hb
theorem callOk_of {P : Program} {gl : Nat → Option (List Value)} {c : Tab} (h : TabOk P gl c) : CallOk { P := P, glob := gl, call := c } := ⟨h, fun _ _ _ h => by cases h⟩
theorem TabOk.none (P : Program) (gl : Nat → Option (List Value)) : TabOk P gl noT := fun _ _ _ h => by cases h
theorem TabOk.row {P : Program} {gl : Nat → Option (List Value)} {α : Type} {k : FuncId} {dec : List Value → Option α} {g : α → Value}
    (h : ∀ args a, dec args.toList = some a → ∀ w, GlobOk gl w → Calls P k args w fun e w' => e = .returned (g a) ∧ Below w.heap.size w w') : TabOk P gl (row k dec g) := fun f args v hv w hG => by
  unfold Sim.row at hv
  cases hb : Nat.beq f k
  · rw [hb] at hv; cases hv
  · rw [hb] at hv
    have he : f = k := Nat.eq_of_beq_eq_true hb
    subst he
    simp only [cond_true] at hv
    cases hd : dec args.toList with
    | none => rw [hd] at hv; cases hv
    | some a =>
      rw [hd] at hv
      simp only [Option.some.injEq] at hv
      subst hv
      exact h args a hd w hG
theorem TabOk.or {P : Program} {gl : Nat → Option (List Value)} {c1 c2 : Tab} (h1 : TabOk P gl c1) (h2 : TabOk P gl c2) : TabOk P gl (orT c1 c2) := fun f args v hv w hG => by
  unfold orT at hv
  split at hv
  · rename_i u hu
    simp only [Option.some.injEq] at hv
    subst hv
    exact h1 f args _ hu w hG
  · exact h2 f args v hv w hG
def decI : List Value → Option Int
  | [.int .i64 x] => some x
  | _ => none
def decII : List Value → Option (Int × Int)
  | [.int .i64 x, .int .i64 y] => some (x, y)
  | _ => none
def decIII : List Value → Option (Int × Int × Int)
  | [.int .i64 x, .int .i64 y, .int .i64 z] => some (x, y, z)
  | _ => none
def decIB : List Value → Option (Int × Bool)
  | [.int .i64 x, .bool y] => some (x, y)
  | _ => none
def dec0 : List Value → Option Unit
  | [] => some ()
  | _ => none
theorem decI_eq {l : List Value} {x : Int} (h : decI l = some x) : l = [.int .i64 x] := by unfold decI at h; split at h <;> simp_all
theorem decII_eq {l : List Value} {x : Int × Int} (h : decII l = some x) : l = [.int .i64 x.1, .int .i64 x.2] := by unfold decII at h; split at h <;> simp at h; subst h; rfl
theorem decIII_eq {l : List Value} {x : Int × Int × Int} (h : decIII l = some x) : l = [.int .i64 x.1, .int .i64 x.2.1, .int .i64 x.2.2] := by unfold decIII at h; split at h <;> simp at h; subst h; rfl
theorem decIB_eq {l : List Value} {x : Int × Bool} (h : decIB l = some x) : l = [.int .i64 x.1, .bool x.2] := by unfold decIB at h; split at h <;> simp at h; subst h; rfl
theorem dec0_eq {l : List Value} {x : Unit} (h : dec0 l = some x) : l = [] := by unfold dec0 at h; split at h <;> simp_all
theorem args_eq {args : Array Value} {l : List Value} (h : args.toList = l) : args = l.toArray := by rw [← h]
def Ret (P : Program) (k : FuncId) (args : Array Value) (v : Value) (w : World) : Prop := Calls P k args w fun e w' => e = .returned v ∧ Below w.heap.size w w'
theorem tabI {P : Program} {gl : Nat → Option (List Value)} {k : FuncId} {g : Int → Value} (h : ∀ x w, GlobOk gl w → Ret P k #[.int .i64 x] (g x) w) : TabOk P gl (row k decI g) := .row fun args a hd w hG => by rw [args_eq (decI_eq hd)]; exact h a w hG
theorem tabII {P : Program} {gl : Nat → Option (List Value)} {k : FuncId} {g : Int × Int → Value} (h : ∀ x y w, GlobOk gl w → Ret P k #[.int .i64 x, .int .i64 y] (g (x, y)) w) : TabOk P gl (row k decII g) := .row fun args a hd w hG => by rw [args_eq (decII_eq hd)]; exact h a.1 a.2 w hG
theorem tabIII {P : Program} {gl : Nat → Option (List Value)} {k : FuncId} {g : Int × Int × Int → Value} (h : ∀ x y z w, GlobOk gl w → Ret P k #[.int .i64 x, .int .i64 y, .int .i64 z] (g (x, y, z)) w) : TabOk P gl (row k decIII g) := .row fun args a hd w hG => by rw [args_eq (decIII_eq hd)]; exact h a.1 a.2.1 a.2.2 w hG
theorem tabIB {P : Program} {gl : Nat → Option (List Value)} {k : FuncId} {g : Int × Bool → Value} (h : ∀ x y w, GlobOk gl w → Ret P k #[.int .i64 x, .bool y] (g (x, y)) w) : TabOk P gl (row k decIB g) := .row fun args a hd w hG => by rw [args_eq (decIB_eq hd)]; exact h a.1 a.2 w hG
theorem tab0 {P : Program} {gl : Nat → Option (List Value)} {k : FuncId} {g : Unit → Value} (h : ∀ w, GlobOk gl w → Ret P k #[] (g ()) w) : TabOk P gl (row k dec0 g) := .row fun args a hd w hG => by rw [args_eq (dec0_eq hd)]; exact h w hG
theorem Ret.of_eq {P : Program} {k : FuncId} {args : Array Value} {v v' : Value} {w : World} (h : Ret P k args v w) (e : v = v') : Ret P k args v' w := e ▸ h
theorem Ret.of_same {P : Program} {k : FuncId} {args : Array Value} {v : Value} {w : World} (h : Calls P k args w fun e w' => e = .returned v ∧ w = w') : Ret P k args v w := h.mono fun _ _ ⟨he, hw⟩ => ⟨he, hw ▸ Below.refl _ _⟩
abbrev PTab := FuncId → List Value → Option (Value × Bool)
def pre (b : Bool) : Bool := b
def prow {α : Type} (k : FuncId) (dec : List Value → Option α) (g : α → Value) (c : α → Bool) : PTab := fun f args =>
  bif Nat.beq f k then (match dec args with
    | some a => some (g a, pre (c a))
    | none => none) else none
def orP (c1 c2 : PTab) : PTab := fun f args => match c1 f args with
  | some v => some v
  | none => c2 f args
def noP : PTab := fun _ _ => none
def PTabOk (P : Program) (gl : Nat → Option (List Value)) (c : PTab) : Prop := ∀ f args v, c f args = some (v, true) → ∀ w, GlobOk gl w → Ret P f args.toArray v w
theorem PTabOk.none (P : Program) (gl : Nat → Option (List Value)) : PTabOk P gl noP := fun _ _ _ h => by cases h
theorem PTabOk.row {P : Program} {gl : Nat → Option (List Value)} {α : Type} {k : FuncId} {dec : List Value → Option α} {enc : α → List Value} {g : α → Value} {c : α → Bool} (hd : ∀ l a, dec l = some a → l = enc a)
    (h : ∀ a, c a = true → ∀ w, GlobOk gl w → Ret P k (enc a).toArray (g a) w) : PTabOk P gl (prow k dec g c) := fun f args v hv w hG => by
  unfold prow at hv
  cases hb : Nat.beq f k
  · rw [hb] at hv; cases hv
  · rw [hb] at hv
    have he : f = k := Nat.eq_of_beq_eq_true hb
    subst he
    simp only [cond_true] at hv
    split at hv
    · rename_i a ha
      simp only [Option.some.injEq, Prod.mk.injEq] at hv
      obtain ⟨rfl, hc⟩ := hv
      rw [hd _ _ ha]
      exact h a hc w hG
    · cases hv
def prowD (k : FuncId) (dec : List Value → Option (Value × Bool)) : PTab := fun f args => bif Nat.beq f k then dec args else none
theorem PTabOk.rowD {P : Program} {gl : Nat → Option (List Value)} {k : FuncId} {dec : List Value → Option (Value × Bool)} (h : ∀ args v, dec args = some (v, true) → ∀ w, GlobOk gl w → Ret P k args.toArray v w) : PTabOk P gl (prowD k dec) := fun f args v hv w hG => by
  unfold prowD at hv
  cases hb : Nat.beq f k
  · rw [hb] at hv; cases hv
  · rw [hb] at hv
    have he : f = k := Nat.eq_of_beq_eq_true hb
    subst he
    exact h args v hv w hG
theorem PTabOk.or {P : Program} {gl : Nat → Option (List Value)} {c1 c2 : PTab} (h1 : PTabOk P gl c1) (h2 : PTabOk P gl c2) : PTabOk P gl (orP c1 c2) := fun f args v hv w hG => by
  unfold orP at hv
  split at hv
  · rename_i u hu
    simp only [Option.some.injEq] at hv
    subst hv
    exact h1 f args _ hu w hG
  · exact h2 f args v hv w hG
def eqS : Value → Value → Bool
  | .bool a, .bool b => a == b
  | .int k a, .int j b => decide (k = j) && decide (a = b)
  | .string a, .string b => a.data.toList == b.data.toList
  | _, _ => false
def eqL (eq : Value → Value → Bool) : List Value → List Value → Bool
  | [], [] => true
  | x :: r, y :: t => eq x y && eqL eq r t
  | _, _ => false
def eqW (eq : Value → Value → Bool) : Value → Value → Bool
  | .agg a, .agg b => eqL eq a.toList b.toList
  | .tuple a, .tuple b => eqL eq a.toList b.toList
  | x, y => eqS x y
def eqV : Value → Value → Bool := eqW (eqW (eqW eqS))
theorem bytes_eq {a b : ByteArray} (h : a.data.toList = b.data.toList) : a = b := by
  cases a; cases b; simp at h; simp [h]
theorem arr_eq {a b : Array Value} (h : a.toList = b.toList) : a = b := by
  cases a; cases b; simp at h; simp [h]
theorem eqS_eq {x y : Value} (h : eqS x y = true) : x = y := by
  unfold eqS at h
  split at h
  · exact congrArg Value.bool (eq_of_beq h)
  · simp only [Bool.and_eq_true, decide_eq_true_eq] at h
    rw [h.1, h.2]
  · exact congrArg Value.string (bytes_eq (eq_of_beq h))
  · cases h
theorem eqL_eq {eq : Value → Value → Bool} (he : ∀ x y, eq x y = true → x = y) : ∀ (x y : List Value), eqL eq x y = true → x = y
  | [], [], _ => rfl
  | x :: r, y :: t, h => by
    simp only [eqL, Bool.and_eq_true] at h
    rw [he _ _ h.1, eqL_eq he _ _ h.2]
  | [], _ :: _, h => by simp [eqL] at h
  | _ :: _, [], h => by simp [eqL] at h
theorem eqW_eq {eq : Value → Value → Bool} (he : ∀ x y, eq x y = true → x = y) (x y : Value) (h : eqW eq x y = true) : x = y := by
  unfold eqW at h
  split at h
  · exact congrArg Value.agg (arr_eq (eqL_eq he _ _ h))
  · exact congrArg Value.tuple (arr_eq (eqL_eq he _ _ h))
  · exact eqS_eq h
theorem eqV_eq (x y : Value) (h : eqV x y = true) : x = y := eqW_eq (eqW_eq (eqW_eq fun _ _ => eqS_eq)) x y h
end Go.Proofs.Ytchjjbcmbdmlgaa.Sim
