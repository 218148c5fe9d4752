/- Part 2 of the proof: S2, S2A, S2B, S2C. -/
import Derived.Test.YtiajbijbhhpllaaDoorK01
import Derived.Laws.BytesArg
import Derived.Laws.AppendOwn
import Derived.Laws.OwnMore
import Derived.Lib.OthersKept
set_option linter.unusedVariables false
set_option linter.unusedSimpArgs false
namespace Go.Proofs.YtiajbijbhhpllaaDoor.S2
open Go Go.RowKit Sim
structure LE where
  elT : TypeId
  size : Nat
  n : Nat
  el : Nat → List Value
  own : Bool
  dead : Bool
  opn : Bool
inductive CV where
  | v (fl : List Bool) (x : Value)
  | a (i off : Nat)
  | l (k : Nat)
inductive TV where
  | inl (p : List Bool × Value)
  | inr (k : Nat)
  | st (cs : List CV)
inductive SV where
  | inl (p : List Bool × Value)
  | inr (p : Nat × Nat × Option (Nat × Nat))
  | c (k : Nat)
  | lp (k j o sz : Nat)
  | tp (l : List TV)
  | fn (f : FuncId) (fs cs : List CV)
  /-- A list's part: so many elements from one on. -/
  | sub (k lo n sz : Nat)
  /-- A struct's cells. -/
  | st (cs : List CV)
  /-- A map of the call's own: its block. -/
  | mp (i : Nat)
  /-- The address of a cell of an array of the call's own, at an open index. -/
  | ia (i off len : Nat) (n : Int)
  /-- The address of a cell of a row that is only read: the slice, what it reads as, the element, the cell. -/
  | rp (v : Value) (e : LE) (j o : Nat)
  | any
structure Nu where
  l : Nat → Nat
  v : Nat → Value
def placeOf : Value → Nat → Value
  | .slice (some ⟨b, off, none⟩) _ _, n => .pointer (some ⟨b, off + n, none⟩)
  | _, _ => undef
def subOf : Value → Nat → Nat → Nat → Value
  | .slice a _ cap, lo, n, sz => .slice (if cap = lo then a else a.map (·.add (lo * sz))) n (cap - lo)
  | _, _, _, _ => undef
def concC (ν : Nu) : CV → Value
  | .v _ x => x
  | .a i off => .pointer (some ⟨ν.l i, off, none⟩)
  | .l k => ν.v k
def concT (ν : Nu) : TV → Value
  | .inl (_, x) => x
  | .inr k => ν.v k
  | .st cs => .agg (cs.map (concC ν)).toArray
def conc (ν : Nu) : SV → Value
  | .inl (_, x) => x
  | .inr (i, off, none) => .pointer (some ⟨ν.l i, off, none⟩)
  | .inr (i, off, some (len, cap)) => .slice (some ⟨ν.l i, off, none⟩) len cap
  | .c k => ν.v k
  | .lp k j o sz => placeOf (ν.v k) (j * sz + o)
  | .tp l => .tuple (l.map (concT ν)).toArray
  | .fn f fs cs => .func (.func f) (fs.map (concC ν)).toArray (cs.map (concC ν)).toArray
  | .sub k lo n sz => subOf (ν.v k) lo n sz
  | .st cs => .agg (cs.map (concC ν)).toArray
  | .mp i => .map (some (ν.l i))
  | .ia i off _ n => .pointer (some ⟨ν.l i, off + n.toNat, none⟩)
  | .rp v e j o => placeOf v (j * e.size + o)
  | .any => undef
def Is (ν : Nu) : SV → Value → Prop
  | .any, _ => True
  | x, v => v = conc ν x
def okC (n m : Nat) : CV → Prop
  | .v _ _ => True
  | .a i _ => i < n
  | .l k => k < m
def okT (n m : Nat) : TV → Prop
  | .inl _ => True
  | .inr k => k < m
  | .st cs => ∀ x ∈ cs, okC n m x
def okV (n m : Nat) : SV → Prop
  | .inl (_, _) => True
  | .inr (i, _, none) => i < n
  | .inr (i, _, some (_, _)) => i < n
  | .c k => k < m
  | .lp k _ _ _ => k < m
  | .tp l => ∀ x ∈ l, okT n m x
  | .fn _ fs cs => (∀ x ∈ fs, okC n m x) ∧ ∀ x ∈ cs, okC n m x
  | .sub k _ _ _ => k < m
  | .st cs => ∀ x ∈ cs, okC n m x
  | .mp i => i < n
  | .ia i _ _ _ => i < n
  | .rp _ _ _ _ => True
  | .any => True
inductive Kd where
  | cells
  | iter (fl : List Bool) (s : ByteArray) (pos : Nat)
  | bld (fl : List Bool) (T e : TypeId) (acc : ByteArray)
  /-- Cells that a conversion has marked: nobody writes them. -/
  | shut
  /-- A map with int keys: its type, its stores. -/
  | map (T : TypeId) (l : List (Int × Value))
  /-- A map with keys of any kind. -/
  | mapV (T : TypeId) (l : List (Value × Value))
structure Blk where
  cells : List SV
  elem : TypeId
  kd : Kd
def isC (b : Blk) : Bool := match b.kd with
  | .cells => true
  | _ => false
inductive BOp where
  | wstr
  | wbyte
  | wrune
  | str
  | len
structure Mem where
  b : List Blk
  l : List LE
structure St where
  tmps : List (Nat × SV)
  own : Mem
  lo : Nat
  llo : Nat
  mem : Bool
  orc : List Bool
  obl : List (Bool × Bool)
inductive XV where
  | inl (x : Value)
  | inr (e : LE)
  | st (cs : List (Sum Value LE))
structure Eff where
  x : SV
  sb : List (Nat × Blk) := []
  sl : List (Nat × LE) := []
  ab : List Blk := []
  al : List LE := []
  ok : Bool := true
structure Env where
  P : Program
  glob : Nat → Option (List Value)
  call : FuncId → Array Value → Option Value
  pcall : FuncId → List Value → Option (Value × Bool) := fun _ _ => none
  lcall : FuncId → List XV → Option (Bool × List XV × Bool) := fun _ _ => none
  nowrap : Bool := true
  /-- Arithmetic on something open gives an atom (arZ). -/
  opq : Bool := false
  /-- The type strings.Builder and its bytes' type; its methods. -/
  bt : Option (TypeId × TypeId) := none
  bop : FuncId → Option BOp := fun _ => none
  /-- Callees that answer a pair whose second part nobody tells. -/
  acall : FuncId → List Value → Option (Value × Bool) := fun _ _ => none
  /-- Callees whose answers are taken for closed. -/
  shut : FuncId → Bool := fun _ => false
  /-- Callees that change the call's own memory: their arguments and what these reach, numbered as it is reached. -/
  eff : FuncId → Option (List SV → Mem → Option Eff) := fun _ => none
  /-- A part of a list that came in is a list of its own. -/
  cut : Bool := false
  /-- A slice literal of plain values is a list of the call's own. -/
  lit : Bool := false
  /-- A slice literal's cells are open where one of its parts is. -/
  mks : Bool := false
  /-- Appends (by the slot of their result) that append nothing. -/
  non : List Nat := []
  /-- What reads a slice that is to be a list (by the slot of its result): which list the value is. -/
  rowE : Nat → Option (Value → LE) := fun _ => none
  /-- What slices of a type read as that are only read (nested lists). -/
  rowT : TypeId → Option (Value → LE) := fun _ => none
def look : List (Nat × SV) → Nat → SV
  | [], _ => .any
  | (d, x) :: r, t => bif Nat.beq d t then x else look r t
def ev (s : St) : Operand → SV
  | .tmp t => look s.tmps t
  | .const c => .inl ([], c)
  | .global g => .inl ([], (.pointer (some ⟨g, 0, none⟩)))
  | .func f => .inl ([], (.func (.func f) #[] #[]))
def rho (s : St) (x : Operand) : Value := match ev s x with | .inl (_, y) => y | _ => undef
def isV : SV → Bool
  | .inl (_, _) => true
  | _ => false
def flS : SV → List Bool
  | .inl (fl, _) => fl
  | _ => []
def openS (s : St) : List Operand → Bool
  | [] => false
  | x :: r => anyF (flS (ev s x)) || openS s r
def svC : CV → SV
  | .v fl x => .inl (fl, x)
  | .a i off => .inr (i, off, none)
  | .l k => .c k
def cvOf : SV → Option CV
  | .inl (fl, x) => some (.v fl x)
  | .inr (i, off, none) => some (.a i off)
  | .c k => some (.l k)
  | _ => none
def cvL : List SV → Option (List CV)
  | [] => some []
  | x :: r => match cvOf x, cvL r with
    | some y, some l => some (y :: l)
    | _, _ => none
def mkFn (f : FuncId) : List CV → List CV → SV
  | [], [] => .inl ([], .func (.func f) #[] #[])
  | fs, cs => .fn f fs cs
def fnOf : SV → Option (FuncId × List SV × List SV)
  | .fn f fs cs => some (f, fs.map svC, cs.map svC)
  | .inl (_, .func (.func f) ⟨[]⟩ ⟨[]⟩) => some (f, [], [])
  | _ => none
def getL (s : St) (k : Nat) : Option LE := match s.own.l[k]? with
  | some e => bif e.dead then none else some e
  | none => none
def getB (s : St) (i : Nat) : Option Blk := match s.own.b[i]? with
  | some b => bif isC b then some b else none
  | none => none
abbrev RO := SV × Bool × List (Bool × Bool)
def mkCells : List Value → List Bool → List SV
  | [], _ => []
  | v :: r, [] => .inl ([false], v) :: mkCells r []
  | v :: r, b :: fl => .inl ([b], v) :: mkCells r fl
def blk (cs : List Value) (t : TypeId) (fl : List Bool) : Blk := ⟨mkCells cs fl, t, .cells⟩
def valsS : List SV → Option (List Value)
  | [] => some []
  | .inl (_, v) :: r => match valsS r with
    | some l => some (v :: l)
    | none => none
  | _ :: _ => none
def flsS : List SV → List Bool
  | [] => []
  | x :: r => anyF (flS x) :: flsS r
def loadS (P : Program) (t : TypeId) (cs : List SV) (off : Nat) : Option SV :=
  match P.underlying t, P.info? t with
  | some d, some i =>
    bif aggD d then (bif Nat.ble (off + i.size) cs.length then (match valsS ((cs.drop off).take i.size) with
      | some vs => some (.inl (flsS ((cs.drop off).take i.size), .agg vs.toArray))
      | none => match cvL ((cs.drop off).take i.size) with
        | some l => some (.st l)
        | none => none) else none)
    else (match cs[off]? with
      | some .any => none
      | r => r)
  | _, _ => none
def oneC (s : St) : CV → Bool
  | .v _ x => x.oneCell'
  | .a _ _ => true
  | .l k => match getL s k with
    | some _ => true
    | none => false
def cellsS (s : St) : SV → Option (List SV)
  | .inl (fl, v) => bif v.cells.toList.all Value.oneCell' then some (mkCells v.cells.toList fl) else none
  | .inr p => some [.inr p]
  | .c k => match getL s k with
    | some _ => some [.c k]
    | none => none
  | .fn f fs cs => some [.fn f fs cs]
  | .st cs => bif cs.all (oneC s) then some (cs.map svC) else none
  | _ => none
def putLS : List SV → Nat → List SV → List SV
  | c, _, [] => c
  | c, o, v :: r => putLS (c.set o v) (o + 1) r
def putQS (c : List SV) (o : Nat) (vs : List SV) : List SV := bif Nat.beq o 0 && Nat.beq vs.length c.length then vs else putLS c o vs
def storeS (P : Program) (t : TypeId) (cs : List SV) (off : Nat) (vs : List SV) : Option (List SV) :=
  match P.info? t with
  | some i => bif Nat.beq vs.length i.size && Nat.ble (off + i.size) cs.length then some (putQS cs off vs) else none
  | none => none
def seqB : Nat → List (Nat × SV) → Bool
  | _, [] => true
  | k, (i, _) :: r => Nat.beq i k && seqB (k + 1) r
def oneS (s : St) : SV → Bool
  | .inl (_, v) => v.oneCell'
  | .inr _ => true
  | .c k => match getL s k with
    | some _ => true
    | none => false
  | .fn _ _ _ => true
  | _ => false
def litT (s : St) (size len : Nat) (parts : List (Nat × SV)) : Option (List SV) := match parts with
  | [(0, .st cs)] => bif Nat.beq len 1 && Nat.beq cs.length size && Nat.blt 0 size && Nat.ble size (2 ^ 24) then cellsS s (.st cs) else none
  | _ => none
def litS (P : Program) (s : St) (t : TypeId) (len : Nat) (parts : List (Nat × SV)) : Option (List SV × TypeId) :=
  match P.underlying t with
  | some (.slice e) => match P.info? e with
    | some i => match i.zero with
      | some z => bif Nat.beq i.size 1 && Nat.beq parts.length len && Nat.blt 0 len && Nat.ble len (2 ^ 24) && seqB 0 parts && parts.all (fun p => oneS s p.2) then some (parts.map (·.2), e) else (match litT s i.size len parts with
        | some us => some (us, e)
        | none => none)
      | none => none
    | none => none
  | _ => none
def isMkO : Op → Bool
  | .makeSlice _ _ _ => true
  | _ => false
def generic (E : Env) (o : Oper) (s : St) : Option RO :=
  bif notSel o.op && o.op.operands.toList.all (fun x => isV (ev s x)) then
    bif isMkO o.op then none else match evalPure E.P (execOp (rho s) o) with
    | some (.value v) => some (.inl ([openS s o.op.operands.toList], v), false, [])
    | some (.enter f args) => match E.call f args with
      | some v => some (.inl ((List.replicate v.cells.size (openS s o.op.operands.toList)), v), true, [])
      | none => none
    | _ => none
  else none
def arith : BinOp → Int → Int → Option Int
  | .add, a, b => some (a + b)
  | .sub, a, b => some (a - b)
  | .mul, a, b => some (a * b)
  | _, _, _ => none
def inI (x : Int) : Bool := decide (-9223372036854775808 ≤ x ∧ x ≤ 9223372036854775807)
def idxB (n : Int) (len : Nat) : Bool := decide (0 ≤ n ∧ n < len)
def arF (op : BinOp) (k : IntKind) (a b : Int) : Int := match op with
  | .add => k.wrap (a + b)
  | .sub => k.wrap (a - b)
  | .mul => k.wrap (a * b)
  | .shl => k.wrap (a * 2 ^ (min b.toNat k.bits))
  | .shr => a.fdiv (2 ^ (min b.toNat k.bits))
  | .and => bits .and k a b
  | .or => bits .or k a b
  | .xor => bits .xor k a b
  | .andNot => bits .andNot k a b
  | .quo => k.wrap (a.tdiv b)
  | .rem => a.tmod b
  | _ => 0
theorem arZ_ex : ∃ f : BinOp → IntKind → Int → Int → Int, ∀ op k a b, f op k a b = arF op k a b := ⟨_, fun _ _ _ _ => rfl⟩
noncomputable def arZ : BinOp → IntKind → Int → Int → Int := Classical.choose arZ_ex
theorem arZ_eq (op : BinOp) (k : IntKind) (a b : Int) : arZ op k a b = arF op k a b := Classical.choose_spec arZ_ex op k a b
theorem catZ_ex : ∃ f : ByteArray → ByteArray → ByteArray, ∀ a b, f a b = a ++ b := ⟨_, fun _ _ => rfl⟩
noncomputable def catZ : ByteArray → ByteArray → ByteArray := Classical.choose catZ_ex
theorem catZ_eq (a b : ByteArray) : catZ a b = a ++ b := Classical.choose_spec catZ_ex a b
theorem extZ_ex : ∃ f : ByteArray → Int → Int → ByteArray, ∀ s l h, f s l h = s.extract l.toNat h.toNat := ⟨_, fun _ _ _ => rfl⟩
noncomputable def extZ : ByteArray → Int → Int → ByteArray := Classical.choose extZ_ex
theorem extZ_eq (s : ByteArray) (l h : Int) : extZ s l h = s.extract l.toNat h.toNat := Classical.choose_spec extZ_ex s l h
theorem chrZ_ex : ∃ f : ByteArray → Int → Int, ∀ s i, f s i = (((s[i.toNat]?).getD 0).toNat : Int) := ⟨_, fun _ _ => rfl⟩
noncomputable def chrZ : ByteArray → Int → Int := Classical.choose chrZ_ex
theorem chrZ_eq (s : ByteArray) (i : Int) : chrZ s i = (((s[i.toNat]?).getD 0).toNat : Int) := Classical.choose_spec chrZ_ex s i
def fitS (a b : ByteArray) : Bool := decide (a.size + b.size ≤ 9223372036854775807)
def shOp : BinOp → Bool
  | .shl => true
  | .shr => true
  | _ => false
def bitOp : BinOp → Bool
  | .add => true
  | .sub => true
  | .mul => true
  | .and => true
  | .or => true
  | .xor => true
  | .andNot => true
  | _ => false
def divOp : BinOp → Bool
  | .quo => true
  | .rem => true
  | _ => false
def isAdd : BinOp → Bool
  | .add => true
  | _ => false
noncomputable def arS (E : Env) (o : Oper) (s : St) (op : BinOp) (g : List Bool) (k j : IntKind) (a b : Int) : Option RO :=
  bif shOp op then (bif anyF g then some (.inl ([true], (.int k (arZ op k a b))), false, [(pre (decide (0 ≤ b)), true)])
    else bif decide (0 ≤ b) then some (.inl ([true], (.int k (arZ op k a b))), false, []) else none)
  else bif bitOp op && decide (k = j) then some (.inl ([true], (.int k (arZ op k a b))), false, [])
  else bif divOp op && decide (k = j) then (bif anyF g then some (.inl ([true], (.int k (arZ op k a b))), false, [(pre (decide (b ≠ 0)), true)])
    else bif decide (b ≠ 0) then some (.inl ([true], (.int k (arZ op k a b))), false, []) else none)
  else generic E o s
def nilFS (E : Env) (op : BinOp) (t : TypeId) : Option RO :=
  match op, E.P.underlying t with
  | .eql, some (.func _ _ _) => some (.inl ([], .bool false), false, [])
  | .neq, some (.func _ _ _) => some (.inl ([], .bool true), false, [])
  | _, _ => none
noncomputable def binS (E : Env) (o : Oper) (s : St) (op : BinOp) (t : TypeId) (x y : Operand) : Option RO :=
  match ev s x, ev s y with
  | .inl (f, (.int k a)), .inl (g, (.int j b)) => match decide (k = j), cmpI op a b with
    | true, some r => some (.inl ([anyF f || anyF g], (.bool r)), false, [])
    | _, _ => match E.nowrap && (anyF f || anyF g) && decide (k = .i64) && decide (j = .i64), arith op a b with
      | true, some r => some (.inl ([true], (.int .i64 r)), false, [(pre (inI r), true)])
      | _, _ => bif E.opq && (anyF f || anyF g) then arS E o s op g k j a b else generic E o s
  | .inl (f, (.agg a)), .inl (g, (.agg b)) => match eqTop E.P op t (.agg a) (.agg b) with
    | some r => some (.inl ([anyF f || anyF g], (.bool r)), false, [])
    | none => generic E o s
  | .inl (f, (.string a)), .inl (g, (.string b)) => bif isAdd op && (anyF f || anyF g) then some (.inl ([true], (.string (catZ a b))), false, [(pre (fitS a b), true)]) else generic E o s
  | .fn _ _ _, .inl (_, .nilFunc) => nilFS E op t
  | _, _ => generic E o s
def plC : List CV → Option (List Bool × List Value)
  | [] => some ([], [])
  | .v fl x :: r => match plC r with
    | some (g, l) => some (anyF fl :: g, x :: l)
    | none => none
  | _ :: _ => none
def cutC (cs : List CV) : SV := match plC cs with
  | some (g, l) => .inl (g, .agg l.toArray)
  | none => .st cs
def fieldS (P : Program) (t : TypeId) (f : Nat) (cs : List CV) : Option SV :=
  match P.underlying t with
  | some (.struct fs) => match fs[f]? with
    | some fl => match P.underlying fl.type, P.info? fl.type with
      | some d, some i => bif aggD d then (bif Nat.ble (fl.offset + i.size) cs.length then some (cutC ((cs.drop fl.offset).take i.size)) else none)
        else (match cs[fl.offset]? with
          | some c => some (svC c)
          | none => none)
      | _, _ => none
    | none => none
  | _ => none
def mkCV : List Value → List Bool → List CV
  | [], _ => []
  | v :: r, [] => .v [false] v :: mkCV r []
  | v :: r, b :: fl => .v [b] v :: mkCV r fl
def partC (s : St) : SV → Option (List CV)
  | .inl (fl, v) => some (mkCV v.cells.toList fl)
  | .inr (i, off, none) => some [.a i off]
  | .c k => match getL s k with
    | some _ => some [.l k]
    | none => none
  | .st cs => some cs
  | _ => none
def putC : List CV → Nat → List CV → List CV
  | c, _, [] => c
  | c, o, v :: r => putC (c.set o v) (o + 1) r
def fillC (place : Nat → Option (Nat × Nat)) : List CV → List (Nat × List CV) → Option (List CV)
  | cs, [] => some cs
  | cs, (i, v) :: r => match place i with
    | some (off, size) => bif Nat.beq v.length size && Nat.ble (off + v.length) cs.length then fillC place (putC cs off v) r else none
    | none => none
def partsC (s : St) : List (Nat × SV) → Option (List (Nat × List CV))
  | [] => some []
  | (i, x) :: r => match partC s x, partsC s r with
    | some c, some l => some ((i, c) :: l)
    | _, _ => none
def placesB (P : Program) (fs : List Field) : Option (List (Nat × Nat)) := match fs with
  | [] => some []
  | f :: r => match P.info? f.type, placesB P r with
    | some i, some l => some ((f.offset, i.size) :: l)
    | _, _ => none
def buildS (P : Program) (s : St) (t : TypeId) (parts : List (Nat × SV)) : Option SV :=
  match P.underlying t, P.info? t with
  | some (.struct fs), some i => match i.zero, placesB P fs.toList, partsC s parts with
    | some z, some pl, some l => match fillC (fun k => pl[k]?) (mkCV z.cells.toList []) l with
      | some cs => some (.st cs)
      | none => none
    | _, _, _ => none
  | _, _ => none
def boundS (s : St) (d : Nat) : Option Operand → Option Int
  | none => some d
  | some x => match ev s x with
    | .inl (_, .int _ n) => some n
    | _ => none
theorem minZ_ex : ∃ f : Int → Int → Int, ∀ m n, f m n = if n < m then n else m := ⟨_, fun _ _ => rfl⟩
noncomputable def minZ : Int → Int → Int := Classical.choose minZ_ex
theorem minZ_eq (m n : Int) : minZ m n = if n < m then n else m := Classical.choose_spec minZ_ex m n
noncomputable def simRO0 (E : Env) (o : Oper) (s : St) : Option RO :=
  match o.op with
  | .move x => some (ev s x, false, [])
  | .assign x => some (ev s x, false, [])
  | .nilCheck x => match ev s x with
    | .inr (i, off, none) => some (.inr (i, off, none), false, [])
    | .inl (_, _) => generic E o s
    | _ => none
  | .load t x => match ev s x with
    | .inr (i, off, none) => match getB s i with
      | some b => match loadS E.P t b.cells off with
        | some v => some (v, false, [])
        | none => none
      | none => none
    | .inl (_, (.pointer (some ⟨g, off, none⟩))) => match E.glob g with
      | some cs => match loadB E.P t cs off with
        | some v => some (.inl ([], v), false, [])
        | none => none
      | none => none
    | .lp k j o sz => match getL s k with
      | some e => match loadB E.P t (e.el j) o with
        | some v => bif Nat.beq sz e.size then some (.inl (List.replicate v.cells.size true, v), false, [(pre (decide (j < e.n)), true)]) else none
        | none => none
      | none => none
    | _ => none
  | .fieldAddr t x f => match ev s x with
    | .inr (i, off, none) => match fieldB E.P t f off with
      | some off' => some (.inr (i, off', none), false, [])
      | none => none
    | .lp k j o sz => match getL s k, fieldB E.P t f o with
      | some e, some o' => bif Nat.beq sz e.size then some (.lp k j o' sz, false, [(pre (decide (j < e.n)), true)]) else none
      | _, _ => none
    | .inl (_, _) => generic E o s
    | _ => none
  | .indexAddr t x ix => match ev s x, ev s ix with
    | .inr (i, off, none), .inl (_, (.int k n)) => match E.P.underlying t with
      | some (.array len e) => match elemB E.P e len off n with
        | some off' => some (.inr (i, off', none), false, [])
        | none => none
      | _ => none
    | .inr (i, off, some (len, cap)), .inl (_, (.int k n)) => match E.P.underlying t with
      | some (.slice e) => match elemB E.P e len off n with
        | some off' => some (.inr (i, off', none), false, [])
        | none => none
      | _ => none
    | .c k, .inl (_, (.int _ n)) => match getL s k, E.P.underlying t with
      | some e, some (.slice et) => match E.P.info? et with
        | some i => bif Nat.beq i.size e.size then some (.lp k n.toNat 0 e.size, false, [(pre (idxB n e.n), true)]) else none
        | none => none
      | _, _ => none
    | _, _ => generic E o s
  | .binOp op t x y _ => binS E o s op t x y
  | .build t parts => match generic E o s with
    | some (.inl (fl, v), c) => some (.inl ((List.replicate v.cells.size (anyF fl)), v), c)
    | some r => some r
    | none => match buildS E.P s t (parts.toList.map fun p => (p.1, ev s p.2)) with
      | some x => some (x, false, [])
      | none => none
  | .field t x f => match ev s x with
    | .st cs => match fieldS E.P t f cs with
      | some y => some (y, false, [])
      | none => none
    | _ => match generic E o s with
      | some (.inl (_, v), c) => some (.inl ((fieldF E.P t f (flS (ev s x))), v), c)
      | r => r
  | .extract x i => match ev s x with
    | .tp l => match l[i]? with
      | some (.inl p) => some (.inl p, false, [])
      | some (.inr k) => some (.c k, false, [])
      | some (.st cs) => some (.st cs, false, [])
      | none => none
    | _ => generic E o s
  | .slice t x lo hi none => match ev s x with
    | .c k => match getL s k, E.P.underlying t with
      | some e, some (.slice et) => match E.P.info? et, boundS s 0 lo, boundS s e.n hi with
        | some i, some l, some h => bif Nat.beq i.size e.size && Nat.beq (E.P.elem t) et then some (.sub k l.toNat (h.toNat - l.toNat) e.size, false, [(pre (decide (0 ≤ l ∧ l ≤ h ∧ h ≤ e.n)), true)]) else none
        | _, _, _ => none
      | _, _ => none
    | .inl (f, .string a) => bif openS s o.op.operands.toList then (match E.P.underlying t, boundS s 0 lo, boundS s a.size hi with
      | some .string, some l, some h => some (.inl ([true], (.string (extZ a l h))), false, [(pre (decide (0 ≤ l ∧ l ≤ h ∧ h ≤ a.size)), true)])
      | _, _, _ => none) else generic E o s
    | _ => generic E o s
  | .index t x ix => match ev s x, ev s ix with
    | .inl (f, .string a), .inl (g, .int _ n) => bif anyF f || anyF g then (match E.P.underlying t with
      | some .string => some (.inl ([true], (.int .u8 (chrZ a n))), false, [(pre (idxB n a.size), true)])
      | _ => none) else generic E o s
    | _, _ => generic E o s
  | .makeFunc (.func f) first captured => match cvL (first.toList.map (ev s)), cvL (captured.toList.map (ev s)) with
    | some fs, some cs => some (mkFn f fs cs, false, [])
    | _, _ => none
  | .call { callee := .builtin .len, args := az, argTypes := ats } => match az.toList, ats.toList with
    | [x], [t] => match ev s x, E.P.underlying t with
      | .inr (i, off, some (len, cap)), some (.slice _) => some (.inl ([], (.int .i64 len)), false, [])
      | .c k, some (.slice _) => match getL s k with
        | some e => some (.inl ([e.opn], (.int .i64 e.n)), false, [])
        | none => none
      | _, _ => generic E o s
    | _, _ => generic E o s
  | .call { callee := .builtin .min, args := az, argTypes := ats } => match az.toList with
    | [x, y] => match ev s x, ev s y with
      | .inl (f, .int k m), .inl (g, .int _ n) => bif anyF f || anyF g then some (.inl ([true], (.int k (minZ m n))), false, []) else generic E o s
      | _, _ => generic E o s
    | _ => generic E o s
  | _ => generic E o s
def intOf : List Value → Int
  | [.int _ x] => x
  | _ => 0
def strOf (n : Nat) (el : Nat → List Value) : ByteArray := strOfNums ((List.range n).map fun j => intOf (el j))
theorem strZ_ex : ∃ f : Nat → (Nat → List Value) → ByteArray, ∀ n el, f n el = strOf n el := ⟨_, fun _ _ => rfl⟩
noncomputable def strZ : Nat → (Nat → List Value) → ByteArray := Classical.choose strZ_ex
theorem strZ_eq (n : Nat) (el : Nat → List Value) : strZ n el = strOf n el := Classical.choose_spec strZ_ex n el
def areBytes (n : Nat) (el : Nat → List Value) : Prop := ∀ j, j < n → el j = [.int .u8 (intOf (el j))]
noncomputable def bytesB (n : Nat) (el : Nat → List Value) : Bool := @decide (areBytes n el) (Classical.propDecidable _)
noncomputable def simCV (E : Env) (o : Oper) (s : St) : Option RO :=
  match o.op with
  | .convert t t' x => match ev s x with
    | .c k => match getL s k, E.P.underlying t, E.P.underlying t' with
      | some e, some (.slice et), some .string => match E.P.underlying et with
        | some (.int .u8) => bif Nat.beq e.size 1 then some (.inl ([true], .string (strZ e.n e.el)), false, [(pre (bytesB e.n e.el), true)]) else none
        | _ => none
      | _, _, _ => none
    | _ => none
  | _ => none
theorem lokZ_ex : ∃ f : List (Int × Value) → Int → Value → Value, ∀ l a z, f l a z = (logL l a).getD z := ⟨_, fun _ _ _ => rfl⟩
noncomputable def lokZ : List (Int × Value) → Int → Value → Value := Classical.choose lokZ_ex
theorem lokZ_eq (l : List (Int × Value)) (a : Int) (z : Value) : lokZ l a z = (logL l a).getD z := Classical.choose_spec lokZ_ex l a z
theorem hasZ_ex : ∃ f : List (Int × Value) → Int → Bool, ∀ l a, f l a = (logL l a).isSome := ⟨_, fun _ _ => rfl⟩
noncomputable def hasZ : List (Int × Value) → Int → Bool := Classical.choose hasZ_ex
theorem hasZ_eq (l : List (Int × Value)) (a : Int) : hasZ l a = (logL l a).isSome := Classical.choose_spec hasZ_ex l a
def numV : Value → Int
  | .int _ x => x
  | _ => 0
def booV : Value → Bool
  | .bool b => b
  | _ => false
def txtV : Value → ByteArray
  | .string s => s
  | _ => ByteArray.empty
def formV : Value → Value → Option Value
  | .agg ⟨[]⟩, _ => some (.agg #[])
  | .int k _, v => some (.int k (numV v))
  | .bool _, v => some (.bool (booV v))
  | .string _, v => some (.string (txtV v))
  | _, _ => none
def FmtL (l : List (Int × Value)) (z : Value) : Prop := ∀ p ∈ l, formV z p.2 = some p.2
noncomputable def fmtB (l : List (Int × Value)) (z : Value) : Bool := @decide (FmtL l z) (Classical.propDecidable _)
theorem fmtB_ok {l : List (Int × Value)} {z : Value} : pre (fmtB l z) = true ↔ FmtL l z := by unfold pre fmtB; exact @decide_eq_true_iff _ (Classical.propDecidable _)
theorem formV_self {z v v' : Value} (h : formV z v = some v') : formV z z = some z := by
  unfold formV at h
  split at h <;> first | rfl | cases h
theorem formV_look {l : List (Int × Value)} {z v' : Value} {a : Int} (hf : FmtL l z) (h : formV z (lokZ l a z) = some v') : v' = (logL l a).getD z := by
  rw [lokZ_eq] at h
  have key : ∀ l, FmtL l z → formV z ((logL l a).getD z) = some ((logL l a).getD z) := fun l => by
    induction l with
    | nil => exact fun _ => formV_self h
    | cons p r ih =>
      intro hl
      obtain ⟨k, v⟩ := p
      unfold logL
      cases hk : (k == a)
      · exact ih fun p hp => hl p (List.mem_cons_of_mem _ hp)
      · exact hl (k, v) List.mem_cons_self
  rw [key l hf] at h
  exact (Option.some.inj h).symm
noncomputable def simMV (E : Env) (o : Oper) (s : St) : Option RO :=
  match o.op with
  | .lookup t x ix ok => match ev s x, ev s ix with
    | .mp i, .inl (_, .int .i64 a) => match s.own.b[i]?, E.P.underlying t with
      | some b, some (.map kt et) => match b.kd, E.P.underlying kt, E.P.info? et with
        | .map T l, some (.int .i64), some ti => match ti.zero with
          | some z => match formV z (lokZ l a z) with
            | some u => bif ok then some (.tp [.inl (List.replicate z.cells.size true, u), .inl ([true], .bool (hasZ l a))], false, [(pre (fmtB l z), true), (pre (inI a), true)])
              else some (.inl (List.replicate z.cells.size true, u), false, [(pre (fmtB l z), true), (pre (inI a), true)])
            | none => none
          | none => none
        | _, _, _ => none
      | _, _ => none
    | _, _ => none
  | _ => none
theorem lokV_ex : ∃ f : List (Value × Value) → Value → Value → Value, ∀ l a z, f l a z = (logV l a).getD z := ⟨_, fun _ _ _ => rfl⟩
noncomputable def lokV : List (Value × Value) → Value → Value → Value := Classical.choose lokV_ex
theorem lokV_eq (l : List (Value × Value)) (a z : Value) : lokV l a z = (logV l a).getD z := Classical.choose_spec lokV_ex l a z
theorem hasV_ex : ∃ f : List (Value × Value) → Value → Bool, ∀ l a, f l a = (logV l a).isSome := ⟨_, fun _ _ => rfl⟩
noncomputable def hasV : List (Value × Value) → Value → Bool := Classical.choose hasV_ex
theorem hasV_eq (l : List (Value × Value)) (a : Value) : hasV l a = (logV l a).isSome := Classical.choose_spec hasV_ex l a
def FmtV (l : List (Value × Value)) (z : Value) : Prop := ∀ p ∈ l, formV z p.2 = some p.2
noncomputable def fmtVB (l : List (Value × Value)) (z : Value) : Bool := @decide (FmtV l z) (Classical.propDecidable _)
theorem fmtVB_ok {l : List (Value × Value)} {z : Value} : pre (fmtVB l z) = true ↔ FmtV l z := by unfold pre fmtVB; exact @decide_eq_true_iff _ (Classical.propDecidable _)
noncomputable def keysB (P : Program) (k : TypeId) (a : Value) (l : List (Value × Value)) : Bool := @decide (KeysIn P k (a :: l.map Prod.fst)) (Classical.propDecidable _)
theorem keysB_ok {P : Program} {k : TypeId} {a : Value} {l : List (Value × Value)} : pre (keysB P k a l) = true ↔ KeysIn P k (a :: l.map Prod.fst) := by unfold pre keysB; exact @decide_eq_true_iff _ (Classical.propDecidable _)
theorem formV_lookV {l : List (Value × Value)} {z v' a : Value} (hf : FmtV l z) (h : formV z (lokV l a z) = some v') : v' = (logV l a).getD z := by
  rw [lokV_eq] at h
  have key : ∀ l, FmtV l z → formV z ((logV l a).getD z) = some ((logV l a).getD z) := fun l => by
    induction l with
    | nil => exact fun _ => formV_self h
    | cons p r ih =>
      intro hl
      obtain ⟨k, v⟩ := p
      by_cases hk : k = a
      · rw [logV_put, if_pos hk]
        exact hl (k, v) List.mem_cons_self
      · rw [logV_put, if_neg hk]
        exact ih fun p hp => hl p (List.mem_cons_of_mem _ hp)
  rw [key l hf] at h
  exact (Option.some.inj h).symm
noncomputable def simMW (E : Env) (o : Oper) (s : St) : Option RO :=
  match o.op with
  | .lookup t x ix ok => match ev s x, ev s ix with
    | .mp i, .inl (_, a) => match s.own.b[i]?, E.P.underlying t with
      | some b, some (.map kt et) => match b.kd, E.P.info? et with
        | .mapV T l, some ti => match ti.zero with
          | some z => match formV z (lokV l a z) with
            | some u => bif ok then some (.tp [.inl (List.replicate z.cells.size true, u), .inl ([true], .bool (hasV l a))], false, [(pre (fmtVB l z), true), (pre (keysB E.P kt a l), true)])
              else some (.inl (List.replicate z.cells.size true, u), false, [(pre (fmtVB l z), true), (pre (keysB E.P kt a l), true)])
            | none => none
          | none => none
        | _, _ => none
      | _, _ => none
    | _, _ => none
  | _ => none
def intsAt (k : IntKind) : List SV → Option (List Int)
  | [] => some []
  | .inl (_, .int j x) :: r => bif decide (j = k) then (match intsAt k r with
    | some l => some (x :: l)
    | none => none) else none
  | _ :: _ => none
def intsV (k : IntKind) : List Value → Option (List Int)
  | [] => some []
  | .int j x :: r => bif decide (j = k) then (match intsV k r with
    | some l => some (x :: l)
    | none => none) else none
  | _ :: _ => none
theorem pickZ_ex : ∃ f : List Int → Int → Int, ∀ xs n, f xs n = (xs[n.toNat]?).getD 0 := ⟨_, fun _ _ => rfl⟩
noncomputable def pickZ : List Int → Int → Int := Classical.choose pickZ_ex
theorem pickZ_eq (xs : List Int) (n : Int) : pickZ xs n = (xs[n.toNat]?).getD 0 := Classical.choose_spec pickZ_ex xs n
theorem eqLZ_ex : ∃ f : List Int → List Int → Bool, ∀ xs ys, f xs ys = (xs == ys) := ⟨_, fun _ _ => rfl⟩
noncomputable def eqLZ : List Int → List Int → Bool := Classical.choose eqLZ_ex
theorem eqLZ_eq (xs ys : List Int) : eqLZ xs ys = (xs == ys) := Classical.choose_spec eqLZ_ex xs ys
theorem selZ_ex : ∃ f : Int → Nat → Int → Int → Int, ∀ n j v x, f n j v x = bif n == (j : Int) then v else x := ⟨_, fun _ _ _ _ => rfl⟩
noncomputable def selZ : Int → Nat → Int → Int → Int := Classical.choose selZ_ex
theorem selZ_eq (n : Int) (j : Nat) (v x : Int) : selZ n j v x = bif n == (j : Int) then v else x := Classical.choose_spec selZ_ex n j v x
noncomputable def selL (k : IntKind) (n v : Int) : Nat → List Int → List SV
  | _, [] => []
  | j, x :: r => .inl ([true], .int k (selZ n j v x)) :: selL k n v (j + 1) r
noncomputable def simIV (E : Env) (o : Oper) (s : St) : Option RO :=
  match o.op with
  | .indexAddr t x ix => bif E.mks then (match ev s x, ev s ix, E.P.underlying t with
    | .inr (i, off, none), .inl (g, .int k n), some (.array len e) => bif anyF g then (match E.P.info? e with
      | some ti => bif Nat.beq ti.size 1 then some (.ia i off len n, false, [(pre (idxB n len), true)]) else none
      | none => none) else none
    | .inl (_, .pointer (some ⟨gl, off, none⟩)), .inl (g, .int k n), some (.array len e) => bif anyF g then (match E.P.info? e with
      | some ti => bif Nat.beq ti.size 1 then some (.inl ([true], .pointer (some ⟨gl, off + n.toNat, none⟩)), false, [(pre (idxB n len), true)]) else none
      | none => none) else none
    | _, _, _ => none) else none
  | .load t x => match ev s x with
    | .ia i off len n => match getB s i, E.P.underlying t, E.P.info? t with
      | some b, some (.int k), some _ => match intsAt k ((b.cells.drop off).take len) with
        | some xs => bif Nat.beq xs.length len then some (.inl ([true], .int k (pickZ xs n)), false, [(pre (idxB n len), true)]) else none
        | none => none
      | _, _, _ => none
    | .inl (f, .pointer (some ⟨g, o, none⟩)) => bif E.mks && anyF f then (match E.glob g, E.P.underlying t, E.P.info? t with
      | some cs, some (.int k), some _ => match intsV k cs with
        | some xs => some (.inl ([true], .int k (pickZ xs (o : Nat))), false, [(pre (decide (o < xs.length)), true)])
        | none => none
      | _, _, _ => none) else none
    | _ => none
  | .binOp .eql t x y _ => bif E.mks then (match ev s x, ev s y, E.P.underlying t with
    | .inl (_, .agg a), .inl (_, .agg b), some (.array len e) => match E.P.underlying e, E.P.info? e with
      | some (.int k), some ti => match intsV k a.toList, intsV k b.toList with
        | some xs, some ys => bif Nat.beq xs.length len && Nat.beq ys.length len && Nat.beq ti.size 1 && !E.P.eqGuardType E.P.depth t then some (.inl ([true], .bool (eqLZ xs ys)), false, []) else none
        | _, _ => none
      | _, _ => none
    | _, _, _ => none) else none
  | _ => none
def rowG (gl : Nat → Option (List Value)) (v : Value) (e : LE) : Prop := (0 < e.size ∧ ∀ j, j < e.n → (e.el j).length = e.size ∧ (e.el j).all Value.oneCell' = true) ∧
  ∃ a cap, v = .slice a e.n cap ∧ e.n ≤ cap ∧ (0 < e.n → ∃ b off cs, a = some ⟨b, off, none⟩ ∧ gl b = some cs ∧ ∀ j, j < e.n → ∀ (o : Nat) c, (e.el j)[o]? = some c → cs[off + j * e.size + o]? = some c)
noncomputable def rowB (gl : Nat → Option (List Value)) (v : Value) (e : LE) : Bool := @decide (rowG gl v e) (Classical.propDecidable _)
theorem rowB_ok {gl : Nat → Option (List Value)} {v : Value} {e : LE} : pre (rowB gl v e) = true ↔ rowG gl v e := by unfold pre rowB; exact @decide_eq_true_iff _ (Classical.propDecidable _)
noncomputable def simRP (E : Env) (o : Oper) (s : St) : Option RO :=
  match o.op with
  | .indexAddr t x ix => match E.rowT t, ev s x, ev s ix with
    | some R, .inl (_, v), .inl (_, .int _ n) => match E.P.underlying t with
      | some (.slice et) => match E.P.info? et with
        | some i => bif Nat.beq i.size (R v).size then some (.rp v (R v) n.toNat 0, false, [(pre (rowB E.glob v (R v)), true), (pre (idxB n (R v).n), true)]) else none
        | none => none
      | _ => none
    | _, _, _ => none
  | .fieldAddr t x f => match ev s x with
    | .rp v e j p => match fieldB E.P t f p with
      | some p' => some (.rp v e j p', false, [(pre (rowB E.glob v e), true), (pre (decide (j < e.n)), true)])
      | none => none
    | _ => none
  | .load t x => match ev s x with
    | .rp v e j p => match loadB E.P t (e.el j) p with
      | some u => some (.inl (List.replicate u.cells.size true, u), false, [(pre (rowB E.glob v e), true), (pre (decide (j < e.n)), true)])
      | none => none
    | _ => none
  | .call { callee := .builtin .len, args := az, argTypes := ats } => match az.toList, ats.toList with
    | [x], [t] => match E.rowT t, ev s x, E.P.underlying t with
      | some R, .inl (_, v), some (.slice _) => some (.inl ([true], .int .i64 (R v).n), false, [(pre (rowB E.glob v (R v)), true)])
      | _, _, _ => none
    | _, _ => none
  | _ => none
noncomputable def simRO1 (E : Env) (o : Oper) (s : St) : Option RO := match simCV E o s with
  | some r => some r
  | none => match simMV E o s with
    | some r => some r
    | none => match simIV E o s with
      | some r => some r
      | none => match simRP E o s with
        | some r => some r
        | none => simRO0 E o s
noncomputable def simRO (E : Env) (o : Oper) (s : St) : Option RO := match simMW E o s with
  | some r => some r
  | none => simRO1 E o s
def chunks (size : Nat) : Nat → List Value → List (List Value)
  | 0, _ => []
  | m + 1, cs => cs.take size :: chunks size m (cs.drop size)
def tabE (l : List (List Value)) : Nat → List Value := fun j => (l[j]?).getD []
def newsOf (s : St) (size : Nat) : SV → Option (Nat × (Nat → List Value) × Bool)
  | .c k => match getL s k with
    | some e => bif Nat.beq e.size size then some (e.n, e.el, e.opn) else none
    | none => none
  | .inr (i, off, some (len, cap)) => match getB s i with
    | some b => match valsS ((b.cells.drop off).take (len * size)) with
      | some vs => bif Nat.ble (off + len * size) b.cells.length && vs.all Value.oneCell' then some (len, tabE (chunks size len vs), false) else none
      | none => none
    | none => none
  | _ => none
def baseOf (s : St) (t : TypeId) (size : Nat) : SV → Option (Nat × (Nat → List Value) × Bool × Option Nat)
  | .c k => match getL s k with
    | some e => bif e.own && Nat.beq e.elT t && Nat.beq e.size size && Nat.ble s.llo k then some (e.n, e.el, e.opn, some k) else none
    | none => none
  | .inl (_, .slice none 0 0) => some (0, fun _ => [], false, none)
  | _ => none
def baseB (s : St) (t : TypeId) (size : Nat) : SV → Option (Nat × (Nat → List Value))
  | .inr (i, 0, some (len, cap)) => match getB s i with
    | some b => match valsS b.cells with
      | some vs => bif Nat.beq b.elem t && Nat.beq len cap && Nat.beq vs.length (len * size) && vs.all Value.oneCell' && Nat.ble len (2 ^ 24) then some (len, tabE (chunks size len vs)) else none
      | none => none
    | none => none
  | _ => none
def killL (l : List LE) : Option Nat → List LE
  | none => l
  | some k => match l[k]? with
    | some e => l.set k { e with dead := true }
    | none => l
def joinE (n : Nat) (f g : Nat → List Value) : Nat → List Value := fun i => bif Nat.blt i n then f i else g (i - n)
def bldFree (s : St) (t : TypeId) : Bool := s.own.b.all fun b => match b.kd with
  | .bld _ _ e _ => !Nat.beq e t
  | _ => true
def zeroBld : List Value → Bool
  | [.pointer none, .slice none 0 0] => true
  | _ => false
def bldOf (E : Env) (t : TypeId) (zs : List Value) : Option TypeId := match E.bt with
  | some (T, e) => bif Nat.beq T t && zeroBld zs && !Nat.beq T e then some e else none
  | none => none
def setE (f : Nat → List Value) (j : Nat) (cs : List Value) : Nat → List Value := fun i => bif Nat.beq i j then cs else f i
def stoL (E : Env) (s : St) (t : TypeId) (k j o sz : Nat) (v : Value) : Option (LE × List (Bool × Bool)) := match getL s k, E.P.info? t with
  | some e, some i => bif e.own && Nat.ble s.llo k && Nat.beq sz e.size && bldFree s e.elT && Nat.beq v.cells.toList.length i.size && Nat.ble (o + i.size) e.size && v.cells.toList.all Value.oneCell' then
      some ({ e with el := setE e.el j (putL (e.el j) o v.cells.toList) }, [(pre (decide (j < e.n)), true)]) else none
  | _, _ => none
def simFX0 (E : Env) (o : Oper) (s : St) : Option (SV × Mem × List (Bool × Bool)) :=
  match o.op with
  | .alloc t => match E.P.info? t with
    | some i => match i.zero with
      | some z => match bldOf E t z.cells.toList with
        | some e => some (.inr (s.own.b.length, 0, none), { s.own with b := s.own.b ++ [⟨[], 0, .bld [] t e ByteArray.empty⟩] }, [])
        | none => some (.inr (s.own.b.length, 0, none), { s.own with b := s.own.b ++ [blk z.cells.toList t []] }, [])
      | none => none
    | none => none
  | .range t x => match ev s x, E.P.underlying t with
    | .inl (fl, .string str), some .string => some (.inr (s.own.b.length, 0, none), { s.own with b := s.own.b ++ [⟨[], 0, .iter fl str 0⟩] }, [])
    | _, _ => none
  | .box t x => match ev s x with
    | .inl (fl, y) => some (.inr (s.own.b.length, 0, none), { s.own with b := s.own.b ++ [blk y.cells.toList t fl] }, [])
    | y => match cellsS s y with
      | some cs => some (.inr (s.own.b.length, 0, none), { s.own with b := s.own.b ++ [⟨cs, t, .cells⟩] }, [])
      | none => none
  | .store t x y => match ev s x, cellsS s (ev s y) with
    | .inr (i, off, none), some us => bif Nat.ble s.lo i then (match getB s i with
      | some b => bif bldFree s b.elem then (match storeS E.P t b.cells off us with
        | some cs => some (.inl ([], undef), { s.own with b := s.own.b.set i ⟨cs, b.elem, .cells⟩ }, [])
        | none => none) else none
      | none => none) else none
    | .lp k j o' sz, _ => match ev s y with
      | .inl (_, v) => match stoL E s t k j o' sz v with
        | some (e, q) => some (.inl ([], undef), { s.own with l := s.own.l.set k e }, q)
        | none => none
      | _ => none
    | _, _ => none
  | .makeSlice t l c => match ev s l, ev s c, E.P.underlying t with
    | .inl (f, .int _ n), .inl (_, .int _ m), some (.slice e) => match E.P.info? e with
      | some i => match i.zero with
        | some z => bif Nat.beq z.cells.size i.size && Nat.blt 0 i.size && z.cells.toList.all Value.oneCell' then
            some (.c s.own.l.length, { s.own with l := s.own.l ++ [⟨e, i.size, n.toNat, fun _ => z.cells.toList, true, false, anyF f⟩] }, [(pre (decide (n = m ∧ 0 ≤ n ∧ i.bytes * n.toNat ≤ 281474976710656 ∧ n.toNat ≤ maxLen)), true)]) else none
        | none => none
      | none => none
    | _, _, _ => none
  | .buildSlice t len parts => bif parts.toList.all (fun p => isV (ev s p.2)) then
      (match litB E.P t len (parts.toList.map fun p => (p.1, rho s p.2)) with
      | some (cells, e) => some (.inr (s.own.b.length, 0, some (len, len)), { s.own with b := s.own.b ++ [blk cells e (bif E.mks then List.replicate cells.length (openS s (parts.toList.map (·.2))) else [])] }, [])
      | none => none)
    else (match litS E.P s t len (parts.toList.map fun p => (p.1, ev s p.2)) with
      | some (cells, e) => some (.inr (s.own.b.length, 0, some (len, len)), { s.own with b := s.own.b ++ [⟨cells, e, .cells⟩] }, [])
      | none => none)
  | .call { callee := .builtin .append, args := az, argTypes := ats } => match az.toList, ats.toList with
    | [x, y], [t, t'] => bif Nat.beq t t' then (match E.P.underlying t with
      | some (.slice e) => match E.P.info? e with
        | some i => match i.zero with
          | some z => bif Nat.beq z.cells.size i.size && Nat.blt 0 i.size && bldFree s e then (match baseOf s e i.size (ev s x), newsOf s i.size (ev s y) with
            | some (n, f, o1, k?), some (m, g, o2) =>
              some (.c s.own.l.length, { s.own with l := killL s.own.l k? ++ [⟨e, i.size, n + m, joinE n f g, true, false, o1 || o2⟩] }, [(pre (decide (n + m ≤ maxLen ∧ (n + m) * i.bytes ≤ 140737488355328 ∧ 0 < m)), true)])
            | _, _ => match baseB s e i.size (ev s x), newsOf s i.size (ev s y) with
              | some (n, f), some (m, g, o2) =>
                some (.c s.own.l.length, { s.own with l := s.own.l ++ [⟨e, i.size, n + m, joinE n f g, true, false, o2⟩] }, [(pre (decide (n + m ≤ maxLen ∧ (n + m) * i.bytes ≤ 140737488355328 ∧ 0 < m)), true)])
              | _, _ => none) else none
          | none => none
        | none => none
      | _ => none) else none
    | _, _ => none
  | _ => none
def baseF (s : St) (size : Nat) : SV → Option (Nat × (Nat → List Value))
  | .inr (i, 0, some (len, cap)) => match s.own.b[i]? with
    | some b => match b.kd, valsS b.cells with
      | .shut, some vs => bif Nat.beq len cap && Nat.beq vs.length (len * size) && vs.all Value.oneCell' && Nat.ble len (2 ^ 24) then some (len, tabE (chunks size len vs)) else none
      | _, _ => none
    | none => none
  | _ => none
def simGX (E : Env) (o : Oper) (s : St) : Option (SV × Mem × List (Bool × Bool)) :=
  match o.op with
  | .slice t x lo hi none => bif E.cut then (match ev s x with
    | .c k => match getL s k, E.P.underlying t with
      | some e, some (.slice et) => match E.P.info? et, boundS s 0 lo, boundS s e.n hi with
        | some i, some l, some h => bif Nat.beq i.size e.size && Nat.beq (E.P.elem t) et && !e.own then
            some (.c s.own.l.length, { s.own with l := s.own.l ++ [⟨e.elT, e.size, h.toNat - l.toNat, fun j => e.el (l.toNat + j), false, false, true⟩] }, [(pre (decide (0 ≤ l ∧ l ≤ h ∧ h ≤ e.n)), true)]) else none
        | _, _, _ => none
      | _, _ => none
    | _ => none) else none
  | .convert t t' x => match ev s x with
    | .inr (i, 0, some (len, cap)) => bif Nat.ble s.lo i && Nat.beq t t' then (match getB s i, E.P.underlying t with
      | some b, some (.slice et) => match E.P.underlying et with
        | some (.int .u8) => bif bldFree s b.elem then some (.inr (i, 0, some (len, cap)), { s.own with b := s.own.b.set i ⟨b.cells, b.elem, .shut⟩ }, []) else none
        | _ => none
      | _, _ => none) else none
    | _ => none
  | .call { callee := .builtin .append, args := az, argTypes := ats } => match az.toList, ats.toList with
    | [x, y], [t, t'] => bif Nat.beq t t' then (match E.P.underlying t with
      | some (.slice e) => match E.P.info? e with
        | some i => match i.zero with
          | some z => bif Nat.beq z.cells.size i.size && Nat.blt 0 i.size then (match baseF s i.size (ev s x), newsOf s i.size (ev s y) with
            | some (n, f), some (m, g, o2) =>
              some (.c s.own.l.length, { s.own with l := s.own.l ++ [⟨e, i.size, n + m, joinE n f g, true, false, o2⟩] }, [(pre (decide (n + m ≤ maxLen ∧ (n + m) * i.bytes ≤ 140737488355328 ∧ 0 < m)), true)])
            | _, _ => none) else none
          | none => none
        | none => none
      | _ => none) else none
    | _, _ => none
  | _ => none
def simLX (E : Env) (o : Oper) (s : St) : Option (SV × Mem × List (Bool × Bool)) :=
  match o.op with
  | .buildSlice t len parts => bif E.lit && parts.toList.all (fun p => isV (ev s p.2)) then (match litB E.P t len (parts.toList.map fun p => (p.1, rho s p.2)) with
    | some (cells, e) => match E.P.info? e with
      | some i => bif Nat.blt 0 i.size && Nat.beq cells.length (len * i.size) && cells.all Value.oneCell' && Nat.ble len (2 ^ 24) then
          some (.c s.own.l.length, { s.own with l := s.own.l ++ [⟨e, i.size, len, tabE (chunks i.size len cells), true, false, true⟩] }, []) else none
      | none => none
    | none => none) else none
  | _ => none
def simMK (E : Env) (o : Oper) (s : St) : Option (LE × List (Bool × Bool)) :=
  match o.op with
  | .makeSlice t l c => match ev s l, ev s c, E.P.underlying t with
    | .inl (f, .int _ n), .inl (_, .int _ m), some (.slice e) => match E.P.info? e with
      | some i => match i.zero with
        | some z => bif Nat.beq z.cells.size i.size && Nat.blt 0 i.size && z.cells.toList.all Value.oneCell' then
            some (⟨e, i.size, n.toNat, fun _ => z.cells.toList, true, false, anyF f⟩, [(pre (decide (n = m ∧ 0 ≤ n ∧ i.bytes * n.toNat ≤ 281474976710656 ∧ n.toNat ≤ maxLen)), true)]) else none
        | none => none
      | none => none
    | _, _, _ => none
  | _ => none
noncomputable def simIX (E : Env) (o : Oper) (s : St) : Option (SV × Mem × List (Bool × Bool)) :=
  match o.op with
  | .store t x y => match ev s x, ev s y with
    | .ia i off len n, .inl (_, .int k v) => bif Nat.ble s.lo i then (match getB s i, E.P.info? t with
      | some b, some ti => bif bldFree s b.elem && Nat.beq ti.size 1 then (match intsAt k ((b.cells.drop off).take len) with
        | some xs => bif Nat.beq xs.length len then some (.inl ([], undef), { s.own with b := s.own.b.set i ⟨b.cells.take off ++ (selL k n v 0 xs ++ b.cells.drop (off + len)), b.elem, .cells⟩ }, [(pre (idxB n len), true)]) else none
        | none => none) else none
      | _, _ => none) else none
    | _, _ => none
  | _ => none
def simMX (E : Env) (o : Oper) (s : St) : Option (SV × Mem × List (Bool × Bool)) :=
  match o.op with
  | .makeMap t none => some (.mp s.own.b.length, { s.own with b := s.own.b ++ [⟨[], 0, .map t []⟩] }, [])
  | .mapUpdate t m ix y => match ev s m, ev s ix, ev s y with
    | .mp i, .inl (_, .int .i64 a), .inl (_, v) => bif Nat.ble s.lo i then (match s.own.b[i]?, E.P.underlying t with
      | some b, some (.map kt et) => match b.kd, E.P.underlying kt with
        | .map T l, some (.int .i64) => some (.inl ([], undef), { s.own with b := s.own.b.set i ⟨[], 0, .map T ((a, v) :: l)⟩ }, [(pre (decide (inI a = true ∧ l.length < maxLen)), true)])
        | _, _ => none
      | _, _ => none) else none
    | _, _, _ => none
  | _ => none
noncomputable def simMY (E : Env) (o : Oper) (s : St) : Option (SV × Mem × List (Bool × Bool)) :=
  match o.op with
  | .makeMap t none => match E.P.underlying t with
    | some (.map kt _) => match E.P.underlying kt with
      | some (.int .i64) => none
      | _ => some (.mp s.own.b.length, { s.own with b := s.own.b ++ [⟨[], 0, .mapV t []⟩] }, [])
    | _ => none
  | .mapUpdate t m ix y => match ev s m, ev s ix, ev s y with
    | .mp i, .inl (_, a), .inl (_, v) => bif Nat.ble s.lo i then (match s.own.b[i]?, E.P.underlying t with
      | some b, some (.map kt et) => match b.kd with
        | .mapV T l => some (.inl ([], undef), { s.own with b := s.own.b.set i ⟨[], 0, .mapV T ((a, v) :: l)⟩ }, [(pre (decide (l.length < maxLen)), true), (pre (keysB E.P kt a l), true)])
        | _ => none
      | _, _ => none) else none
    | _, _, _ => none
  | _ => none
def simNA (E : Env) (o : Oper) (s : St) : Option (SV × Mem × List (Bool × Bool)) :=
  match o.op, o.dst with
  | .call { callee := .builtin .append, args := az, argTypes := ats }, some d => bif E.non.any (Nat.beq d) then (match az.toList, ats.toList with
    | [x, y], [t, t'] => bif Nat.beq t t' then (match E.P.underlying t, ev s x, ev s y with
      | some (.slice e), .c k, .c k2 => match E.P.info? e, getL s k, getL s k2 with
        | some _, some _, some e2 => some (.c k, s.own, [(pre (decide (e2.n = 0)), true)])
        | _, _, _ => none
      | _, _, _ => none) else none
    | _, _ => none) else none
  | _, _ => none
def simNB (E : Env) (o : Oper) (s : St) : Option (SV × Mem × List (Bool × Bool)) :=
  match o.op, o.dst with
  | .call { callee := .builtin .append, args := az, argTypes := ats }, some d => match az.toList, ats.toList with
    | [x, y], [t, t'] => bif Nat.beq t t' then (match E.P.underlying t, ev s x, ev s y with
      | some (.slice e), .inl (_, .slice none 0 0), .c k2 => bif E.non.any (Nat.beq d) then (match E.P.info? e, getL s k2 with
        | some _, some e2 => some (.inl ([], .slice none 0 0), s.own, [(pre (decide (e2.n = 0)), true)])
        | _, _ => none) else none
      | some (.slice e), .inl (_, .slice none 0 0), .inl (_, .slice none 0 0) => match E.P.info? e with
        | some _ => some (.inl ([], .slice none 0 0), s.own, [])
        | none => none
      | _, _, _ => none) else none
    | _, _ => none
  | _, _ => none
def simAG (E : Env) (o : Oper) (s : St) : Option (SV × Mem × List (Bool × Bool)) :=
  match o.op with
  | .call { callee := .builtin .append, args := az, argTypes := ats } => match az.toList, ats.toList with
    | [x, y], [t, t'] => match E.P.underlying t, E.P.underlying t', ev s y with
      | some (.slice e), some (.int .i64), .inl (fl, .int .i64 m) => match E.P.info? e with
        | some i => match i.zero with
          | some z => bif Nat.beq z.cells.size i.size && Nat.blt 0 i.size && bldFree s e && z.cells.toList.all Value.oneCell' then (match baseOf s e i.size (ev s x) with
            | some (n, f, o1, k?) => some (.c s.own.l.length, { s.own with l := killL s.own.l k? ++ [⟨e, i.size, n + m.toNat, joinE n f (fun _ => z.cells.toList), true, false, o1 || anyF fl⟩] }, [(pre (decide (0 ≤ m ∧ n + m.toNat ≤ maxLen ∧ (n + m.toNat) * i.bytes ≤ 140737488355328)), true)])
            | none => none) else none
          | none => none
        | none => none
      | _, _, _ => none
    | _, _ => none
  | _ => none
noncomputable def simFX1 (E : Env) (o : Oper) (s : St) : Option (SV × Mem × List (Bool × Bool)) := match simLX E o s with
  | some r => some r
  | none => match simMX E o s with
    | some r => some r
    | none => match simIX E o s with
      | some r => some r
      | none => match simFX0 E o s with
        | some r => some r
        | none => simGX E o s
noncomputable def simFX3 (E : Env) (o : Oper) (s : St) : Option (SV × Mem × List (Bool × Bool)) := match simNA E o s with
  | some r => some r
  | none => simFX1 E o s
noncomputable def simFX4 (E : Env) (o : Oper) (s : St) : Option (SV × Mem × List (Bool × Bool)) := match simNB E o s with
  | some r => some r
  | none => simFX3 E o s
noncomputable def simFX6 (E : Env) (o : Oper) (s : St) : Option (SV × Mem × List (Bool × Bool)) := match simAG E o s with
  | some r => some r
  | none => simFX4 E o s
noncomputable def simFX2 (E : Env) (o : Oper) (s : St) : Option (SV × Mem × List (Bool × Bool)) := match simMY E o s with
  | some r => some r
  | none => simFX6 E o s
def getIn (e : LE) : LE := { e with own := false, dead := false }
noncomputable def simRW (E : Env) (o : Oper) (s : St) : Option (SV × Mem × List (Bool × Bool)) :=
  match o.dst with
  | some d => match E.rowE d with
    | some R => match simRO E o s with
      | some (.inl (_, v), false, qs) => some (.c s.own.l.length, { s.own with l := s.own.l ++ [getIn (R v)] }, (pre (rowB E.glob v (getIn (R v))), true) :: qs)
      | _ => none
    | none => none
  | none => none
noncomputable def simRS (E : Env) (o : Oper) (s : St) : Option (SV × Mem × List (Bool × Bool)) :=
  match o.dst with
  | some d => match E.rowE d with
    | some R => match simRO E o s with
      | some (.inl (_, .agg cs), false, qs) => match cs.toList with
        | v :: r => some (.st (.l s.own.l.length :: r.map (.v [true])), { s.own with l := s.own.l ++ [getIn (R v)] }, (pre (rowB E.glob v (getIn (R v))), true) :: qs)
        | [] => none
      | _ => none
    | none => none
  | none => none
noncomputable def simFX (E : Env) (o : Oper) (s : St) : Option (SV × Mem × List (Bool × Bool)) := match simRS E o s with
  | some r => some r
  | none => match simRW E o s with
    | some r => some r
    | none => simFX2 E o s
def putS (n : Nat) (dst : Option Tmp) (x : SV) (s : St) : Option St :=
  match dst with
  | none => some s
  | some d => bif Nat.blt d n then some { s with tmps := (d, x) :: s.tmps } else none
def ask (s : St) (fl : List Bool) (b : Bool) : Bool × St :=
  bif anyF fl then (match s.orc with
    | [] => (b, s)
    | t :: r => (t, { s with orc := r, obl := (b, t) :: s.obl }))
  else (b, s)
def know (s : St) (d : Nat) (b : Bool) : St := { s with tmps := (d, .inl ([], (.bool b))) :: s.tmps }
def askC (s : St) (c : Operand) (fl : List Bool) (b : Bool) : Bool × St :=
  match c with
  | .tmp d => ((ask s fl b).1, know (ask s fl b).2 d (ask s fl b).1)
  | _ => ask s fl b
def wantS (n : Nat) (ops : Array Oper) (o : Oper) (s : St) : Option (Bool × St) :=
  match o.guard with
  | none => some (true, s)
  | some (j, want) => match (ops[j]?).bind (·.dst) with
    | some d => bif Nat.blt d n then (match look s.tmps d with
      | .inl (fl, (.bool b)) => some ((ask s fl b).1 == want, know (ask s fl b).2 d (ask s fl b).1)
      | .inl (_, (.tuple _)) => some (false, s)
      | _ => none) else none
    | none => none
def callArgs (s : St) (o : Oper) : Option (FuncId × List SV) :=
  match o.op with
  | .call { callee := .value x, args := az, argTypes := _ } => match fnOf (ev s x) with
    | some (f, fs, cs) => some (f, fs ++ (az.toList.map (ev s) ++ cs))
    | none => none
  | _ => none
noncomputable def simNX (o : Oper) (s : St) : Option (SV × St) := none
abbrev Callee := FuncId → List SV → St → Option (SV × St)
def more (s : St) (l : List (Bool × Bool)) : List (Bool × Bool) := l ++ s.obl
noncomputable def simOps (E : Env) (cl : Callee) (n : Nat) (ops : Array Oper) (ro : Bool) : List Oper → St → Option St
  | [], s => some s
  | o :: rest, s => match wantS n ops o s with
    | none => none
    | some (false, s1) => match putS n o.dst (.inl ([], undef)) s1 with
      | some s2 => simOps E cl n ops ro rest s2
      | none => none
    | some (true, s1) => match (bif ro then none else simNX o s1) with
      | some (x, s1') => match putS n o.dst x s1' with
        | some s2 => simOps E cl n ops ro rest s2
        | none => none
      | none => match (bif ro then none else simFX E o s1) with
      | some (x, own, q) => match putS n o.dst x { s1 with own := own, mem := true, obl := more s1 q } with
        | some s2 => simOps E cl n ops ro rest s2
        | none => none
      | none => match simRO E o s1 with
        | some (x, c, q) => match putS n o.dst x { s1 with mem := s1.mem || c, obl := more s1 q } with
          | some s2 => simOps E cl n ops ro rest s2
          | none => none
        | none => match callArgs s1 o with
          | none => none
          | some (f, args) => bif ro then
              (match cl f args { s1 with lo := s1.own.b.length, llo := s1.own.l.length } with
              | some (.inl (fl, x), s2) => match putS n o.dst (.inl (fl, x)) { s1 with mem := true, orc := s2.orc, obl := s2.obl } with
                | some s3 => simOps E cl n ops ro rest s3
                | none => none
              | _ => none)
            else (match cl f args s1 with
              | some (x, s2) => match putS n o.dst x { s1 with own := s2.own, mem := s2.mem, orc := s2.orc, obl := s2.obl } with
                | some s3 => simOps E cl n ops ro rest s3
                | none => none
              | none => none)
def resV (P : Program) (s : St) : ResultVar → Option SV
  | .tmp t => match look s.tmps t with
    | .any => none
    | x => some x
  | .cell a t => match look s.tmps a with
    | .inr (i, off, none) => match getB s i with
      | some b => loadS P t b.cells off
      | none => none
    | _ => none
def tupOf : SV → Option TV
  | .inl p => some (.inl p)
  | .c k => some (.inr k)
  | .st cs => some (.st cs)
  | _ => none
def tupL : List (Option SV) → Option (List TV)
  | [] => some []
  | some x :: r => match tupOf x, tupL r with
    | some y, some l => some (y :: l)
    | _, _ => none
  | none :: _ => none
def plainL : List TV → Option (List Bool × List Value)
  | [] => some ([], [])
  | .inl (f, x) :: r => match plainL r with
    | some (g, l) => some ([anyF f || anyF g], x :: l)
    | none => none
  | .inr _ :: _ => none
  | .st _ :: _ => none
def mkTup (l : List TV) : SV := match plainL l with
  | some (f, vs) => .inl (f, .tuple vs.toArray)
  | none => .tp l
def simRes (P : Program) (fn : Func) (s : St) : Option SV :=
  match fn.results.toList with
  | [r] => resV P s r
  | rs => match tupL (rs.map (resV P s)) with
    | some l => some (mkTup l)
    | none => none
def initS : Nat → List SV → List (Nat × SV)
  | _, [] => []
  | i, x :: r => (i, x) :: initS (i + 1) r
abbrev Runner := Nat → Code → St → Option (X × St)
def argsV : List SV → Option (List Value)
  | [] => some []
  | .inl (_, v) :: r => match argsV r with
    | some l => some (v :: l)
    | none => none
  | _ :: _ => none
def pcallS (E : Env) : Callee := fun f args s =>
  match argsV args with
  | some l => match E.pcall f l with
    | some (v, b) => match E.P.funcs[f]? with
      | some fn => bif fn.name == "runtime.NumGoroutine" || fn.body.isNone then none else
        some (.inl (List.replicate v.cells.size (!E.shut f && args.any fun x => anyF (flS x)), v), { s with mem := true, obl := (b, true) :: s.obl })
      | none => none
    | none => none
  | none => none
def cellX (s : St) : List CV → Option (List (Sum Value LE))
  | [] => some []
  | .v _ x :: r => match cellX s r with
    | some l => some (.inl x :: l)
    | none => none
  | .l k :: r => match getL s k, cellX s r with
    | some e, some l => some (.inr e :: l)
    | _, _ => none
  | _ :: _ => none
def argsX (s : St) : List SV → Option (List XV)
  | [] => some []
  | .inl (_, v) :: r => match argsX s r with
    | some l => some (.inl v :: l)
    | none => none
  | .c k :: r => match getL s k, argsX s r with
    | some e, some l => some (.inr e :: l)
    | _, _ => none
  | .sub k lo n sz :: r => match getL s k, argsX s r with
    | some e, some l => bif Nat.beq sz e.size then some (.inr ⟨e.elT, e.size, n, fun j => e.el (lo + j), false, false, true⟩ :: l) else none
    | _, _ => none
  | .st cs :: r => match cellX s cs, argsX s r with
    | some c, some l => some (.st c :: l)
    | _, _ => none
  | _ :: _ => none
def subsO (s : St) : List SV → List (Bool × Bool)
  | [] => []
  | .sub k lo n _ :: r => match getL s k with
    | some e => (pre (decide (lo + n ≤ e.n)), true) :: subsO s r
    | none => subsO s r
  | _ :: r => subsO s r
def outC (m : Nat) : List (Sum Value LE) → List CV × List LE
  | [] => ([], [])
  | .inl v :: r => (.v [true] v :: (outC m r).1, (outC m r).2)
  | .inr e :: r => (.l m :: (outC (m + 1) r).1, { e with own := true, dead := false } :: (outC (m + 1) r).2)
def outX (m : Nat) : List XV → List TV × List LE
  | [] => ([], [])
  | .inl v :: r => (.inl ([true], v) :: (outX m r).1, (outX m r).2)
  | .inr e :: r => (.inr m :: (outX (m + 1) r).1, { e with own := true, dead := false } :: (outX (m + 1) r).2)
  | .st cs :: r => (.st (outC m cs).1 :: (outX (m + (outC m cs).2.length) r).1, (outC m cs).2 ++ (outX (m + (outC m cs).2.length) r).2)
def lcallS (E : Env) : Callee := fun f args s =>
  match argsX s args with
  | some l => match E.lcall f l with
    | some (tup, res, b) => match E.P.funcs[f]? with
      | some fn => bif fn.name == "runtime.NumGoroutine" || fn.body.isNone then none else
        (match tup, outX s.own.l.length res with
        | true, (r, es) => some (.tp r, { s with own := { s.own with l := s.own.l ++ es }, mem := true, obl := (b, true) :: (subsO s args ++ s.obl) })
        | false, ([.inl p], es) => some (.inl p, { s with own := { s.own with l := s.own.l ++ es }, mem := true, obl := (b, true) :: (subsO s args ++ s.obl) })
        | false, ([.st cs], es) => some (.st cs, { s with own := { s.own with l := s.own.l ++ es }, mem := true, obl := (b, true) :: (subsO s args ++ s.obl) })
        | false, ([.inr k], es) => some (.c k, { s with own := { s.own with l := s.own.l ++ es }, mem := true, obl := (b, true) :: (subsO s args ++ s.obl) })
        | false, _ => none)
      | none => none
    | none => none
  | none => none
def enterO (E : Env) (ih : Runner) : Callee := fun f args s =>
  match E.P.funcs[f]? with
  | some fn => bif fn.name == "runtime.NumGoroutine" then none else (match fn.body with
    | some c => match ih (args.length + (fn.ntmps - args.length)) c { s with tmps := initS 0 args } with
      | some (none, s') => match simRes E.P fn s' with
        | some x => some (x, s')
        | none => none
      | some (some none, s') => match simRes E.P fn s' with
        | some x => some (x, s')
        | none => none
      | _ => none
    | none => none)
  | none => none
def oneB (c : Int) : ByteArray := ⟨#[UInt8.ofNat c.toNat]⟩
def bopR : BOp → ByteArray → List Value → Option (Value × Option ByteArray × Bool)
  | .wstr, _, [.string s] => some (.tuple #[.int .i64 s.size, .nilIface], some s, true)
  | .wbyte, _, [.int .u8 c] => some (.nilIface, some (oneB c), decide (0 ≤ c ∧ c < 256))
  | .wrune, _, [.int .i32 c] => some (.tuple #[.int .i64 1, .nilIface], some (oneB c), decide (0 ≤ c ∧ c < 128))
  | .str, acc, [] => some (.string acc, none, true)
  | .len, acc, [] => some (.int .i64 acc.size, none, true)
  | _, _, _ => none
def fitB (acc : ByteArray) (add : Option ByteArray) : Bool := match add with
  | some s => decide (acc.size + s.size + 4 ≤ 140737488355328)
  | none => true
noncomputable def accB (op : Bool) (acc : ByteArray) : Option ByteArray → ByteArray
  | some s => bif op then catZ acc s else acc ++ s
  | none => acc
def quietB (s : St) (i : Nat) (e : TypeId) : Bool :=
  ((List.range s.own.b.length).all fun j => Nat.beq i j || (match s.own.b[j]? with
    | some b => (match b.kd with
      | .cells => !Nat.beq b.elem e
      | .iter _ _ _ => true
      | .bld _ _ _ _ => false
      | .shut => false
      | .map _ _ => false
      | .mapV _ _ => false)
    | none => true)) && s.own.l.all fun l => l.dead || !l.own || !Nat.beq l.elT e
noncomputable def bcallS (E : Env) : Callee := fun f args s =>
  match E.bop f, args with
  | some op, .inr (i, 0, none) :: r => bif Nat.ble s.lo i then (match s.own.b[i]?, argsV r with
    | some b, some vs => match b.kd with
      | .bld fl T e acc => match E.bt, bopR op acc vs, E.P.funcs[f]? with
        | some (T', e'), some (v, add, c), some fn =>
          bif fn.name == "runtime.NumGoroutine" || fn.body.isNone || !Nat.beq T T' || !Nat.beq e e' || !quietB s i e then none else
          (bif anyF fl || r.any (fun x => anyF (flS x)) then
            some (.inl (List.replicate v.cells.size true, v), { s with mem := true, own := { s.own with b := s.own.b.set i ⟨[], 0, .bld [true] T e (accB true acc add)⟩ }, obl := (pre (c && fitB acc add), true) :: s.obl })
          else bif c && fitB acc add then some (.inl ([], v), { s with mem := true, own := { s.own with b := s.own.b.set i ⟨[], 0, .bld [] T e (accB false acc add)⟩ } }) else none)
        | _, _, _ => none
      | _ => none
    | _, _ => none) else none
  | _, _ => none
def deadE : LE := ⟨0, 0, 0, fun _ => [], false, true, true⟩
noncomputable def acallS (E : Env) : Callee := fun _ _ _ => none
structure Pick where
  ts : List Nat
  bs : List Nat
  ls : List Nat
  nil : List (Nat × TypeId × Nat × (Nat → List Value)) := []
  opn : List Nat := []
  opb : List Nat := []
  mv : List Nat := []
  cp : List Nat := []
  nib : List (Nat × Nat × TypeId × Nat × (Nat → List Value)) := []
def posN : List Nat → Nat → Option Nat
  | [], _ => none
  | x :: r, i => bif Nat.beq x i then some 0 else (match posN r i with
    | some k => some (k + 1)
    | none => none)
def pickC (p : Pick) : CV → Option CV
  | .v fl x => some (.v fl x)
  | .a i off => match posN p.bs i with
    | some i' => some (.a i' off)
    | none => none
  | .l k => match posN p.ls k with
    | some k' => some (.l k')
    | none => none
def pickCL (p : Pick) : List CV → Option (List CV)
  | [] => some []
  | x :: r => match pickC p x, pickCL p r with
    | some y, some l => some (y :: l)
    | _, _ => none
def pickV (p : Pick) : SV → SV
  | .inl q => .inl q
  | .inr (i, off, r) => match posN p.bs i with
    | some i' => .inr (i', off, r)
    | none => .any
  | .c k => match posN p.ls k with
    | some k' => .c k'
    | none => .any
  | .lp k j o sz => match posN p.ls k with
    | some k' => .lp k' j o sz
    | none => .any
  | .tp _ => .any
  | .fn f fs cs => match pickCL p fs, pickCL p cs with
    | some fs', some cs' => .fn f fs' cs'
    | _, _ => .any
  | .sub k lo n sz => match posN p.ls k with
    | some k' => .sub k' lo n sz
    | none => .any
  | .st cs => match pickCL p cs with
    | some cs' => .st cs'
    | none => .any
  | .mp i => match posN p.bs i with
    | some i' => .mp i'
    | none => .any
  | .ia i off len n => match posN p.bs i with
    | some i' => .ia i' off len n
    | none => .any
  | .rp v e j o => .rp v e j o
  | .any => .any
def openV (b : Bool) : SV → SV
  | .inl (fl, v) => bif b then .inl (List.replicate v.cells.size true, v) else .inl (fl, v)
  | x => x
def takeL {α : Type} (l : List α) : List Nat → Option (List α)
  | [] => some []
  | i :: r => match l[i]?, takeL l r with
    | some x, some t => some (x :: t)
    | _, _ => none
def nodupB : List Nat → Bool
  | [] => true
  | x :: r => !(r.any fun y => Nat.beq x y) && nodupB r
def pickCells (p : Pick) (o : Bool) : List SV → Option (List SV)
  | [] => some []
  | x :: r => match pickV p x with
    | .any => none
    | y => match pickCells p o r with
      | some l => some (openV o y :: l)
      | none => none
def openK (o : Bool) : Kd → Kd
  | .cells => .cells
  | .iter fl s p => .iter (bif o then [true] else fl) s p
  | .bld fl T e a => .bld (bif o then [true] else fl) T e a
  | .shut => .shut
  | .map T l => .map T l
  | .mapV T l => .mapV T l
def pickBs (p : Pick) : Nat → List Blk → Option (List Blk)
  | _, [] => some []
  | n, b :: r => match pickCells p (p.opb.any fun y => Nat.beq y n) b.cells, pickBs p (n + 1) r with
    | some cs, some l => some (⟨cs, b.elem, openK (p.opb.any fun y => Nat.beq y n) b.kd⟩ :: l)
    | _, _ => none
def takeB (p : Pick) (bs : List Blk) : Option (List Blk) := match takeL bs p.bs with
  | some b => pickBs p 0 b
  | none => none
def pickM (p : Pick) (own : Mem) : Option Mem := match takeB p own.b, takeL own.l p.ls with
  | some b, some l => bif nodupB p.bs && nodupB p.ls then some ⟨b, l⟩ else none
  | _, _ => none
def okCB (n m : Nat) : CV → Bool
  | .v _ _ => true
  | .a i _ => Nat.blt i n
  | .l k => Nat.blt k m
def okTB (n m : Nat) : TV → Bool
  | .inl _ => true
  | .inr k => Nat.blt k m
  | .st cs => cs.all (okCB n m)
def okVB (n m : Nat) : SV → Bool
  | .inl _ => true
  | .inr (i, _, _) => Nat.blt i n
  | .c k => Nat.blt k m
  | .lp k _ _ _ => Nat.blt k m
  | .tp l => l.all (okTB n m)
  | .fn _ fs cs => fs.all (okCB n m) && cs.all (okCB n m)
  | .sub k _ _ _ => Nat.blt k m
  | .st cs => cs.all (okCB n m)
  | .mp i => Nat.blt i n
  | .ia i _ _ _ => Nat.blt i n
  | .rp _ _ _ _ => true
  | .any => true
def refsC : List CV → List Nat × List Nat
  | [] => ([], [])
  | .v _ _ :: r => refsC r
  | .a i _ :: r => (i :: (refsC r).1, (refsC r).2)
  | .l k :: r => ((refsC r).1, k :: (refsC r).2)
def refsV : SV → List Nat × List Nat
  | .inr (i, _, _) => ([i], [])
  | .mp i => ([i], [])
  | .ia i _ _ _ => ([i], [])
  | .c k => ([], [k])
  | .lp k _ _ _ => ([], [k])
  | .sub k _ _ _ => ([], [k])
  | .fn _ fs cs => refsC (fs ++ cs)
  | .st cs => refsC cs
  | _ => ([], [])
def refsL : List SV → List Nat × List Nat
  | [] => ([], [])
  | x :: r => ((refsV x).1 ++ (refsL r).1, (refsV x).2 ++ (refsL r).2)
def addN (l : List Nat) : List Nat → List Nat
  | [] => l
  | k :: r => bif l.any (Nat.beq k) then addN l r else addN (l ++ [k]) r
def reach (m : Mem) : Nat → List Nat → List Nat → List Nat → List Nat × List Nat
  | 0, _, bs, ls => (bs, ls)
  | _ + 1, [], bs, ls => (bs, ls)
  | n + 1, i :: q, bs, ls => bif bs.any (Nat.beq i) then reach m n q bs ls else (match m.b[i]? with
    | some b => reach m n (q ++ (refsL b.cells).1) (bs ++ [i]) (addN ls (refsL b.cells).2)
    | none => reach m n q bs ls)
def reachP (m : Mem) (args : List SV) : Pick := { ts := [], bs := (reach m 100 (refsL args).1 [] (addN [] (refsL args).2)).1, ls := (reach m 100 (refsL args).1 [] (addN [] (refsL args).2)).2 }
def setN {α : Type} : List α → List (Nat × α) → List α
  | l, [] => l
  | l, (i, x) :: r => setN (l.set i x) r
def applyE (m : Mem) (r : Eff) : Mem := ⟨setN m.b r.sb ++ r.ab, setN m.l r.sl ++ r.al⟩
def renN (ps : List Nat) (n i : Nat) : Nat := match ps[i]? with
  | some k => k
  | none => n + (i - ps.length)
def renC (fb fl : Nat → Nat) : CV → CV
  | .v g x => .v g x
  | .a i off => .a (fb i) off
  | .l k => .l (fl k)
def renT (fb fl : Nat → Nat) : TV → TV
  | .inl p => .inl p
  | .inr k => .inr (fl k)
  | .st cs => .st (cs.map (renC fb fl))
def renV (fb fl : Nat → Nat) : SV → SV
  | .inl p => .inl p
  | .inr (i, off, r) => .inr (fb i, off, r)
  | .c k => .c (fl k)
  | .lp k j o sz => .lp (fl k) j o sz
  | .tp l => .tp (l.map (renT fb fl))
  | .fn f fs cs => .fn f (fs.map (renC fb fl)) (cs.map (renC fb fl))
  | .sub k lo n sz => .sub (fl k) lo n sz
  | .st cs => .st (cs.map (renC fb fl))
  | .mp i => .mp (fb i)
  | .ia i off len n => .ia (fb i) off len n
  | .rp v e j o => .rp v e j o
  | .any => .any
def renB (fb fl : Nat → Nat) (b : Blk) : Blk := ⟨b.cells.map (renV fb fl), b.elem, b.kd⟩
def applyR (own : Mem) (p : Pick) (r : Eff) : Mem :=
  ⟨setN own.b (r.sb.map fun q => (renN p.bs own.b.length q.1, renB (renN p.bs own.b.length) (renN p.ls own.l.length) q.2)) ++ r.ab.map (renB (renN p.bs own.b.length) (renN p.ls own.l.length)),
   setN own.l (r.sl.map fun q => (renN p.ls own.l.length q.1, q.2)) ++ r.al⟩
def okRB (n m : Nat) : SV → Bool
  | .tp l => l.all (okTB n m)
  | x => okVB n m x
def fitE (s : St) (p : Pick) (r : Eff) : Bool :=
  (r.sb.all fun q => match p.bs[q.1]? with
    | some i => Nat.ble s.lo i
    | none => false) &&
  (r.sl.all fun q => match p.ls[q.1]? with
    | some k => Nat.ble s.llo k
    | none => false) &&
  okRB (p.bs.length + r.ab.length) (p.ls.length + r.al.length) r.x &&
  (r.sb.all fun q => q.2.cells.all (okVB (p.bs.length + r.ab.length) (p.ls.length + r.al.length))) &&
  (r.ab.all fun b => b.cells.all (okVB (p.bs.length + r.ab.length) (p.ls.length + r.al.length))) &&
  s.own.b.all fun b => match b.kd with
    | .bld _ _ _ _ => false
    | _ => true
noncomputable def effS (E : Env) : Callee := fun f args s => match E.eff f with
  | none => none
  | some g => match pickCells (reachP s.own args) false args, pickM (reachP s.own args) s.own with
    | some args', some m => match g args' m, E.P.funcs[f]? with
      | some r, some fn => bif fn.name == "runtime.NumGoroutine" || fn.body.isNone || !fitE s (reachP s.own args) r then none else
        some (renV (renN (reachP s.own args).bs s.own.b.length) (renN (reachP s.own args).ls s.own.l.length) r.x, { s with own := applyR s.own (reachP s.own args) r, mem := true, obl := (r.ok, true) :: s.obl })
      | _, _ => none
    | _, _ => none
noncomputable def effP (E : Env) (f : FuncId) (args : List SV) (own : Mem) : Option ((List Bool × Value) × Bool) := match E.eff f with
  | none => none
  | some g => match pickCells (reachP own args) false args, pickM (reachP own args) own with
    | some args', some m => match g args' m, E.P.funcs[f]? with
      | some r, some fn => bif fn.name == "runtime.NumGoroutine" || fn.body.isNone || !(r.sb.isEmpty && r.sl.isEmpty && r.ab.isEmpty && r.al.isEmpty) || !(own.b.all fun b => match b.kd with
          | .bld _ _ _ _ => false
          | _ => true) then none else (match r.x with
        | .inl p => some (p, r.ok)
        | _ => none)
      | _, _ => none
    | _, _ => none
noncomputable def enterS (E : Env) (ih : Runner) : Callee := fun f args s => match pcallS E f args s with
  | some r => some r
  | none => match lcallS E f args s with
    | some r => some r
    | none => match bcallS E f args s with
      | some r => some r
      | none => match acallS E f args s with
        | some r => some r
        | none => match effS E f args s with
          | some r => some r
          | none => enterO E ih f args s
structure Dn where
  x : SV
  e : Option LE
def newsL (L : Nat → Bool) : Nat → List Dn → List LE
  | _, [] => []
  | i, d :: r => match d.e with
    | some e => { e with dead := !L i } :: newsL L (i + 1) r
    | none => newsL L (i + 1) r
def dstIs (o : Oper) (t : Nat) : Bool := match o.dst with
  | some u => Nat.beq u t
  | none => false
def looksB (ops : Array Oper) (o : Oper) (j : Nat) : Bool := match ops[j]? with
  | some oj => (o.looksAt ops).any (dstIs oj)
  | none => false
def depB (ops : Array Oper) : Bool := (List.range ops.size).all fun i => match ops[i]? with
  | some o => notSel o.op && o.after.toList.all (fun e => !Region.binds .any e || Nat.blt e.on i) &&
      (List.range ops.size).all (fun j => !looksB ops o j || (Nat.blt j i && o.after.toList.any fun e => Region.binds .any e && Nat.beq e.on j)) &&
      (List.range ops.size).all (fun j => Nat.beq i j || (match o.dst, ops[j]? with
        | some t, some oj => !dstIs oj t
        | _, _ => true))
  | none => false
def focus (ops : Array Oper) (o : Oper) (pre : List Dn) (s : St) : St := { s with own := { s.own with l := s.own.l ++ newsL (looksB ops o) 0 pre } }
noncomputable def stepD (E : Env) (n : Nat) (ops : Array Oper) (o : Oper) (pre : List Dn) (s : St) : Option (Dn × St) :=
  match wantS n ops o s with
  | none => none
  | some (false, s1) => some (⟨.inl ([], undef), none⟩, s1)
  | some (true, s1) => match simMK E o (focus ops o pre s1) with
    | some (e, q) => some (⟨.c (s1.own.l.length + (newsL (fun _ => true) 0 pre).length), some e⟩, { s1 with obl := more s1 q })
    | none => match simRO E o (focus ops o pre s1) with
    | some (x, c, q) => bif okVB s1.own.b.length s1.own.l.length x then some (⟨x, none⟩, { s1 with obl := more s1 q }) else none
    | none => match simLX E o (focus ops o pre s1) with
    | some (_, m, _) => match m.l.getLast? with
      | some e => some (⟨.c (s1.own.l.length + (newsL (fun _ => true) 0 pre).length), some e⟩, s1)
      | none => none
    | none => match callArgs (focus ops o pre s1) o with
      | none => none
      | some (f, args) => match effP E f args s1.own with
        | some (p, b) => some (⟨.inl p, none⟩, { s1 with obl := (b, true) :: s1.obl })
        | none => match pcallS E f args (focus ops o pre s1) with
        | some (.inl p, s2) => some (⟨.inl p, none⟩, { s1 with obl := s2.obl })
        | some _ => none
        | none => match argsX (focus ops o pre s1) args, E.P.funcs[f]? with
          | some l, some fn => bif fn.name == "runtime.NumGoroutine" || fn.body.isNone then none else (match E.lcall f l with
            | some (false, [.inl v], b) => some (⟨.inl ([true], v), none⟩, { s1 with obl := (b, true) :: (subsO (focus ops o pre s1) args ++ s1.obl) })
            | some (false, [.inr e], b) => some (⟨.c (s1.own.l.length + (newsL (fun _ => true) 0 pre).length), some { e with own := true, dead := false }⟩, { s1 with obl := (b, true) :: (subsO (focus ops o pre s1) args ++ s1.obl) })
            | _ => none)
          | _, _ => none
noncomputable def simD (E : Env) (n : Nat) (ops : Array Oper) : List Oper → List Dn → St → Option (List Dn × St)
  | [], pre, s => some (pre, s)
  | o :: rest, pre, s => match stepD E n ops o pre s with
    | some (d, s1) => match putS n o.dst d.x s1 with
      | some s2 => simD E n ops rest (pre ++ [d]) s2
      | none => none
    | none => none
noncomputable def regionD (E : Env) (n : Nat) (ops : Array Oper) (s : St) : Option St := bif depB ops then (match simD E n ops ops.toList [] s with
  | some (ds, s1) => some { s1 with own := { s1.own with l := s1.own.l ++ newsL (fun _ => true) 0 ds } }
  | none => none) else none
noncomputable def lastD (E : Env) (n : Nat) (ops : Array Oper) (s : St) : Option St := none
def noopT (o : Oper) : Oper := { o with op := .move (.const undef), dst := none }
def aftA (o : Oper) : List Nat := (o.after.toList.filter (Region.binds .any)).map (·.on)
def ancA (ops : Array Oper) : Nat → List Nat → List Nat
  | 0, xs => xs
  | k + 1, xs => ancA ops k (addN xs (xs.flatMap fun i => match ops[i]? with
    | some o => aftA o
    | none => []))
noncomputable def stepT (E : Env) (cl : Callee) (n : Nat) (o : Oper) (s : St) : Option St := match simFX E o s with
  | some (x, own, q) => putS n o.dst x { s with own := own, mem := true, obl := more s q }
  | none => match simRO E o s with
    | some (x, c, q) => putS n o.dst x { s with mem := s.mem || c, obl := more s q }
    | none => match callArgs s o with
      | some (f, args) => match cl f args s with
        | some (x, s2) => putS n o.dst x { s with own := s2.own, mem := true, orc := s2.orc, obl := s2.obl }
        | none => none
      | none => none
noncomputable def tailS (E : Env) (cl : Callee) (n : Nat) : List Oper → St → Option St
  | [], s => some s
  | o :: r, s => match stepT E cl n o s with
    | some s1 => tailS E cl n r s1
    | none => none
noncomputable def tailN (E : Env) (cl : Callee) (n k : Nat) (ops : Array Oper) (s : St) : Option St :=
  bif ops.toList.all (fun o => o.guard.isNone) && Nat.ble k ops.size && Nat.blt 0 k && (List.range k).all (fun m => (List.range (ops.size - k + m)).all fun j => (ancA ops ops.size (match ops[ops.size - k + m]? with
      | some o => aftA o
      | none => [])).any (Nat.beq j)) then
    (match regionD E n (ops.toList.take (ops.size - k) ++ (ops.toList.drop (ops.size - k)).map noopT).toArray s with
    | some s2 => tailS E cl n (ops.toList.drop (ops.size - k)) s2
    | none => none) else none
noncomputable def pivR (E : Env) (cl : Callee) (n c : Nat) (fr : List Nat) (ops : Array Oper) (s : St) : Option (St × St) :=
  match ops[c]? with
  | none => none
  | some o => bif ops.toList.all (fun o => o.guard.isNone) && (List.range c).all (fun j => (ancA ops ops.size (aftA o)).any (Nat.beq j)) && (List.range ops.size).all (fun i => Nat.ble i c || fr.any (Nat.beq i) || (match ops[i]? with
      | some o' => (ancA ops ops.size (aftA o')).any (Nat.beq c)
      | none => true)) && fr.all (Nat.blt c) then
    (match regionD E n (ops.toList.take c ++ (ops.toList.drop c).map noopT).toArray s with
    | some s2 => match stepT E cl n o s2 with
      | some s3 => match regionD E n ((ops.toList.take (c + 1)).map noopT ++ ops.toList.drop (c + 1)).toArray s3 with
        | some s4 => some (s3, s4)
        | none => none
      | none => none
    | none => none) else none
noncomputable def pivE (E : Env) (cl : Callee) (n c : Nat) (ops : Array Oper) (s : St) : Option St := match pivR E cl n c [] ops s with
  | some (_, s4) => some s4
  | none => none
def isCallO (o : Oper) : Bool := match o.op with
  | .call { callee := .value _, args := _, argTypes := _ } => true
  | _ => false
def pivI (ops : Array Oper) : Nat → Option Nat
  | 0 => none
  | i + 1 => match ops[i]? with
    | some o => bif isCallO o then some i else pivI ops i
    | none => pivI ops i
noncomputable def pivD (E : Env) (cl : Callee) (n : Nat) (ops : Array Oper) (s : St) : Option St := match pivI ops ops.size with
  | some c => pivE E cl n c ops s
  | none => none
noncomputable def pivJ (E : Env) (n : Nat) (ops : Array Oper) (s : St) : Option St := none
noncomputable def tailD (E : Env) (cl : Callee) (n : Nat) (ops : Array Oper) (s : St) : Option St := match tailN E cl n 2 ops s with
  | some r => some r
  | none => match tailN E cl n 3 ops s with
    | some r => some r
    | none => match pivD E cl n ops s with
      | some r => some r
      | none => pivJ E n ops s
noncomputable def regionJ (E : Env) (n : Nat) (ops : Array Oper) (s : St) : Option St := none
noncomputable def stepC (E : Env) (ih : Runner) (n : Nat) : Code → St → Option (X × St)
  | .skip, s => some (none, s)
  | .label _, s => some (none, s)
  | .scope x, s => ih n x s
  | .region _ ops false, s => match simOps E (enterS E ih) n ops false ops.toList s with
    | some s' => some (none, s')
    | none => none
  | .region _ ops true, s => bif E.P.follows .mixedOrders && Region.lexB .any ops then (match simOps E (enterS E ih) n ops true ops.toList { s with mem := true } with
    | some s' => some (none, s')
    | none => match regionD E n ops { s with mem := true } with
      | some s' => some (none, s')
      | none => match lastD E n ops { s with mem := true } with
        | some s' => some (none, s')
        | none => match regionJ E n ops { s with mem := true } with
          | some s' => some (none, s')
          | none => match tailD E (enterS E ih) n ops { s with mem := true } with
            | some s' => some (none, s')
            | none => none) else none
  | .seq x y, s => match ih n x s with
    | some (none, s') => ih n y s'
    | r => r
  | .cond c x y, s => match ev s c with
    | .inl (fl, (.bool b)) => match askC s c fl b with
      | (true, s') => ih n x s'
      | (false, s') => ih n y s'
    | _ => none
  | .block id x, s => match ih n x s with
    | some (some (some i), s') => bif Nat.beq i id then some (none, s') else some (some (some i), s')
    | r => r
  | .loop x, s => match ih n x s with
    | some (none, s') => ih n (.loop x) s'
    | r => r
  | .exit id, s => some (some (some id), s)
  | .ret, s => some (some none, s)
  | _, _ => none
noncomputable def simC (E : Env) (fuel : Nat) : Runner :=
  Nat.rec (fun _ _ _ => none) (fun _ ih n c s => stepC E ih n c s) fuel
end Go.Proofs.YtiajbijbhhpllaaDoor.S2
namespace Go.Proofs.YtiajbijbhhpllaaDoor.S2
open Go Go.RowKit Sim
def Agree (n m : Nat) (ν ν' : Nu) : Prop := (∀ i, i < n → ν.l i = ν'.l i) ∧ ∀ k, k < m → ν.v k = ν'.v k
abbrev Ag (o : Mem) (ν ν' : Nu) : Prop := Agree o.b.length o.l.length ν ν'
theorem Agree.refl (n m : Nat) (ν : Nu) : Agree n m ν ν := ⟨fun _ _ => rfl, fun _ _ => rfl⟩
theorem Agree.trans {n m n' m' : Nat} {a b c : Nu} (h : Agree n m a b) (k : Agree n' m' b c) (hn : n ≤ n') (hm : m ≤ m') : Agree n m a c :=
  ⟨fun i hi => (h.1 i hi).trans (k.1 i (by omega)), fun i hi => (h.2 i hi).trans (k.2 i (by omega))⟩
theorem Agree.mono {n m n' m' : Nat} {a b : Nu} (h : Agree n m a b) (hn : n' ≤ n) (hm : m' ≤ m) : Agree n' m' a b := ⟨fun i hi => h.1 i (by omega), fun i hi => h.2 i (by omega)⟩
theorem concC_congr {ν ν' : Nu} {n m : Nat} {x : CV} (h : okC n m x) (hl : Agree n m ν ν') : concC ν x = concC ν' x := by
  cases x with
  | v fl x => rfl
  | a i off => simp [concC, hl.1 i h]
  | l k => exact hl.2 k h
theorem conc_congr {ν ν' : Nu} {n m : Nat} {x : SV} (h : okV n m x) (hl : Agree n m ν ν') : conc ν x = conc ν' x := by
  cases x with
  | inl p => rfl
  | inr p =>
    obtain ⟨i, off, _ | ⟨len, cap⟩⟩ := p
    · simp [conc, hl.1 i h]
    · simp [conc, hl.1 i h]
  | c k => exact hl.2 k h
  | lp k j o sz => simp [conc, hl.2 k h]
  | tp l =>
    simp only [conc, Value.tuple.injEq]
    congr 1
    refine List.map_congr_left fun x hx => ?_
    cases x with
    | inl p => rfl
    | inr k => exact hl.2 k (h _ hx)
    | st cs => exact congrArg (fun l => Value.agg (List.toArray l)) (List.map_congr_left fun c hc => concC_congr (h _ hx c hc) hl)
  | fn f fs cs =>
    simp only [conc]
    rw [List.map_congr_left fun x hx => concC_congr (h.1 x hx) hl, List.map_congr_left fun x hx => concC_congr (h.2 x hx) hl]
  | sub k lo n sz => simp [conc, hl.2 k h]
  | st cs => exact congrArg (fun l => Value.agg (List.toArray l)) (List.map_congr_left fun c hc => concC_congr (h c hc) hl)
  | mp i => simp [conc, hl.1 i h]
  | ia i off len n' => simp [conc, hl.1 i h]
  | rp v e j o => rfl
  | any => rfl
theorem Is_congr {ν ν' : Nu} {n m : Nat} {x : SV} {v : Value} (h : okV n m x) (hl : Agree n m ν ν') (hi : Is ν x v) : Is ν' x v := by
  have := conc_congr h hl
  cases x <;> first | trivial | exact (show v = conc ν _ from hi).trans this
def concB (ν : Nu) (cs : List SV) : List Value := cs.map (conc ν)
def OkB (n m : Nat) (bs : List Blk) : Prop := ∀ (i : Nat) (b : Blk), bs[i]? = some b → ∀ c ∈ b.cells, okV n m c
theorem concB_congr {ν ν' : Nu} {n m : Nat} {cs : List SV} (h : ∀ c ∈ cs, okV n m c) (hl : Agree n m ν ν') : concB ν cs = concB ν' cs := List.map_congr_left fun c hc => conc_congr (h c hc) hl
theorem okC.mono {n m n' m' : Nat} {x : CV} (h : okC n m x) (hn : n ≤ n') (hm : m ≤ m') : okC n' m' x := by
  cases x with
  | v fl x => trivial
  | a i off => exact Nat.lt_of_lt_of_le h hn
  | l k => exact Nat.lt_of_lt_of_le h hm
theorem okT.mono {n m n' m' : Nat} {x : TV} (h : okT n m x) (hn : n ≤ n') (hm : m ≤ m') : okT n' m' x := by
  cases x with
  | inl p => trivial
  | inr k => exact Nat.lt_of_lt_of_le h hm
  | st cs => exact fun c hc => (h c hc).mono hn hm
theorem okV.mono {n m n' m' : Nat} {x : SV} (h : okV n m x) (hn : n ≤ n') (hm : m ≤ m') : okV n' m' x := by
  cases x with
  | inl p => trivial
  | inr p =>
    obtain ⟨i, off, _ | ⟨len, cap⟩⟩ := p
    · exact Nat.lt_of_lt_of_le h hn
    · exact Nat.lt_of_lt_of_le h hn
  | c k => exact Nat.lt_of_lt_of_le h hm
  | lp k j o sz => exact Nat.lt_of_lt_of_le h hm
  | tp l => exact fun x hx => (h x hx).mono hn hm
  | fn f fs cs => exact ⟨fun x hx => (h.1 x hx).mono hn hm, fun x hx => (h.2 x hx).mono hn hm⟩
  | sub k lo n sz => exact Nat.lt_of_lt_of_le h hm
  | st cs => exact fun c hc => (h c hc).mono hn hm
  | mp i => exact Nat.lt_of_lt_of_le h hn
  | ia i off len n' => exact Nat.lt_of_lt_of_le h hn
  | rp v e j o => trivial
  | any => trivial
theorem OkB.mono {n m n' m' : Nat} {bs : List Blk} (h : OkB n m bs) (hn : n ≤ n') (hm : m ≤ m') : OkB n' m' bs := fun i b hi c hc => (h i b hi c hc).mono hn hm
theorem OkB.snoc {n m : Nat} {bs : List Blk} {b : Blk} (h : OkB n m bs) (hb : ∀ c ∈ b.cells, okV n m c) : OkB n m (bs ++ [b]) := fun i b' hi => by
  rcases Nat.lt_trichotomy i bs.length with hl | hl | hl
  · rw [List.getElem?_append_left hl] at hi; exact h i b' hi
  · subst hl
    simp at hi
    subst hi; exact hb
  · rw [List.getElem?_eq_none (by simp; omega)] at hi; cases hi
theorem OkB.set {n m : Nat} {bs : List Blk} {b : Blk} {i : Nat} (h : OkB n m bs) (hb : ∀ c ∈ b.cells, okV n m c) : OkB n m (bs.set i b) := fun j b' hj => by
  by_cases hij : i = j
  · subst hij
    have hl := lt_of_some_list hj
    rw [List.getElem?_set_self (by simpa using hl)] at hj
    simp only [Option.some.injEq] at hj
    subst hj; exact hb
  · rw [List.getElem?_set_ne hij] at hj; exact h j b' hj
theorem okV_mkCells {n m : Nat} : ∀ (vs : List Value) (fl : List Bool), ∀ c ∈ mkCells vs fl, okV n m c
  | [], _, c, h => by cases h
  | v :: r, [], c, h => by
    rcases List.mem_cons.mp (show c ∈ .inl ([false], v) :: mkCells r [] from h) with rfl | h
    · trivial
    · exact okV_mkCells r _ c h
  | v :: r, b :: fl, c, h => by
    rcases List.mem_cons.mp (show c ∈ .inl ([b], v) :: mkCells r fl from h) with rfl | h
    · trivial
    · exact okV_mkCells r _ c h
theorem concB_mkCells (ν : Nu) : ∀ (vs : List Value) (fl : List Bool), concB ν (mkCells vs fl) = vs
  | [], _ => rfl
  | v :: r, [] => by show v :: concB ν (mkCells r []) = _; rw [concB_mkCells ν r]
  | v :: r, b :: fl => by show v :: concB ν (mkCells r fl) = _; rw [concB_mkCells ν r]
theorem okCB_ok {n m : Nat} {l : List CV} (h : l.all (okCB n m) = true) : ∀ x ∈ l, okC n m x := fun x hx => by
  have := List.all_eq_true.mp h x hx
  cases x with
  | v fl x => trivial
  | a i off => simpa [okCB, okC, Nat.blt_eq] using this
  | l k => simpa [okCB, okC, Nat.blt_eq] using this
theorem okVB_ok {n m : Nat} {x : SV} (h : okVB n m x = true) : okV n m x := by
  cases x with
  | inl q => trivial
  | inr q => obtain ⟨i, off, _ | ⟨len, cap⟩⟩ := q <;> simpa [okVB, okV, Nat.blt_eq] using h
  | c k => simpa [okVB, okV, Nat.blt_eq] using h
  | lp k j o sz => simpa [okVB, okV, Nat.blt_eq] using h
  | tp l =>
    intro t ht
    have := List.all_eq_true.mp h t ht
    cases t with
    | inl p => trivial
    | inr k => simpa [okTB, okT, Nat.blt_eq] using this
    | st cs => exact okCB_ok this
  | fn f fs cs =>
    simp only [okVB, Bool.and_eq_true] at h
    exact ⟨okCB_ok h.1, okCB_ok h.2⟩
  | sub k lo n' sz => simpa [okVB, okV, Nat.blt_eq] using h
  | st cs => exact okCB_ok h
  | mp i => simpa [okVB, okV, Nat.blt_eq] using h
  | ia i off len n' => simpa [okVB, okV, Nat.blt_eq] using h
  | rp v e j o => trivial
  | any => trivial
theorem look_ok {n m : Nat} : ∀ {l : List (Nat × SV)} {t : Nat}, (∀ p ∈ l, okV n m p.2) → okV n m (look l t)
  | [], _, _ => trivial
  | (d, x) :: r, t, h => by
    unfold look
    cases hb : Nat.beq d t
    · exact look_ok fun p hp => h p (List.mem_cons_of_mem _ hp)
    · exact h (d, x) (List.mem_cons_self)
def LE.wf (e : LE) : Prop := 0 < e.size ∧ ∀ j, j < e.n → (e.el j).length = e.size ∧ (e.el j).all Value.oneCell' = true
def LE.flat (e : LE) : List Value := (List.range e.n).flatMap e.el
def InB (B : Nat) (w : World) (e : LE) (v : Value) : Prop :=
  e.wf ∧ ∃ a cap, v = .slice a e.n cap ∧ e.n ≤ cap ∧ (0 < e.n → ∃ b off, a = some ⟨b, off, none⟩ ∧ b < B ∧ ∀ j, j < e.n → ∀ (o : Nat) c, (e.el j)[o]? = some c → w.cell? ⟨b, off + j * e.size + o, none⟩ = some c)
def OwnB (B : Nat) (w : World) (e : LE) (v : Value) : Prop := e.wf ∧ w.ownsRow B e.elT e.size v e.n e.flat
theorem flat_len {f : Nat → List Value} {s : Nat} : ∀ (n : Nat), (∀ j, j < n → (f j).length = s) → ((List.range n).flatMap f).length = n * s
  | 0, _ => by simp
  | n + 1, h => by
    rw [List.range_succ, List.flatMap_append, List.length_append, flat_len n (fun j hj => h j (by omega))]
    simp [h n (by omega), Nat.add_mul]
theorem flat_get {f : Nat → List Value} {s : Nat} : ∀ (n : Nat), (∀ j, j < n → (f j).length = s) → ∀ (j : Nat), j < n → ∀ (o : Nat), o < s → ((List.range n).flatMap f)[j * s + o]? = (f j)[o]?
  | 0, _, j, hj, _, _ => by omega
  | n + 1, h, j, hj, o, ho => by
    have hl := flat_len n (fun j hj => h j (by omega))
    rw [List.range_succ, List.flatMap_append]
    by_cases hjn : j < n
    · have : (j + 1) * s ≤ n * s := Nat.mul_le_mul_right _ hjn
      rw [Nat.add_mul, Nat.one_mul] at this
      rw [List.getElem?_append_left (by rw [hl]; omega), flat_get n (fun j hj => h j (by omega)) j hjn o ho]
    · obtain rfl : j = n := by omega
      rw [List.getElem?_append_right (by rw [hl]; omega), hl]
      simp
theorem OwnB.cell {B : Nat} {w : World} {e : LE} {v : Value} (h : OwnB B w e v) (hn : 0 < e.n) : ∃ g cap, v = .slice (some ⟨g, 0, none⟩) e.n cap ∧ v.ownBlock = some g ∧ B ≤ g ∧ g < w.heap.size ∧ ∀ j, j < e.n → ∀ (o : Nat) c, (e.el j)[o]? = some c → w.cell? ⟨g, j * e.size + o, none⟩ = some c := by
  obtain ⟨⟨hs, hwf⟩, hrow⟩ := h
  have hlt := hrow.lt
  have hcells := @World.ownsRow.cells _ _ _ _ _ _ _ hrow
  rcases hrow.2 with ⟨_, h0⟩ | ⟨g, cap, cur, rfl, hb, hg, _⟩
  · omega
  · refine ⟨g, cap, rfl, rfl, hb, (hlt g rfl).2, fun j hj o c hc => ?_⟩
    have ho : o < e.size := by rw [← (hwf j hj).1]; exact lt_of_some_list hc
    have := hcells (g := g) rfl (j * e.size + o) c (by unfold LE.flat; rw [flat_get e.n (fun j hj => (hwf j hj).1) j hj o ho]; exact hc)
    rwa [add_plain, Nat.zero_add] at this
theorem OwnB.slice {B : Nat} {w : World} {e : LE} {v : Value} (h : OwnB B w e v) : ∃ a cap, v = .slice a e.n cap := by
  rcases h.2.2 with ⟨rfl, h0⟩ | ⟨g, cap, cur, rfl, _⟩
  · exact ⟨none, 0, by rw [h0]⟩
  · exact ⟨_, cap, rfl⟩
theorem OwnB.cap {B : Nat} {w : World} {e : LE} {v : Value} (h : OwnB B w e v) : ∃ a cap, v = .slice a e.n cap ∧ e.n ≤ cap := by
  rcases h.2.2 with ⟨rfl, h0⟩ | ⟨g, cap, cur, rfl, _, _, hc, _⟩
  · exact ⟨none, 0, by rw [h0], by omega⟩
  · exact ⟨_, cap, rfl, hc⟩
theorem OwnB.inB {B : Nat} {w : World} {e : LE} {v : Value} (h : OwnB B w e v) : InB w.heap.size w e v := by
  obtain ⟨a, cap, hv, hle⟩ := h.cap
  refine ⟨h.1, a, cap, hv, hle, fun hn => ?_⟩
  obtain ⟨g, cap', hv', _, _, hg, hc⟩ := h.cell hn
  rw [hv] at hv'
  simp only [Value.slice.injEq] at hv'
  exact ⟨g, 0, hv'.1, hg, fun j hj o c hoc => by rw [Nat.zero_add]; exact hc j hj o c hoc⟩
theorem InB.more {B B' : Nat} {w : World} {e : LE} {v : Value} (h : InB B w e v) (hB : B ≤ B') : InB B' w e v := by
  obtain ⟨h1, a, cap, hv, hle, hc⟩ := h
  refine ⟨h1, a, cap, hv, hle, fun hn => ?_⟩
  obtain ⟨b, off, ha, hb, hcell⟩ := hc hn
  exact ⟨b, off, ha, by omega, hcell⟩
theorem InB.kept {B : Nat} {w w' : World} {e : LE} {v : Value} (h : InB B w e v) (hk : ∀ b, b < B → w'.heap[b]? = w.heap[b]?) : InB B w' e v := by
  obtain ⟨h1, a, cap, hv, hle, hc⟩ := h
  refine ⟨h1, a, cap, hv, hle, fun hn => ?_⟩
  obtain ⟨b, off, ha, hb, hcell⟩ := hc hn
  exact ⟨b, off, ha, hb, fun j hj o c hoc => (World.cell?_of_block (w := w) (a := ⟨b, _, none⟩) (hk b hb)).trans (hcell j hj o c hoc)⟩
theorem OwnB.kept {B : Nat} {w w' : World} {e : LE} {v : Value} {row : Option Nat} (h : OwnB B w e v) (hg : w.grownBy w' row) (hne : v.ownBlock = none ∨ v.ownBlock ≠ row) : OwnB B w' e v := ⟨h.1, h.2.kept hg hne⟩
theorem OwnB.more {B B' : Nat} {w : World} {e : LE} {v : Value} (h : OwnB B w e v) (hB : B' ≤ B) : OwnB B' w e v := by
  refine ⟨h.1, h.2.1, ?_⟩
  rcases h.2.2 with h | ⟨g, cap, cur, hv, hb, rest⟩
  · exact .inl h
  · exact .inr ⟨g, cap, cur, hv, by omega, rest⟩
theorem InB.sub {B : Nat} {w : World} {e : LE} {v : Value} (h : InB B w e v) (lo n : Nat) (hle : lo + n ≤ e.n) (o : Bool) : InB B w ⟨e.elT, e.size, n, fun j => e.el (lo + j), false, false, o⟩ (subOf v lo n e.size) := by
  obtain ⟨⟨h1, h2⟩, a, cap, rfl, hcap, hc⟩ := h
  refine ⟨⟨h1, fun j hj => h2 (lo + j) (by have : j < n := hj; omega)⟩, _, _, rfl, by show n ≤ cap - lo; omega, fun hn => ?_⟩
  have hn : 0 < n := hn
  obtain ⟨b, off, rfl, hb, hcell⟩ := hc (by omega)
  refine ⟨b, off + lo * e.size, ?_, hb, fun j hj o c hoc => ?_⟩
  · rw [if_neg (by omega)]
    simp [add_plain]
  · have hj : j < n := hj
    have := hcell (lo + j) (by omega) o c hoc
    rw [Nat.add_mul] at this
    rw [show off + lo * e.size + j * e.size + o = off + (lo * e.size + j * e.size) + o by omega]
    exact this
def LOk (B : Nat) (w : World) (e : LE) (v : Value) : Prop := bif e.own then OwnB B w e v else InB B w e v
def BOk (B : Nat) (ν : Nu) (w : World) (a : Nat) (b : Blk) : Prop := match b.kd with
  | .cells => w.heap[a]? = some (.cells (concB ν b.cells).toArray b.elem (0, 0))
  | .iter _ s pos => w.heap[a]? = some (.stringIter s pos)
  | .bld _ T e acc => Lib.IsBuilderF T e B a (Lib.strCells acc) w ∧ T ≠ e
  | .shut => w.heap[a]? = some (.cells (concB ν b.cells).toArray b.elem (b.cells.length, b.cells.length + 1))
  | .map _ l => MapL w a l
  | .mapV _ l => MapV w a l
theorem BOk.cells {B : Nat} {ν : Nu} {w : World} {a : Nat} {b : Blk} (h : BOk B ν w a b) (hk : b.kd = .cells) : w.heap[a]? = some (.cells (concB ν b.cells).toArray b.elem (0, 0)) := by
  unfold BOk at h; rw [hk] at h; exact h
theorem isC_kd {b : Blk} (h : isC b = true) : b.kd = .cells := by
  unfold isC at h
  split at h
  · assumption
  · cases h
theorem getB_some {s : St} {i : Nat} {b : Blk} (h : getB s i = some b) : s.own.b[i]? = some b ∧ b.kd = .cells := by
  unfold getB at h
  split at h
  · rename_i b' hb
    cases hc : isC b'
    · rw [hc] at h; cases h
    · rw [hc] at h
      simp only [cond_true, Option.some.injEq] at h
      subst h; exact ⟨hb, isC_kd hc⟩
  · cases h
theorem BOk.lt {B : Nat} {ν : Nu} {w : World} {a : Nat} {b : Blk} (h : BOk B ν w a b) : a < w.heap.size := by
  unfold BOk at h
  split at h
  · exact lt_of_some h
  · exact lt_of_some h
  · rcases h.1 with h | h
    · exact h.lt
    · exact h.lt
  · exact lt_of_some h
  · exact h.lt
  · exact h.lt
theorem BOk.congr {B : Nat} {ν ν' : Nu} {w : World} {a : Nat} {b : Blk} {n m : Nat} (h : BOk B ν w a b) (hok : ∀ c ∈ b.cells, okV n m c) (ha : Agree n m ν ν') : BOk B ν' w a b := by
  unfold BOk at *
  split at h
  · rw [← concB_congr hok ha]; exact h
  · exact h
  · exact h
  · rw [← concB_congr hok ha]; exact h
  · exact h
  · exact h
theorem bldAt_kept {T e : TypeId} {B a : Nat} {p : Value} {bs : List Value} {w w' : World} {row : Option Nat} (h : Lib.BuilderAtF T e B a p bs w) (hg : w.grownBy w' row) (hne : row ≠ some a) (hr : ∀ g cs fz, row = some g → w.heap[g]? ≠ some (.cells cs e fz)) : Lib.BuilderAtF T e B a p bs w' := by
  obtain ⟨hB, v, hb, hown, hn⟩ := h
  refine ⟨hB, v, (hg.block a (lt_of_some hb) (fun e => hne e.symm)).trans hb, hown.kept hg ?_, hn⟩
  rcases hown.2 with ⟨rfl, _⟩ | ⟨g, cap, cur, fz, rfl, _, hgg, _⟩
  · exact .inl rfl
  · exact .inr fun heq => hr g cur fz heq.symm hgg
theorem BOk.turn {B : Nat} {ν : Nu} {w w' : World} {a : Nat} {b : Blk} {row : Option Nat} (h : BOk B ν w a b) (hg : w.grownBy w' row) (hne : row ≠ some a)
    (hr : ∀ g cs fz fl T e acc, row = some g → b.kd = .bld fl T e acc → w.heap[g]? ≠ some (.cells cs e fz)) : BOk B ν w' a b := by
  have hlt := h.lt
  have hsame := hg.block a hlt (fun e => hne e.symm)
  unfold BOk at *
  split at h
  · rw [hsame]; exact h
  · rw [hsame]; exact h
  · rename_i fl T e acc hk
    refine ⟨?_, h.2⟩
    rcases h.1 with h | h
    · exact .inl (bldAt_kept h hg hne fun g cs fz e1 => hr g cs fz fl T e acc e1 hk)
    · exact .inr (bldAt_kept h hg hne fun g cs fz e1 => hr g cs fz fl T e acc e1 hk)
  · rw [hsame]; exact h
  · exact h.of_heap hsame
  · exact h.of_heap hsame
structure Base extends World where
  F : Nat → Option Obj
instance : Coe Base World := ⟨Base.toWorld⟩
def base0 (w : World) : Base := ⟨w, fun _ => none⟩
instance : Coe World Base := ⟨base0⟩
structure Fr (F : Nat → Option Obj) (ν : Nu) (own : Mem) (w : World) : Prop where
  here : ∀ b o, F b = some o → w.heap[b]? = some o
  offb : ∀ i, i < own.b.length → F (ν.l i) = none
  offl : ∀ (k : Nat) e, own.l[k]? = some e → e.dead = false → e.own = true → ∀ g, (ν.v k).ownBlock = some g → F g = none
theorem Fr.void (ν : Nu) (own : Mem) (w : World) : Fr (fun _ => none) ν own w := ⟨fun _ _ h => (by cases h), fun _ _ => rfl, fun _ _ _ _ _ _ _ => rfl⟩
theorem Fr.fresh {F : Nat → Option Obj} {ν : Nu} {own : Mem} {w : World} (h : Fr F ν own w) {b : Nat} (hb : w.heap.size ≤ b) : F b = Option.none := by
  cases e : F b with
  | none => rfl
  | some o =>
    have := lt_of_some (h.here b o e)
    omega
theorem Fr.below {F : Nat → Option Obj} {ν : Nu} {own : Mem} {w w' : World} (h : Fr F ν own w) (hb : Below w.heap.size w w') : Fr F ν own w' :=
  ⟨fun b o e => (hb.block b (lt_of_some (h.here b o e))).trans (h.here b o e), h.offb, h.offl⟩
structure WR (w0 : Base) (ν : Nu) (own : Mem) (mem : Bool) (w : World) : Prop where
  below : Below w0.heap.size w0.toWorld w
  blk : ∀ i b, own.b[i]? = some b → BOk w0.heap.size ν w (ν.l i) b ∧ w0.heap.size ≤ ν.l i
  okb : OkB own.b.length own.l.length own.b
  inj : ∀ i j, i < own.b.length → j < own.b.length → ν.l i = ν.l j → i = j
  lst : ∀ k e, own.l[k]? = some e → e.dead = false → LOk w0.heap.size w e (ν.v k)
  sep : ∀ k e, own.l[k]? = some e → e.dead = false → e.own = true → ∀ g, (ν.v k).ownBlock = some g → (∀ i, i < own.b.length → ν.l i ≠ g) ∧ ∀ k' e', own.l[k']? = some e' → e'.dead = false → e'.own = true → k' ≠ k → (ν.v k').ownBlock ≠ some g
  same : mem = false → w = w0.toWorld
  fr : Fr w0.F ν own w
structure TR (n : Nat) (ν : Nu) (s : St) (a : Act) : Prop where
  size : a.tmps.size = n
  tm : ∀ t, Is ν (look s.tmps t) (a.tmps.getD t undef)
  df : a.defers = []
structure Good (s : St) : Prop where
  lo : s.lo ≤ s.own.b.length
  llo : s.llo ≤ s.own.l.length
  ok : ∀ p ∈ s.tmps, okV s.own.b.length s.own.l.length p.2
  okb : OkB s.own.b.length s.own.l.length s.own.b
def Holds' (s : St) : Prop := ∀ p ∈ s.obl, p.1 = p.2
structure Le (s s' : St) : Prop where
  ext : ∀ p ∈ s.obl, p ∈ s'.obl
  len : s.own.b.length ≤ s'.own.b.length
  llen : s.own.l.length ≤ s'.own.l.length
  lo : s'.lo = s.lo
  llo : s'.llo = s.llo
  keep : ∀ i, i < s.lo → s'.own.b[i]? = s.own.b[i]?
  lkeep : ∀ i, i < s.llo → s'.own.l[i]? = s.own.l[i]?
theorem Le.refl (s : St) : Le s s := ⟨fun _ h => h, Nat.le_refl _, Nat.le_refl _, rfl, rfl, fun _ _ => rfl, fun _ _ => rfl⟩
theorem Le.trans {s t u : St} (h : Le s t) (k : Le t u) : Le s u :=
  ⟨fun p hp => k.ext p (h.ext p hp), Nat.le_trans h.len k.len, Nat.le_trans h.llen k.llen, k.lo.trans h.lo, k.llo.trans h.llo, fun i hi => (k.keep i (by rw [h.lo]; exact hi)).trans (h.keep i hi), fun i hi => (k.lkeep i (by rw [h.llo]; exact hi)).trans (h.lkeep i hi)⟩
theorem Le.holds {s s' : St} (h : Le s s') (k : Holds' s') : Holds' s := fun p hp => k p (h.ext p hp)
abbrev Glob (E : Env) (w : World) : Prop := GlobW E.glob w
structure GlobB (E : Env) (w0 : Base) : Prop where
  glob : GlobW E.glob w0.toWorld
  free : E.bt.isSome = true → w0.F = fun _ => none
theorem GlobB.below {E : Env} {w0 : Base} {w : World} (h : GlobB E w0) (hb : Below w0.heap.size w0.toWorld w) : Glob E w := GlobW.below h.glob hb
theorem GlobB.of {E : Env} {w : World} (h : Glob E w) : GlobB E (base0 w) := ⟨h, fun _ => rfl⟩
def CellsOk (w : World) : List (Sum Value LE) → List Value → Prop
  | [], [] => True
  | .inl x :: r, v :: vs => v = x ∧ CellsOk w r vs
  | .inr e :: r, v :: vs => InB w.heap.size w e v ∧ CellsOk w r vs
  | _, _ => False
def ArgsOk (w : World) : List XV → List Value → Prop
  | [], [] => True
  | .inl x :: r, v :: vs => v = x ∧ ArgsOk w r vs
  | .inr e :: r, v :: vs => InB w.heap.size w e v ∧ ArgsOk w r vs
  | .st cs :: r, v :: vs => (∃ us : List Value, v = .agg us.toArray ∧ CellsOk w cs us) ∧ ArgsOk w r vs
  | _, _ => False
def flatX : List XV → List (Sum Value LE)
  | [] => []
  | .inl x :: r => .inl x :: flatX r
  | .inr e :: r => .inr e :: flatX r
  | .st cs :: r => cs ++ flatX r
def Shape : List XV → List Value → List Value → Prop
  | [], vs, us => vs = [] ∧ us = []
  | .inl _ :: r, vs, us => ∃ v vs' us', vs = v :: vs' ∧ us = v :: us' ∧ Shape r vs' us'
  | .inr _ :: r, vs, us => ∃ v vs' us', vs = v :: vs' ∧ us = v :: us' ∧ Shape r vs' us'
  | .st cs :: r, vs, us => ∃ a vs' us', vs = .agg a.toArray :: vs' ∧ us = a ++ us' ∧ a.length = cs.length ∧ Shape r vs' us'
def CellsOut (B : Nat) (w : World) : List (Sum Value LE) → List Value → Prop
  | [], [] => True
  | .inl x :: r, v :: vs => v = x ∧ CellsOut B w r vs
  | .inr e :: r, v :: vs => (OwnB B w e v ∧ ∀ g, v.ownBlock = some g → ∀ u ∈ vs, u.ownBlock ≠ some g) ∧ CellsOut B w r vs
  | _, _ => False
def OutOk (B : Nat) (w : World) (res : List XV) (vs : List Value) : Prop := ∃ us, Shape res vs us ∧ CellsOut B w (flatX res) us
theorem outOk_v {B : Nat} {w : World} {x : Value} {vs : List Value} (h : OutOk B w [.inl x] vs) : vs = [x] := by
  obtain ⟨us, ⟨v, vs', us', rfl, rfl, rfl, rfl⟩, hc⟩ := h
  have : v = x := hc.1
  rw [this]
theorem outOk_l {B : Nat} {w : World} {e : LE} {vs : List Value} (h : OutOk B w [.inr e] vs) : ∃ u, vs = [u] ∧ OwnB B w e u := by
  obtain ⟨us, ⟨v, vs', us', rfl, rfl, rfl, rfl⟩, hc⟩ := h
  exact ⟨v, rfl, hc.1.1⟩
def outV (tup : Bool) (vs : List Value) : Value := bif tup then .tuple vs.toArray else vs.headD undef
def LRet (P : Program) (f : FuncId) (vals : List Value) (tup : Bool) (res : List XV) (w : World) : Prop :=
  Calls P f vals.toArray w fun e w' => ∃ vs, e = .returned (outV tup vs) ∧ OutOk w.heap.size w' res vs ∧ Below w.heap.size w w'
def BldOk (P : Program) (T e : TypeId) (op : BOp) (f : FuncId) : Prop := ∀ acc args v add, bopR op acc args = some (v, add, true) → ∀ B b w, Lib.IsBuilderF T e B b (Lib.strCells acc) w → fitB acc add = true → B ≤ w.heap.size →
  Calls P f ((Value.pointer (some ⟨b, 0, none⟩) :: args).toArray) w fun r w' => r = .returned v ∧ Lib.IsBuilderF T e B b (Lib.strCells (accB true acc add)) w' ∧ Below B w w' ∧ Lib.OthersKept e (some b) w w'
def IsL (ν : Nu) : List SV → List Value → Prop
  | [], [] => True
  | x :: r, v :: vs => Is ν x v ∧ IsL ν r vs
  | _, _ => False
def SemF (P : Program) (gl : Nat → Option (List Value)) (f : FuncId) (args : List SV) (own : Mem) (x : SV) (own' : Mem) : Prop := ∀ (w0 : Base), GlobW gl w0.toWorld → ∀ ν w vs, IsL ν args vs → WR w0 ν own true w →
  Calls P f vs.toArray w fun e w' => ∃ ν' v, Ag own ν ν' ∧ e = .returned v ∧ Is ν' x v ∧ WR w0 ν' own' true w'
def EffOk (P : Program) (gl : Nat → Option (List Value)) (eff : FuncId → Option (List SV → Mem → Option Eff)) : Prop := ∀ f g args own r, eff f = some g → g args own = some r → r.ok = true → SemF P gl f args own r.x (applyE own r)
theorem EffOk.none {P : Program} {gl : Nat → Option (List Value)} : EffOk P gl fun _ => none := fun _ _ _ _ _ h => by cases h
def CallOk (E : Env) : Prop := (∀ f args v, E.call f args = some v → ∀ w, Glob E w → Calls E.P f args w fun e w' => e = .returned v ∧ Below w.heap.size w w') ∧
  (∀ f args v, E.pcall f args = some (v, true) → ∀ w, Glob E w → Calls E.P f args.toArray w fun e w' => e = .returned v ∧ Below w.heap.size w w') ∧
  (∀ f args tup res, E.lcall f args = some (tup, res, true) → ∀ w vals, Glob E w → ArgsOk w args vals → LRet E.P f vals tup res w) ∧
  (∀ f op T e, E.bop f = some op → E.bt = some (T, e) → BldOk E.P T e op f) ∧
  (∀ f args v, E.acall f args = some (v, true) → ∀ w, Glob E w → Calls E.P f args.toArray w fun e w' => (∃ u, e = .returned (.tuple #[v, u])) ∧ Below w.heap.size w w') ∧
  EffOk E.P E.glob E.eff
theorem grownBy_of {w w' : World} (h : Below w.heap.size w w') (row : Option Nat) : w.grownBy w' row := ⟨h.os, h.tape, h.output, h.size, fun k hk _ => h.block k hk⟩
theorem LOk.kept {B : Nat} {w w' : World} {e : LE} {v : Value} {row : Option Nat} (h : LOk B w e v) (hg : w.grownBy w' row) (hB : B ≤ w.heap.size) (hr : ∀ g, row = some g → B ≤ g) (hne : e.own = true → v.ownBlock = none ∨ v.ownBlock ≠ row) : LOk B w' e v := by
  unfold LOk at *
  cases ho : e.own
  · rw [ho] at h
    exact InB.kept h fun b hb => hg.block b (by omega) fun e => by have := hr b e.symm; omega
  · rw [ho] at h
    exact OwnB.kept h hg (hne ho)
theorem WR.grown {w0 : Base} {ν : Nu} {own : Mem} {mem : Bool} {w w' : World} (h : WR w0 ν own mem w) (hb : Below w.heap.size w w') : WR w0 ν own true w' :=
  ⟨h.below.trans (hb.mono h.below.size), fun i b hi => by
    obtain ⟨h1, h2⟩ := h.blk i b hi
    exact ⟨h1.turn (grownBy_of hb none) (fun e => by cases e) (fun _ _ _ _ _ _ _ e => by cases e), h2⟩, h.okb, h.inj, fun k e hk hd => (h.lst k e hk hd).kept (grownBy_of hb none) h.below.size (fun _ e => by cases e) (fun _ => by cases (ν.v k).ownBlock <;> simp), h.sep, (fun h => by cases h), h.fr.below hb⟩
theorem WR.mem {w0 : Base} {ν : Nu} {own : Mem} {mem : Bool} {w : World} (h : WR w0 ν own mem w) : WR w0 ν own true w := ⟨h.below, h.blk, h.okb, h.inj, h.lst, h.sep, (fun h => by cases h), h.fr⟩
theorem WR.restrict {w0 : Base} {ν ν' : Nu} {own own' : Mem} {mem : Bool} {w : World} (h : WR w0 ν' own' mem w) (hok : OkB own.b.length own.l.length own.b) (ha : Ag own ν ν') (hl : own.b.length ≤ own'.b.length) (hk : ∀ i, i < own.b.length → own'.b[i]? = own.b[i]?) (hk' : ∀ i, i < own.l.length → own'.l[i]? = own.l[i]?) : WR w0 ν own true w :=
  ⟨h.below, fun i b hi => by
    have hlt := lt_of_some_list hi
    rw [ha.1 i hlt]
    obtain ⟨h1, h2⟩ := h.blk i b (by rw [hk i hlt]; exact hi)
    exact ⟨h1.congr (hok i b hi) ⟨fun i hi => (ha.1 i hi).symm, fun i hi => (ha.2 i hi).symm⟩, h2⟩, hok, fun i j hi hj he => h.inj i j (by omega) (by omega) (by rw [← ha.1 i hi, ← ha.1 j hj]; exact he),
   fun k e he hd => by
    have hlt := lt_of_some_list he
    rw [ha.2 k hlt]
    exact h.lst k e (by rw [hk' k hlt]; exact he) hd,
   fun k e he hd ho g hg => by
    have hlt := lt_of_some_list he
    rw [ha.2 k hlt] at hg
    obtain ⟨s1, s2⟩ := h.sep k e (by rw [hk' k hlt]; exact he) hd ho g hg
    refine ⟨fun i hi => by rw [ha.1 i hi]; exact s1 i (by omega), fun k' e' he' hd' ho' hne => ?_⟩
    have hlt' := lt_of_some_list he'
    rw [ha.2 k' hlt']
    exact s2 k' e' (by rw [hk' k' hlt']; exact he') hd' ho' hne, (fun h => by cases h), ⟨h.fr.here, fun i hi => by rw [ha.1 i hi]; exact h.fr.offb i (by omega), fun k e he hd ho g hg => by
    have hlt := lt_of_some_list he
    rw [ha.2 k hlt] at hg
    exact h.fr.offl k e (by rw [hk' k hlt]; exact he) hd ho g hg⟩⟩
theorem WR.drew {w0 : Base} {ν : Nu} {own : Mem} {mem : Bool} {w : World} (h : WR w0 ν own mem w) : WR w0 ν own true { w with drawn := w.drawn + 1 } :=
  h.grown ⟨rfl, rfl, rfl, Nat.le_refl _, fun _ _ => rfl⟩
theorem getL_some {s : St} {k : Nat} {e : LE} (h : getL s k = some e) : s.own.l[k]? = some e ∧ e.dead = false := by
  unfold getL at h
  split at h
  · rename_i e' he
    cases hd : e'.dead
    · rw [hd] at h; simp only [cond_false, Option.some.injEq] at h; subst h; exact ⟨he, hd⟩
    · rw [hd] at h; cases h
  · cases h
theorem WR.inB {w0 : Base} {ν : Nu} {own : Mem} {mem : Bool} {w : World} (h : WR w0 ν own mem w) {k : Nat} {e : LE} (he : own.l[k]? = some e) (hd : e.dead = false) : InB w.heap.size w e (ν.v k) := by
  have := h.lst k e he hd
  unfold LOk at this
  cases ho : e.own
  · rw [ho] at this; exact InB.more this h.below.size
  · rw [ho] at this; exact OwnB.inB this
theorem eval_is {n : Nat} {ν : Nu} {s : St} {a : Act} (h : TR n ν s a) (x : Operand) : Is ν (ev s x) (a.eval x) := by
  cases x with
  | tmp t => exact h.tm t
  | const v => rfl
  | global g => rfl
  | func f => rfl
theorem eval_ev {n : Nat} {ν : Nu} {s : St} {a : Act} (h : TR n ν s a) {x : Operand} {y : SV} (hx : ev s x = y) (hy : y ≠ .any) : a.eval x = conc ν y := by
  have := eval_is h x
  rw [hx] at this
  cases y <;> first | exact this | exact absurd rfl hy
theorem eval_v {n : Nat} {ν : Nu} {s : St} {a : Act} (h : TR n ν s a) {x : Operand} {fl : List Bool} {y : Value} (hx : ev s x = .inl (fl, y)) : a.eval x = y := eval_ev h hx (by simp)
theorem eval_own {n : Nat} {ν : Nu} {s : St} {a : Act} (h : TR n ν s a) {x : Operand} {i off : Nat} (hx : ev s x = .inr (i, off, none)) : a.eval x = .pointer (some ⟨ν.l i, off, none⟩) := eval_ev h hx (by simp)
theorem eval_sl {n : Nat} {ν : Nu} {s : St} {a : Act} (h : TR n ν s a) {x : Operand} {i off len cap : Nat} (hx : ev s x = .inr (i, off, some (len, cap))) : a.eval x = .slice (some ⟨ν.l i, off, none⟩) len cap := eval_ev h hx (by simp)
theorem eval_c {n : Nat} {ν : Nu} {s : St} {a : Act} (h : TR n ν s a) {x : Operand} {k : Nat} (hx : ev s x = .c k) : a.eval x = ν.v k := eval_ev h hx (by simp)
theorem eval_lp {n : Nat} {ν : Nu} {s : St} {a : Act} (h : TR n ν s a) {x : Operand} {k j o sz : Nat} (hx : ev s x = .lp k j o sz) : a.eval x = placeOf (ν.v k) (j * sz + o) := eval_ev h hx (by simp)
theorem eval_tp {n : Nat} {ν : Nu} {s : St} {a : Act} (h : TR n ν s a) {x : Operand} {l : List TV} (hx : ev s x = .tp l) : a.eval x = .tuple (l.map (concT ν)).toArray := eval_ev h hx (by simp)
theorem eval_ia {n : Nat} {ν : Nu} {s : St} {a : Act} (h : TR n ν s a) {x : Operand} {i off len : Nat} {m : Int} (hx : ev s x = .ia i off len m) : a.eval x = .pointer (some ⟨ν.l i, off + m.toNat, none⟩) := eval_ev h hx (by simp)
theorem eval_rp {n : Nat} {ν : Nu} {s : St} {a : Act} (h : TR n ν s a) {x : Operand} {v : Value} {e : LE} {j o : Nat} (hx : ev s x = .rp v e j o) : a.eval x = placeOf v (j * e.size + o) := eval_ev h hx (by simp)
theorem eval_mp {n : Nat} {ν : Nu} {s : St} {a : Act} (h : TR n ν s a) {x : Operand} {i : Nat} (hx : ev s x = .mp i) : a.eval x = .map (some (ν.l i)) := eval_ev h hx (by simp)
theorem eval_fn {n : Nat} {ν : Nu} {s : St} {a : Act} (h : TR n ν s a) {x : Operand} {f : FuncId} {fs cs : List CV} (hx : ev s x = .fn f fs cs) : a.eval x = .func (.func f) (fs.map (concC ν)).toArray (cs.map (concC ν)).toArray := eval_ev h hx (by simp)
theorem eval_rho {n : Nat} {ν : Nu} {s : St} {a : Act} (h : TR n ν s a) {x : Operand} (hx : isV (ev s x) = true) : a.eval x = rho s x := by
  unfold rho
  cases he : ev s x with
  | inl p => exact eval_v h he
  | _ => rw [he] at hx; cases hx
theorem ev_ok {s : St} (h : Good s) (x : Operand) : okV s.own.b.length s.own.l.length (ev s x) := by
  cases x with
  | tmp t => exact look_ok h.ok
  | _ => exact trivial
end Go.Proofs.YtiajbijbhhpllaaDoor.S2
namespace Go.Proofs.YtiajbijbhhpllaaDoor.S2
open Go Go.RowKit Sim
def Does (E : Env) (o : Oper) (a : Act) (C : World → Prop) (V : Value → Prop) (isCall : Bool) : Prop :=
  ∃ v, V v ∧ ((isCall = false ∧ ∀ w, C w → (execOp a.eval o).run E.P w = .ok (.value v) w) ∨
    (isCall = true ∧ ∃ f args, E.call f args = some v ∧ ∀ w, (execOp a.eval o).run E.P w = .ok (.enter f args) w))
theorem Does.val {E : Env} {o : Oper} {a : Act} {C : World → Prop} {ν : Nu} {x : SV} {v : Value} (hv : Is ν x v) (h : ∀ w, C w → (execOp a.eval o).run E.P w = .ok (.value v) w) : Does E o a C (Is ν x) false := ⟨v, hv, .inl ⟨rfl, h⟩⟩
theorem generic_st {E : Env} {o : Oper} {s : St} {x : SV} {c : Bool} {q : List (Bool × Bool)} (h : generic E o s = some (x, c, q)) : ∃ fl v, x = .inl (fl, v) := by
  unfold generic at h
  cases hb : (notSel o.op && o.op.operands.toList.all (fun x => isV (ev s x)))
  · rw [hb] at h; cases h
  · rw [hb] at h
    simp only [cond_true] at h
    cases hmk : isMkO o.op
    case true => rw [hmk] at h; cases h
    rw [hmk] at h
    simp only [cond_false] at h
    split at h
    · simp only [Option.some.injEq, Prod.mk.injEq] at h; exact ⟨_, _, h.1.symm⟩
    · split at h
      · simp only [Option.some.injEq, Prod.mk.injEq] at h; exact ⟨_, _, h.1.symm⟩
      · cases h
    · cases h
theorem generic_ok {E : Env} {o : Oper} {s : St} {x : SV} {c : Bool} {q : List (Bool × Bool)} {n : Nat} {ν : Nu} {a : Act} (C : World → Prop) (h : generic E o s = some (x, c, q)) (ht : TR n ν s a) : Does E o a C (Is ν x) c := by
  unfold generic at h
  cases hb : (notSel o.op && o.op.operands.toList.all (fun x => isV (ev s x)))
  · rw [hb] at h; cases h
  · rw [hb] at h
    simp only [cond_true] at h
    cases hmk : isMkO o.op
    case true => rw [hmk] at h; cases h
    rw [hmk] at h
    simp only [cond_false] at h
    simp only [Bool.and_eq_true, List.all_eq_true] at hb
    have he : execOp a.eval o = execOp (rho s) o := execOp_congr o (fun cs b e => by rw [e] at hb; exact absurd hb.1 (by simp [notSel])) fun y hy => eval_rho ht (hb.2 y (by simpa using hy))
    cases hp : evalPure E.P (execOp (rho s) o) with
    | none => rw [hp] at h; cases h
    | some q =>
      have hrun := evalPure_run _ hp
      rw [hp] at h
      cases q <;> simp only [Option.some.injEq, Prod.mk.injEq, reduceCtorEq] at h
      case value v =>
        obtain ⟨rfl, rfl, _⟩ := h
        exact .val (v := v) rfl fun w _ => by rw [he]; exact hrun w
      case enter f args =>
        cases hcall : E.call f args with
        | none => rw [hcall] at h; cases h
        | some v =>
          rw [hcall] at h
          simp only [Option.some.injEq, Prod.mk.injEq] at h
          obtain ⟨rfl, rfl, _⟩ := h
          exact ⟨v, rfl, .inr ⟨rfl, f, args, hcall, fun w => by rw [he]; exact hrun w⟩⟩
theorem arS_st {E : Env} {o : Oper} {s : St} {op : BinOp} {g : List Bool} {k j : IntKind} {a b : Int} {x : SV} {c : Bool} {q : List (Bool × Bool)} (h : arS E o s op g k j a b = some (x, c, q)) : ∃ fl v, x = .inl (fl, v) := by
  unfold arS at h
  simp only [cond_eq_ite] at h
  repeat' (first | exact generic_st h | (cases h; done) | split at h)
  all_goals (simp only [Option.some.injEq, Prod.mk.injEq] at h; exact ⟨_, _, h.1.symm⟩)
theorem equal_nil {P : Program} {t : TypeId} {F : Fn} {xs ys : Array Value} (h : ∃ a b c, P.underlying t = some (.func a b c)) (w : World) : (Op.equal t (.func F xs ys) .nilFunc).run P w = .ok false w := by
  obtain ⟨a, b, c, h⟩ := h
  have : ∀ d, (Op.equalIn (d + 1) t (.func F xs ys) .nilFunc).run P w = .ok false w := fun d => by simp [Op.equalIn, run_underlying h]
  exact this 9999
theorem nilFS_ok {E : Env} {o : Oper} {s : St} {op : BinOp} {t yt : TypeId} {y z : Operand} {x : SV} {c : Bool} {q : List (Bool × Bool)} {n : Nat} {ν : Nu} {a : Act} {f : FuncId} {fs cs : List CV} {g : List Bool} (C : World → Prop) (ho : o.op = .binOp op t y z yt) (h : nilFS E op t = some (x, c, q)) (ht : TR n ν s a) (hy : ev s y = .fn f fs cs) (hz : ev s z = .inl (g, .nilFunc)) : Does E o a C (Is ν x) c := by
  have he := eval_fn ht hy
  have he' := eval_v ht hz
  unfold nilFS at h
  split at h <;> first | (cases h; done) | skip
  all_goals
    rename_i hu
    simp only [Option.some.injEq, Prod.mk.injEq] at h
    obtain ⟨rfl, rfl, _⟩ := h
  · refine .val (v := .bool false) rfl fun w _ => ?_
    have hq := equal_nil (F := .func f) (xs := (fs.map (concC ν)).toArray) (ys := (cs.map (concC ν)).toArray) ⟨_, _, _, hu⟩ w
    simp [execOp, ho, he, he', binOp, eqGuard, hq]
  · refine .val (v := .bool true) rfl fun w _ => ?_
    have hq := equal_nil (F := .func f) (xs := (fs.map (concC ν)).toArray) (ys := (cs.map (concC ν)).toArray) ⟨_, _, _, hu⟩ w
    simp [execOp, ho, he, he', binOp, eqGuard, hq]
theorem nilFS_st {E : Env} {op : BinOp} {t : TypeId} {x : SV} {c : Bool} {q : List (Bool × Bool)} (h : nilFS E op t = some (x, c, q)) : ∃ fl v, x = .inl (fl, v) := by
  unfold nilFS at h
  split at h <;> first | (cases h; done) | (simp only [Option.some.injEq, Prod.mk.injEq] at h; exact ⟨_, _, h.1.symm⟩)
theorem binS_st {E : Env} {o : Oper} {s : St} {op : BinOp} {t : TypeId} {y z : Operand} {x : SV} {c : Bool} {q : List (Bool × Bool)} (h : binS E o s op t y z = some (x, c, q)) : ∃ fl v, x = .inl (fl, v) := by
  unfold binS at h
  simp only [cond_eq_ite] at h
  repeat' (first | exact generic_st h | exact arS_st h | exact nilFS_st h | (cases h; done) | split at h)
  all_goals (simp only [Option.some.injEq, Prod.mk.injEq] at h; exact ⟨_, _, h.1.symm⟩)
theorem wrap_in {x : Int} (h : inI x = true) : IntKind.i64.wrap x = x := by
  unfold inI at h
  simp only [decide_eq_true_eq] at h
  rw [IntKind.wrap_i64]; omega
theorem arS_ok {E : Env} {o : Oper} {s : St} {op : BinOp} {t yt : TypeId} {y z : Operand} {x : SV} {c : Bool} {q : List (Bool × Bool)} {n : Nat} {ν : Nu} {a : Act} {f g : List Bool} {k j : IntKind} {u v : Int} (C : World → Prop) (ho : o.op = .binOp op t y z yt)
    (h : arS E o s op g k j u v = some (x, c, q)) (hq : ∀ p ∈ q, p.1 = p.2) (ht : TR n ν s a) (hy : ev s y = .inl (f, .int k u)) (hz : ev s z = .inl (g, .int j v)) : Does E o a C (Is ν x) c := by
  have he := eval_v ht hy
  have he' := eval_v ht hz
  have sh : shOp op = true → 0 ≤ v → Does E o a C (Is ν (.inl ([true], .int k (arZ op k u v)))) false := fun hs h0 => by
    refine .val (v := .int k (arZ op k u v)) rfl fun w _ => ?_
    have hn : ¬ v < 0 := by omega
    rw [arZ_eq]
    cases op <;> first | (cases hs; done) | simp [execOp, ho, he, he', binOp, eqGuard, Op.shift, arF, hn]
  unfold arS at h
  cases hs : shOp op
  · rw [hs] at h
    simp only [cond_false] at h
    cases hb : (bitOp op && decide (k = j))
    · rw [hb] at h
      simp only [cond_false] at h
      cases hd : (divOp op && decide (k = j))
      · rw [hd] at h; exact generic_ok C h ht
      · rw [hd] at h
        simp only [cond_true] at h
        simp only [Bool.and_eq_true, decide_eq_true_eq] at hd
        obtain ⟨hd, rfl⟩ := hd
        have dv : v ≠ 0 → Does E o a C (Is ν (.inl ([true], .int k (arZ op k u v)))) false := fun h0 => by
          refine .val (v := .int k (arZ op k u v)) rfl fun w _ => ?_
          rw [arZ_eq]
          cases op <;> first | (cases hd; done) | simp [execOp, ho, he, he', binOp, eqGuard, Op.intDiv, arF, h0]
        cases hg : anyF g
        · rw [hg] at h
          simp only [cond_false] at h
          cases hz : decide (v ≠ 0)
          · rw [hz] at h; cases h
          · rw [hz] at h
            simp only [cond_true, Option.some.injEq, Prod.mk.injEq] at h
            obtain ⟨rfl, rfl, _⟩ := h
            exact dv (of_decide_eq_true hz)
        · rw [hg] at h
          simp only [cond_true, Option.some.injEq, Prod.mk.injEq] at h
          obtain ⟨rfl, rfl, rfl⟩ := h
          have h0 : decide (v ≠ 0) = true := hq (pre (decide (v ≠ 0)), true) (by simp)
          exact dv (of_decide_eq_true h0)
    · rw [hb] at h
      simp only [cond_true, Option.some.injEq, Prod.mk.injEq] at h
      obtain ⟨rfl, rfl, _⟩ := h
      simp only [Bool.and_eq_true, decide_eq_true_eq] at hb
      obtain ⟨hb, rfl⟩ := hb
      refine .val (v := .int k (arZ op k u v)) rfl fun w _ => ?_
      rw [arZ_eq]
      cases op <;> first | (cases hb; done) | simp [execOp, ho, he, he', binOp, eqGuard, Op.intArith, arF, intBits_and, intBits_or, intBits_xor, intBits_andNot]
  · rw [hs] at h
    simp only [cond_true] at h
    cases hg : anyF g
    · rw [hg] at h
      simp only [cond_false] at h
      cases hd : decide (0 ≤ v)
      · rw [hd] at h; cases h
      · rw [hd] at h
        simp only [cond_true, Option.some.injEq, Prod.mk.injEq] at h
        obtain ⟨rfl, rfl, _⟩ := h
        exact sh hs (of_decide_eq_true hd)
    · rw [hg] at h
      simp only [cond_true, Option.some.injEq, Prod.mk.injEq] at h
      obtain ⟨rfl, rfl, rfl⟩ := h
      have h0 : decide (0 ≤ v) = true := hq (pre (decide (0 ≤ v)), true) (by simp)
      exact sh hs (of_decide_eq_true h0)
theorem binS_ok {E : Env} {o : Oper} {s : St} {op : BinOp} {t yt : TypeId} {y z : Operand} {x : SV} {c : Bool} {q : List (Bool × Bool)} {n : Nat} {ν : Nu} {a : Act} (C : World → Prop) (ho : o.op = .binOp op t y z yt) (h : binS E o s op t y z = some (x, c, q)) (hq : ∀ p ∈ q, p.1 = p.2) (ht : TR n ν s a) : Does E o a C (Is ν x) c := by
  unfold binS at h
  split at h
  · rename_i f k a' g j b' hx hy
    split at h
    · rename_i r hk hr
      simp only [Option.some.injEq, Prod.mk.injEq] at h
      obtain ⟨rfl, rfl, _⟩ := h
      have hk := of_decide_eq_true hk
      subst hk
      have he := eval_v ht hx
      have he' := eval_v ht hy
      refine .val (v := .bool r) rfl fun w _ => ?_
      unfold cmpI at hr
      split at hr <;> first | (cases hr; done) | (simp only [Option.some.injEq] at hr; subst hr; simp [execOp, ho, he, he', binOp, eqGuard, Op.intCmp])
    · split at h
      · rename_i r hk hr
        simp only [Option.some.injEq, Prod.mk.injEq] at h
        obtain ⟨rfl, rfl, rfl⟩ := h
        simp only [Bool.and_eq_true, decide_eq_true_eq] at hk
        obtain ⟨⟨_, rfl⟩, rfl⟩ := hk
        have hi : inI r = true := hq (pre (inI r), true) (by simp)
        have he := eval_v ht hx
        have he' := eval_v ht hy
        refine .val (v := .int .i64 r) rfl fun w _ => ?_
        unfold arith at hr
        split at hr <;> first | (cases hr; done) | (simp only [Option.some.injEq] at hr; subst hr; have hw := wrap_in hi; simp [execOp, ho, he, he', binOp, eqGuard, Op.intArith, hw])
      · cases hop : (E.opq && (anyF f || anyF g))
        · rw [hop] at h; exact generic_ok C h ht
        · rw [hop] at h; exact arS_ok C ho h hq ht hx hy
  · rename_i f a' g b' hx hy
    split at h
    · rename_i r hr
      simp only [Option.some.injEq, Prod.mk.injEq] at h
      obtain ⟨rfl, rfl, _⟩ := h
      have he := eval_v ht hx
      have he' := eval_v ht hy
      refine .val (v := .bool r) rfl fun w _ => ?_
      have hq := eqTop_ok hr y z w
      simp only [Sem.run_bind] at hq
      simp only [execOp, ho, he, he', Sem.run_bind]
      rw [hq]; rfl
    · exact generic_ok C h ht
  · rename_i f a' g b' hx hy
    cases hb : (isAdd op && (anyF f || anyF g))
    · rw [hb] at h; exact generic_ok C h ht
    · rw [hb] at h
      simp only [cond_true, Option.some.injEq, Prod.mk.injEq] at h
      obtain ⟨rfl, rfl, rfl⟩ := h
      simp only [Bool.and_eq_true] at hb
      have hop : op = .add := by
        cases op <;> first | rfl | (simp [isAdd] at hb; done)
      subst hop
      have hf : fitS a' b' = true := hq (pre (fitS a' b'), true) (by simp)
      have hf : a'.size + b'.size ≤ 9223372036854775807 := by simpa [fitS] using hf
      have hmax : IntKind.i64.max = 9223372036854775807 := by decide
      have hn : ¬ (((a'.size + b'.size : Nat) : Int) > IntKind.i64.max) := by rw [hmax]; omega
      have he := eval_v ht hx
      have he' := eval_v ht hy
      refine .val (v := .string (catZ a' b')) rfl fun w _ => ?_
      rw [catZ_eq]
      simp only [execOp, ho, he, he', eqGuard, binOp, Op.stringOp, Sem.run_bind, Sem.run_pure, Result.andThen_ok, if_neg hn]
      rfl
  · rename_i f a' b' g hx hy
    exact nilFS_ok C ho h ht hx hy
  · exact generic_ok C h ht
theorem cvL_okC {n m : Nat} : ∀ {l : List SV} {r : List CV}, cvL l = some r → (∀ x ∈ l, okV n m x) → ∀ y ∈ r, okC n m y
  | [], r, h, _ => by simp only [cvL, Option.some.injEq] at h; subst h; intro y hy; cases hy
  | x :: l, r, h, hx => by
    unfold cvL at h
    split at h
    · rename_i y l' hy hl
      simp only [Option.some.injEq] at h
      subst h
      have h0 := hx x (List.mem_cons_self)
      intro z hz
      rcases List.mem_cons.mp hz with rfl | hz
      · unfold cvOf at hy
        split at hy <;> first | (cases hy; done) | (simp only [Option.some.injEq] at hy; subst hy; first | trivial | exact h0)
      · exact cvL_okC hl (fun x hx' => hx x (List.mem_cons_of_mem _ hx')) z hz
    · cases h
theorem cvL_conc {n : Nat} {ν : Nu} {s : St} {a : Act} (ht : TR n ν s a) : ∀ {l : List Operand} {r : List CV}, cvL (l.map (ev s)) = some r → l.map a.eval = r.map (concC ν)
  | [], r, h => by simp only [List.map_nil, cvL, Option.some.injEq] at h; subst h; rfl
  | x :: l, r, h => by
    rw [List.map_cons] at h
    unfold cvL at h
    split at h
    · rename_i y l' hy hl
      simp only [Option.some.injEq] at h
      subst h
      rw [List.map_cons, List.map_cons, cvL_conc ht hl]
      congr 1
      unfold cvOf at hy
      split at hy
      · rename_i fl v hx
        simp only [Option.some.injEq] at hy; subst hy
        exact eval_v ht hx
      · rename_i i off hx
        simp only [Option.some.injEq] at hy; subst hy
        exact eval_own ht hx
      · rename_i k hx
        simp only [Option.some.injEq] at hy; subst hy
        exact eval_c ht hx
      · cases hy
    · cases h
theorem cvL_concB {ν : Nu} : ∀ {l : List SV} {r : List CV}, cvL l = some r → concB ν l = r.map (concC ν)
  | [], r, h => by simp only [cvL, Option.some.injEq] at h; subst h; rfl
  | x :: l, r, h => by
    unfold cvL at h
    split at h
    · rename_i y l' hy hl
      simp only [Option.some.injEq] at h
      subst h
      show conc ν x :: concB ν l = _
      rw [cvL_concB hl, List.map_cons]
      congr 1
      unfold cvOf at hy
      split at hy <;> first | (cases hy; done) | (simp only [Option.some.injEq] at hy; subst hy; rfl)
    · cases h
theorem svC_conc (ν : Nu) (c : CV) : conc ν (svC c) = concC ν c := by cases c <;> rfl
theorem svC_okV1 {n m : Nat} {c : CV} (h : okC n m c) : okV n m (svC c) := by cases c <;> first | trivial | exact h
theorem svC_any (c : CV) : svC c ≠ .any := by cases c <;> simp [svC]
theorem plC_ok {ν : Nu} : ∀ {cs : List CV} {g : List Bool} {l : List Value}, plC cs = some (g, l) → cs.map (concC ν) = l
  | [], g, l, h => by simp only [plC, Option.some.injEq, Prod.mk.injEq] at h; rw [← h.2]; rfl
  | .v fl x :: r, g, l, h => by
    unfold plC at h
    split at h
    · rename_i g' l' hr
      simp only [Option.some.injEq, Prod.mk.injEq] at h
      rw [← h.2, List.map_cons, plC_ok hr]; rfl
    · cases h
  | .a _ _ :: _, g, l, h => by simp [plC] at h
  | .l _ :: _, g, l, h => by simp [plC] at h
theorem cutC_ok (cs : List CV) (ν : Nu) : cutC cs ≠ .any ∧ conc ν (cutC cs) = .agg (cs.map (concC ν)).toArray := by
  unfold cutC
  split
  · rename_i g l h
    exact ⟨by simp, by rw [plC_ok h]; rfl⟩
  · exact ⟨by simp, rfl⟩
theorem cutC_okV {n m : Nat} {cs : List CV} (h : ∀ x ∈ cs, okC n m x) : okV n m (cutC cs) := by
  unfold cutC
  split
  · trivial
  · exact h
theorem Is_of {ν : Nu} {x : SV} {v : Value} (hne : x ≠ .any) (h : v = conc ν x) : Is ν x v := by
  cases x <;> first | exact h | exact absurd rfl hne
theorem fieldS_ok {P : Program} {t : TypeId} {f : Nat} {cs : List CV} {y : SV} (h : fieldS P t f cs = some y) (ν : Nu) : y ≠ .any ∧ ∀ w, (Instr.field t (.agg (cs.map (concC ν)).toArray) f).run P w = .ok (conc ν y) w := by
  unfold fieldS at h
  split at h
  · rename_i fs hu
    split at h
    · rename_i fl hf
      split at h
      · rename_i d i hd hi
        have hagg : ∀ w, (isAgg fl.type).run P w = .ok (aggD d) w := fun w => by
          unfold isAgg
          rw [Sem.run_bind, run_underlying hd w]
          cases d <;> rfl
        have hsz : ∀ w, (sizeOf fl.type).run P w = .ok i.size w := fun w => by simp [sizeOf, typeInfo, hi]
        cases ha : aggD d
        · rw [ha] at h
          simp only [cond_false] at h
          split at h
          · rename_i c hc
            simp only [Option.some.injEq] at h
            subst h
            refine ⟨svC_any c, fun w => ?_⟩
            rw [svC_conc]
            simp [Instr.field, run_underlying hu w, hf, asAgg, part, hagg w, ha, hc]
          · cases h
        · rw [ha] at h
          simp only [cond_true] at h
          cases hb : Nat.ble (fl.offset + i.size) cs.length
          · rw [hb] at h; cases h
          · rw [hb] at h
            simp only [cond_true, Option.some.injEq] at h
            subst h
            obtain ⟨c1, c2⟩ := cutC_ok ((cs.drop fl.offset).take i.size) ν
            refine ⟨c1, fun w => ?_⟩
            have h1 : (cs.map (concC ν)).toArray.extract fl.offset (fl.offset + i.size) = (((cs.drop fl.offset).take i.size).map (concC ν)).toArray := by
              refine Array.ext' ?_
              rw [Array.toList_extract, List.extract_eq_take_drop]
              simp [List.map_take, List.map_drop]
            rw [c2, ← h1]
            simp [Instr.field, run_underlying hu w, hf, asAgg, part, hagg w, ha, hsz w]
      · cases h
    · cases h
  · cases h
theorem fieldS_okV {P : Program} {t : TypeId} {f : Nat} {cs : List CV} {y : SV} {n m : Nat} (h : fieldS P t f cs = some y) (hc : ∀ x ∈ cs, okC n m x) : okV n m y := by
  unfold fieldS at h
  simp only [cond_eq_ite] at h
  repeat' (first | (cases h; done) | split at h)
  all_goals (simp only [Option.some.injEq] at h; subst h)
  · exact cutC_okV fun x hx => hc x (List.mem_of_mem_drop (List.mem_of_mem_take hx))
  · exact svC_okV1 (hc _ (List.mem_of_getElem? ‹_›))
theorem mkCV_conc (ν : Nu) : ∀ (vs : List Value) (fl : List Bool), (mkCV vs fl).map (concC ν) = vs
  | [], _ => rfl
  | v :: r, [] => by show v :: (mkCV r []).map (concC ν) = _; rw [mkCV_conc ν r]
  | v :: r, b :: fl => by show v :: (mkCV r fl).map (concC ν) = _; rw [mkCV_conc ν r]
theorem mkCV_okC {n m : Nat} : ∀ (vs : List Value) (fl : List Bool), ∀ x ∈ mkCV vs fl, okC n m x
  | [], _, x, h => by cases h
  | v :: r, [], x, h => by
    rcases List.mem_cons.mp (show x ∈ .v [false] v :: mkCV r [] from h) with rfl | h
    · trivial
    · exact mkCV_okC r [] x h
  | v :: r, b :: fl, x, h => by
    rcases List.mem_cons.mp (show x ∈ .v [b] v :: mkCV r fl from h) with rfl | h
    · trivial
    · exact mkCV_okC r fl x h
theorem putC_conc (ν : Nu) : ∀ (v c : List CV) (o : Nat), (putC c o v).map (concC ν) = putL (c.map (concC ν)) o (v.map (concC ν))
  | [], c, o => rfl
  | x :: r, c, o => by
    show (putC (c.set o x) (o + 1) r).map (concC ν) = putL ((c.map (concC ν)).set o (concC ν x)) (o + 1) (r.map (concC ν))
    rw [putC_conc ν r, List.map_set]
theorem putC_okC {n m : Nat} : ∀ (v c : List CV) (o : Nat), (∀ x ∈ c, okC n m x) → (∀ x ∈ v, okC n m x) → ∀ x ∈ putC c o v, okC n m x
  | [], c, o, hc, _ => hc
  | y :: r, c, o, hc, hv => putC_okC r (c.set o y) (o + 1) (fun x hx => by
      rcases List.mem_or_eq_of_mem_set hx with h | h
      · exact hc x h
      · rw [h]; exact hv y List.mem_cons_self) fun x hx => hv x (List.mem_cons_of_mem _ hx)
theorem foldl_put : ∀ (vs : List Value) (k off : Nat) (cells : Array Value), ((vs.zipIdx k).foldl (fun cs p => cs.setIfInBounds (off + p.2) p.1) cells).toList = putL cells.toList (off + k) vs
  | [], k, off, cells => rfl
  | v :: r, k, off, cells => by
    show ((r.zipIdx (k + 1)).foldl _ (cells.setIfInBounds (off + k) v)).toList = putL (cells.toList.set (off + k) v) (off + k + 1) r
    rw [foldl_put r (k + 1) off, Array.toList_setIfInBounds, Nat.add_assoc]
def PartsRel (ν : Nu) : List (Nat × List CV) → List (Nat × Value) → Prop
  | [], [] => True
  | (i, c) :: r, (k, v) :: vs => i = k ∧ v.cells.toList = c.map (concC ν) ∧ PartsRel ν r vs
  | _, _ => False
theorem fillC_ok {ν : Nu} {place : Nat → Option (Nat × Nat)} : ∀ {parts : List (Nat × List CV)} {vals : List (Nat × Value)} {cs r : List CV}, fillC place cs parts = some r → PartsRel ν parts vals → Instr.fill place (cs.map (concC ν)).toArray vals = some (r.map (concC ν)).toArray
  | [], vals, cs, r, h, hr => by
    simp only [fillC, Option.some.injEq] at h
    subst h
    cases vals with
    | nil => rfl
    | cons v vs => exact hr.elim
  | (i, c) :: parts, vals, cs, r, h, hr => by
    cases vals with
    | nil => exact hr.elim
    | cons p vs =>
      obtain ⟨k, v⟩ := p
      obtain ⟨rfl, hv, hr⟩ := hr
      unfold fillC at h
      split at h
      · rename_i off size hp
        cases hb : (Nat.beq c.length size && Nat.ble (off + c.length) cs.length)
        · rw [hb] at h; cases h
        · rw [hb] at h
          simp only [cond_true] at h
          simp only [Bool.and_eq_true] at hb
          have h1 := Nat.eq_of_beq_eq_true hb.1
          have h2 := Nat.le_of_ble_eq_true hb.2
          have hs : v.cells.size = c.length := by rw [← Array.length_toList, hv, List.length_map]
          have ih := fillC_ok h hr
          unfold Instr.fill
          rw [hp]
          have hne : ¬ (v.cells.size ≠ size ∨ off + v.cells.size > (cs.map (concC ν)).toArray.size) := by simp [hs, h1]; omega
          simp only [Bool.or_eq_true, decide_eq_true_eq]
          rw [if_neg (by simpa using hne)]
          rw [← ih]
          congr 1
          refine Array.ext' ?_
          rw [← Array.foldl_toList, Array.toList_zipIdx]
          have := foldl_put v.cells.toList 0 off (cs.map (concC ν)).toArray
          rw [Nat.add_zero] at this
          refine Eq.trans this ?_
          rw [hv]
          exact (putC_conc ν c cs off).symm
      · cases h
theorem fillC_okC {n m : Nat} {place : Nat → Option (Nat × Nat)} : ∀ {parts : List (Nat × List CV)} {cs r : List CV}, fillC place cs parts = some r → (∀ x ∈ cs, okC n m x) → (∀ p ∈ parts, ∀ x ∈ p.2, okC n m x) → ∀ x ∈ r, okC n m x
  | [], cs, r, h, hc, _ => by simp only [fillC, Option.some.injEq] at h; subst h; exact hc
  | (i, c) :: parts, cs, r, h, hc, hp => by
    unfold fillC at h
    split at h
    · rename_i off size _
      cases hb : (Nat.beq c.length size && Nat.ble (off + c.length) cs.length)
      · rw [hb] at h; cases h
      · rw [hb] at h
        simp only [cond_true] at h
        exact fillC_okC h (putC_okC c cs off hc (hp (i, c) List.mem_cons_self)) fun p hp' => hp p (List.mem_cons_of_mem _ hp')
    · cases h
theorem partC_ok {s : St} {x : SV} {c : List CV} {w0 : Base} {w : World} {ν : Nu} {mem : Bool} {v : Value} (h : partC s x = some c) (hw : WR w0 ν s.own mem w) (hv : Is ν x v) : v.cells.toList = c.map (concC ν) := by
  unfold partC at h
  split at h
  · rename_i fl u
    simp only [Option.some.injEq] at h
    subst h
    rw [show v = u from hv, mkCV_conc]
  · simp only [Option.some.injEq] at h
    subst h
    rename_i i off
    rw [show v = .pointer (some ⟨ν.l i, off, none⟩) from hv]; rfl
  · rename_i k
    split at h
    · rename_i e he
      simp only [Option.some.injEq] at h
      subst h
      obtain ⟨hk, hd⟩ := getL_some he
      obtain ⟨_, a, cap, hva, _⟩ := hw.inB hk hd
      rw [show v = ν.v k from hv, hva]
      show [Value.slice a e.n cap] = [ν.v k]
      rw [hva]
    · cases h
  · rename_i cs
    simp only [Option.some.injEq] at h
    subst h
    rw [show v = .agg (cs.map (concC ν)).toArray from hv]; rfl
  · cases h
theorem partC_okC {s : St} {x : SV} {c : List CV} (h : partC s x = some c) {n m : Nat} (hx : okV n m x) : ∀ y ∈ c, okC n m y := by
  unfold partC at h
  split at h
  · simp only [Option.some.injEq] at h; subst h; exact mkCV_okC _ _
  · simp only [Option.some.injEq] at h
    subst h
    intro y hy
    rw [List.mem_singleton] at hy
    subst hy; exact hx
  · split at h
    · simp only [Option.some.injEq] at h
      subst h
      intro y hy
      rw [List.mem_singleton] at hy
      subst hy; exact hx
    · cases h
  · simp only [Option.some.injEq] at h; subst h; exact hx
  · cases h
theorem partsC_ok {s : St} {w0 : Base} {w : World} {ν : Nu} {mem : Bool} (hw : WR w0 ν s.own mem w) : ∀ {ps : List (Nat × SV)} {l : List (Nat × List CV)} {vals : List (Nat × Value)}, partsC s ps = some l → ps.length = vals.length → (∀ (j : Nat) p q, ps[j]? = some p → vals[j]? = some q → p.1 = q.1 ∧ Is ν p.2 q.2) → PartsRel ν l vals
  | [], l, vals, h, hl, _ => by
    simp only [partsC, Option.some.injEq] at h
    subst h
    cases vals with
    | nil => trivial
    | cons _ _ => simp at hl
  | (i, x) :: r, l, vals, h, hl, hi => by
    unfold partsC at h
    split at h
    · rename_i c l' hc hl'
      simp only [Option.some.injEq] at h
      subst h
      cases vals with
      | nil => simp at hl
      | cons q vs =>
        obtain ⟨k, v⟩ := q
        obtain ⟨h1, h2⟩ := hi 0 (i, x) (k, v) rfl rfl
        exact ⟨h1, partC_ok hc hw h2, partsC_ok hw hl' (by simpa using hl) fun j p q hp hq => hi (j + 1) p q (by simpa using hp) (by simpa using hq)⟩
    · cases h
theorem partsC_okC {s : St} {n m : Nat} : ∀ {ps : List (Nat × SV)} {l : List (Nat × List CV)}, partsC s ps = some l → (∀ p ∈ ps, okV n m p.2) → ∀ p ∈ l, ∀ y ∈ p.2, okC n m y
  | [], l, h, _ => by simp only [partsC, Option.some.injEq] at h; subst h; intro p hp; cases hp
  | (i, x) :: r, l, h, hi => by
    unfold partsC at h
    split at h
    · rename_i c l' hc hl'
      simp only [Option.some.injEq] at h
      subst h
      intro p hp
      rcases List.mem_cons.mp hp with rfl | hp
      · exact partC_okC hc (hi (i, x) List.mem_cons_self)
      · exact partsC_okC hl' (fun p hp => hi p (List.mem_cons_of_mem _ hp)) p hp
    · cases h
theorem placesB_ok {P : Program} : ∀ {fs : List Field} {l : List (Nat × Nat)}, placesB P fs = some l → fs.mapM (fun f => (P.info? f.type).map fun i => (f.offset, i.size)) = some l
  | [], l, h => by simp only [placesB, Option.some.injEq] at h; subst h; rfl
  | f :: r, l, h => by
    unfold placesB at h
    split at h
    · rename_i i l' hi hl
      simp only [Option.some.injEq] at h
      subst h
      simp [List.mapM_cons, hi, placesB_ok hl]
    · cases h
theorem buildS_ok {P : Program} {s : St} {t : TypeId} {parts : Array (Nat × Operand)} {x : SV} (h : buildS P s t (parts.toList.map fun p => (p.1, ev s p.2)) = some x) {w0 : Base} {w : World} {ν : Nu} {mem : Bool} {n : Nat} {a : Act} (ht : TR n ν s a) (hw : WR w0 ν s.own mem w) :
    x ≠ .any ∧ (Instr.build t (parts.map fun p => (p.1, a.eval p.2))).run P w = .ok (conc ν x) w := by
  unfold buildS at h
  split at h
  · rename_i fs i hu hi
    split at h
    · rename_i z pl l hz hpl hl
      split at h
      · rename_i cs hcs
        simp only [Option.some.injEq] at h
        subst h
        refine ⟨by simp, ?_⟩
        have hr : PartsRel ν l (parts.map fun p => (p.1, a.eval p.2)).toList := by
          refine partsC_ok hw hl (by simp) fun j p q hp hq => ?_
          rw [Array.toList_map] at hq
          rw [List.getElem?_map] at hp hq
          cases hj : parts.toList[j]? with
          | none => rw [hj] at hp; cases hp
          | some y =>
            rw [hj] at hp hq
            simp only [Option.map_some, Option.some.injEq] at hp hq
            subst hp hq
            exact ⟨rfl, eval_is ht y.2⟩
        have hf := fillC_ok hcs hr
        rw [mkCV_conc] at hf
        refine run_build w t _ _ ?_
        unfold Program.built
        simp only [hi, hu, hz, placesB_ok hpl]
        have e : (fun k => pl.toArray[k]?) = fun k => pl[k]? := funext fun k => List.getElem?_toArray
        rw [e]
        exact hf
      · cases h
    · cases h
  · cases h
theorem buildS_any {P : Program} {s : St} {t : TypeId} {parts : List (Nat × SV)} {x : SV} (h : buildS P s t parts = some x) : x ≠ .any := by
  unfold buildS at h
  repeat' (first | (cases h; done) | split at h)
  simp only [Option.some.injEq] at h
  subst h; simp
theorem buildS_okV {P : Program} {s : St} {t : TypeId} {parts : Array (Nat × Operand)} {x : SV} (h : buildS P s t (parts.toList.map fun p => (p.1, ev s p.2)) = some x) (hg : Good s) : okV s.own.b.length s.own.l.length x := by
  unfold buildS at h
  split at h
  · split at h
    · rename_i z pl l _ _ hl
      split at h
      · rename_i cs hcs
        simp only [Option.some.injEq] at h
        subst h
        refine fillC_okC hcs (mkCV_okC _ _) (partsC_okC hl fun p hp => ?_)
        obtain ⟨y, _, rfl⟩ := List.mem_map.mp hp
        exact ev_ok hg y.2
      · cases h
    · cases h
  · cases h
theorem mkFn_okV {n m : Nat} {f : FuncId} {fs cs : List CV} (h1 : ∀ x ∈ fs, okC n m x) (h2 : ∀ x ∈ cs, okC n m x) : okV n m (mkFn f fs cs) := by
  unfold mkFn
  split
  · trivial
  · exact ⟨h1, h2⟩
theorem mkFn_is {ν : Nu} {f : FuncId} {fs cs : List CV} : Is ν (mkFn f fs cs) (.func (.func f) (fs.map (concC ν)).toArray (cs.map (concC ν)).toArray) := by
  unfold mkFn
  split
  · rfl
  · rfl
theorem map_eval (a : Act) (az : Array Operand) : az.map a.eval = (az.toList.map a.eval).toArray := by rw [← Array.toArray_toList (xs := az.map a.eval), Array.toList_map]
theorem valsS_conc {ν : Nu} : ∀ {cs : List SV} {vs : List Value}, valsS cs = some vs → concB ν cs = vs
  | [], vs, h => by simp only [valsS, Option.some.injEq] at h; subst h; rfl
  | .inl (fl, v) :: r, vs, h => by
    unfold valsS at h
    split at h
    · rename_i l hl
      simp only [Option.some.injEq] at h
      subst h
      show v :: concB ν r = _
      rw [valsS_conc hl]
    · cases h
  | .inr _ :: _, vs, h => by simp [valsS] at h
  | .c _ :: _, vs, h => by simp [valsS] at h
  | .lp _ _ _ _ :: _, vs, h => by simp [valsS] at h
  | .tp _ :: _, vs, h => by simp [valsS] at h
  | .fn _ _ _ :: _, vs, h => by simp [valsS] at h
  | .sub _ _ _ _ :: _, vs, h => by simp [valsS] at h
  | .mp _ :: _, vs, h => by simp [valsS] at h
  | .ia _ _ _ _ :: _, vs, h => by simp [valsS] at h
  | .rp _ _ _ _ :: _, vs, h => by simp [valsS] at h
  | .any :: _, vs, h => by simp [valsS] at h
theorem loadS_ok {P : Program} {t : TypeId} {cs : List SV} {off : Nat} {x : SV} (h : loadS P t cs off = some x) (ν : Nu) : x ≠ .any ∧ loadB P t (concB ν cs) off = some (conc ν x) := by
  unfold loadS at h
  unfold loadB
  split at h
  · rename_i d i hu hi
    simp only [hu, hi]
    cases hd : aggD d
    · rw [hd] at h
      simp only [cond_false] at h ⊢
      split at h
      · cases h
      · rename_i hne
        refine ⟨fun e => hne (by rw [h, e]), ?_⟩
        unfold concB
        rw [List.getElem?_map, h]; rfl
    · rw [hd] at h
      simp only [cond_true] at h ⊢
      cases hb : Nat.ble (off + i.size) cs.length
      · rw [hb] at h; cases h
      · rw [hb] at h
        have hb' : Nat.ble (off + i.size) (concB ν cs).length = true := by unfold concB; rw [List.length_map]; exact hb
        simp only [cond_true, hb'] at h ⊢
        split at h
        · rename_i vs hvs
          simp only [Option.some.injEq] at h
          subst h
          refine ⟨by simp, ?_⟩
          have := valsS_conc (ν := ν) hvs
          unfold concB at this ⊢
          rw [← this, List.map_take, List.map_drop]; rfl
        · split at h
          · rename_i l hl
            simp only [Option.some.injEq] at h
            subst h
            refine ⟨by simp, ?_⟩
            have := cvL_concB (ν := ν) hl
            unfold concB at this ⊢
            show _ = some (Value.agg (l.map (concC ν)).toArray)
            rw [← this, List.map_take, List.map_drop]
          · cases h
  · cases h
theorem loadS_okV {P : Program} {t : TypeId} {cs : List SV} {off : Nat} {x : SV} {n m : Nat} (h : loadS P t cs off = some x) (hc : ∀ c ∈ cs, okV n m c) : okV n m x := by
  unfold loadS at h
  split at h
  · rename_i d i hu hi
    cases hd : aggD d
    · rw [hd] at h
      simp only [cond_false] at h
      split at h
      · cases h
      · exact hc x (List.mem_of_getElem? h)
    · rw [hd] at h
      simp only [cond_true] at h
      cases hb : Nat.ble (off + i.size) cs.length
      · rw [hb] at h; cases h
      · rw [hb] at h
        simp only [cond_true] at h
        split at h
        · simp only [Option.some.injEq] at h
          subst h; trivial
        · split at h
          · rename_i l hl
            simp only [Option.some.injEq] at h
            subst h
            exact cvL_okC hl fun x hx => hc x (List.mem_of_mem_drop (List.mem_of_mem_take hx))
          · cases h
  · cases h
theorem simRO0_st {E : Env} {o : Oper} {s : St} {x : SV} {c : Bool} {q : List (Bool × Bool)} (h : simRO0 E o s = some (x, c, q)) (hg : Good s) : okV s.own.b.length s.own.l.length x := by
  have gen : ∀ {x : SV} {c : Bool} {q : List (Bool × Bool)}, generic E o s = some (x, c, q) → okV s.own.b.length s.own.l.length x := fun h => by
    obtain ⟨_, _, rfl⟩ := generic_st h; trivial
  have gbin : ∀ {x : SV} {c : Bool} {q : List (Bool × Bool)} {op : BinOp} {t : TypeId} {y z : Operand}, binS E o s op t y z = some (x, c, q) → okV s.own.b.length s.own.l.length x := fun h => by
    obtain ⟨_, _, rfl⟩ := binS_st h; trivial
  have ev1 : ∀ {y : Operand} {i off : Nat}, ev s y = .inr (i, off, none) → i < s.own.b.length := fun {y i off} hy => by
    have := ev_ok hg y; rw [hy] at this; exact this
  have ev2 : ∀ {y : Operand} {i off l k : Nat}, ev s y = .inr (i, off, some (l, k)) → i < s.own.b.length := fun {y i off l k} hy => by
    have := ev_ok hg y; rw [hy] at this; exact this
  have ev3 : ∀ {y : Operand} {k : Nat}, ev s y = .c k → k < s.own.l.length := fun {y k} hy => by
    have := ev_ok hg y; rw [hy] at this; exact this
  have ev4 : ∀ {y : Operand} {k j p z : Nat}, ev s y = .lp k j p z → k < s.own.l.length := fun {y k j p z} hy => by
    have := ev_ok hg y; rw [hy] at this; exact this
  have ev5 : ∀ {y : Operand} {l : List TV} {i k : Nat}, ev s y = .tp l → l[i]? = some (.inr k) → k < s.own.l.length := fun {y l i k} hy hl => by
    have := ev_ok hg y; rw [hy] at this; exact this _ (List.mem_of_getElem? hl)
  have ev8 : ∀ {y : Operand} {l : List TV} {i : Nat} {cs : List CV}, ev s y = .tp l → l[i]? = some (.st cs) → okV s.own.b.length s.own.l.length (.st cs) := fun {y l i cs} hy hl => by
    have := ev_ok hg y; rw [hy] at this; exact this _ (List.mem_of_getElem? hl)
  have ev9 : ∀ {y : Operand} {t : TypeId} {f : Nat} {cs : List CV} {z : SV}, ev s y = .st cs → fieldS E.P t f cs = some z → okV s.own.b.length s.own.l.length z := fun {y t f cs z} hy hf => by
    have := ev_ok hg y; rw [hy] at this; exact fieldS_okV hf this
  have ev6 : ∀ {y z : Array Operand} {fs cs : List CV} {f : FuncId}, cvL (y.toList.map (ev s)) = some fs → cvL (z.toList.map (ev s)) = some cs → okV s.own.b.length s.own.l.length (mkFn f fs cs) := fun {y z fs cs f} h1 h2 =>
    mkFn_okV (cvL_okC h1 fun x hx => by obtain ⟨x0, _, rfl⟩ := List.mem_map.mp hx; exact ev_ok hg x0) (cvL_okC h2 fun x hx => by obtain ⟨x0, _, rfl⟩ := List.mem_map.mp hx; exact ev_ok hg x0)
  have ev7 : ∀ {i : Nat} {b : Blk} {t : TypeId} {off : Nat} {y : SV}, getB s i = some b → loadS E.P t b.cells off = some y → okV s.own.b.length s.own.l.length y := fun {i b t off y} hb hl => loadS_okV hl (hg.okb i b (getB_some hb).1)
  unfold simRO0 at h
  simp only [cond_eq_ite] at h
  repeat' (first | exact gen h | exact gbin h | (cases h; done) | split at h)
  all_goals (simp only [Option.some.injEq, Prod.mk.injEq] at h; try obtain ⟨rfl, _⟩ := h)
  all_goals first | exact True.intro | exact ev_ok hg _ | exact ev1 ‹_› | exact ev2 ‹_› | exact ev3 ‹_› | exact ev4 ‹_› | exact ev5 ‹_› ‹_› | exact ev6 ‹_› ‹_› | exact ev7 ‹_› ‹_› | exact ev8 ‹_› ‹_› | exact ev9 ‹_› ‹_› | exact gen ‹_› | exact buildS_okV ‹_› hg | skip
theorem simCV_some {E : Env} {o : Oper} {s : St} {x : SV} {c : Bool} {q : List (Bool × Bool)} (h : simCV E o s = some (x, c, q)) : ∃ t t' y k e et, o.op = .convert t t' y ∧ ev s y = .c k ∧ getL s k = some e ∧ E.P.underlying t = some (.slice et) ∧ E.P.underlying t' = some .string ∧ E.P.underlying et = some (.int .u8) ∧ e.size = 1 ∧
    x = .inl ([true], .string (strZ e.n e.el)) ∧ c = false ∧ q = [(pre (bytesB e.n e.el), true)] := by
  unfold simCV at h
  split at h
  · rename_i t t' y ho
    split at h
    · rename_i k hy
      split at h
      · rename_i e et hk hu hu'
        split at h
        · rename_i he
          cases hb : Nat.beq e.size 1
          · rw [hb] at h; cases h
          · rw [hb] at h
            simp only [cond_true, Option.some.injEq, Prod.mk.injEq] at h
            exact ⟨t, t', y, k, e, et, ho, hy, hk, hu, hu', he, Nat.eq_of_beq_eq_true hb, h.1.symm, h.2.1.symm, h.2.2.symm⟩
        · cases h
      · cases h
    · cases h
  · cases h
theorem simMV_some {E : Env} {o : Oper} {s : St} {x : SV} {c : Bool} {q : List (Bool × Bool)} (h : simMV E o s = some (x, c, q)) : ∃ t y ix ok i f a b kt et T l ti z u, o.op = .lookup t y ix ok ∧ ev s y = .mp i ∧ ev s ix = .inl (f, .int .i64 a) ∧ s.own.b[i]? = some b ∧ E.P.underlying t = some (.map kt et) ∧ b.kd = .map T l ∧ E.P.underlying kt = some (.int .i64) ∧ E.P.info? et = some ti ∧ ti.zero = some z ∧ formV z (lokZ l a z) = some u ∧
    x = (bif ok then .tp [.inl (List.replicate z.cells.size true, u), .inl ([true], .bool (hasZ l a))] else .inl (List.replicate z.cells.size true, u)) ∧ c = false ∧ q = [(pre (fmtB l z), true), (pre (inI a), true)] := by
  unfold simMV at h
  split at h
  · rename_i t y ix ok ho
    split at h
    · rename_i i f a hy hix
      split at h
      · rename_i b kt et hb hu
        split at h
        · rename_i T l ti hkd hk hi
          split at h
          · rename_i z hz
            split at h
            · rename_i u hv
              refine ⟨t, y, ix, ok, i, f, a, b, kt, et, T, l, ti, z, u, ho, hy, hix, hb, hu, hkd, hk, hi, hz, hv, ?_⟩
              cases ok
              · simp only [cond_false, Option.some.injEq, Prod.mk.injEq] at h ⊢
                exact ⟨h.1.symm, h.2.1.symm, h.2.2.symm⟩
              · simp only [cond_true, Option.some.injEq, Prod.mk.injEq] at h ⊢
                exact ⟨h.1.symm, h.2.1.symm, h.2.2.symm⟩
            · cases h
          · cases h
        · cases h
      · cases h
    · cases h
  · cases h
theorem simMW_some {E : Env} {o : Oper} {s : St} {x : SV} {c : Bool} {q : List (Bool × Bool)} (h : simMW E o s = some (x, c, q)) : ∃ t y ix ok i f a b kt et T l ti z u, o.op = .lookup t y ix ok ∧ ev s y = .mp i ∧ ev s ix = .inl (f, a) ∧ s.own.b[i]? = some b ∧ E.P.underlying t = some (.map kt et) ∧ b.kd = .mapV T l ∧ E.P.info? et = some ti ∧ ti.zero = some z ∧ formV z (lokV l a z) = some u ∧
    x = (bif ok then .tp [.inl (List.replicate z.cells.size true, u), .inl ([true], .bool (hasV l a))] else .inl (List.replicate z.cells.size true, u)) ∧ c = false ∧ q = [(pre (fmtVB l z), true), (pre (keysB E.P kt a l), true)] := by
  unfold simMW at h
  split at h
  · rename_i t y ix ok ho
    split at h
    · rename_i i f a hy hix
      split at h
      · rename_i b kt et hb hu
        split at h
        · rename_i T l ti hkd hi
          split at h
          · rename_i z hz
            split at h
            · rename_i u hv
              refine ⟨t, y, ix, ok, i, f, a, b, kt, et, T, l, ti, z, u, ho, hy, hix, hb, hu, hkd, hi, hz, hv, ?_⟩
              cases ok
              · simp only [cond_false, Option.some.injEq, Prod.mk.injEq] at h ⊢
                exact ⟨h.1.symm, h.2.1.symm, h.2.2.symm⟩
              · simp only [cond_true, Option.some.injEq, Prod.mk.injEq] at h ⊢
                exact ⟨h.1.symm, h.2.1.symm, h.2.2.symm⟩
            · cases h
          · cases h
        · cases h
      · cases h
    · cases h
  · cases h
theorem intsAt_ok {k : IntKind} {ν : Nu} : ∀ {cs : List SV} {xs : List Int}, intsAt k cs = some xs → concB ν cs = xs.map (Value.int k)
  | [], xs, h => by simp only [intsAt, Option.some.injEq] at h; subst h; rfl
  | .inl (_, v) :: r, xs, h => by
    unfold intsAt at h
    split at h
    · rename_i e; cases e
    · rename_i j x r' e
      cases e
      cases hk : decide (j = k)
      · rw [hk] at h; cases h
      · rw [hk] at h
        simp only [cond_true] at h
        split at h
        · rename_i l hl
          simp only [Option.some.injEq] at h
          subst h
          have := of_decide_eq_true hk
          subst this
          show Value.int j x :: concB ν _ = _
          rw [intsAt_ok hl]; rfl
        · cases h
    · cases h
  | .inr _ :: _, xs, h => by simp [intsAt] at h
  | .c _ :: _, xs, h => by simp [intsAt] at h
  | .lp _ _ _ _ :: _, xs, h => by simp [intsAt] at h
  | .tp _ :: _, xs, h => by simp [intsAt] at h
  | .fn _ _ _ :: _, xs, h => by simp [intsAt] at h
  | .sub _ _ _ _ :: _, xs, h => by simp [intsAt] at h
  | .st _ :: _, xs, h => by simp [intsAt] at h
  | .mp _ :: _, xs, h => by simp [intsAt] at h
  | .ia _ _ _ _ :: _, xs, h => by simp [intsAt] at h
  | .rp _ _ _ _ :: _, xs, h => by simp [intsAt] at h
  | .any :: _, xs, h => by simp [intsAt] at h
theorem intsV_ok {k : IntKind} : ∀ {vs : List Value} {xs : List Int}, intsV k vs = some xs → vs = xs.map (Value.int k)
  | [], xs, h => by simp only [intsV, Option.some.injEq] at h; subst h; rfl
  | v :: r, xs, h => by
    unfold intsV at h
    split at h
    · rename_i e; cases e
    · rename_i j x r' e
      cases e
      cases hk : decide (j = k)
      · rw [hk] at h; cases h
      · rw [hk] at h
        simp only [cond_true] at h
        split at h
        · rename_i l hl
          simp only [Option.some.injEq] at h
          subst h
          have := of_decide_eq_true hk
          subst this
          rw [List.map_cons, intsV_ok hl]
        · cases h
    · cases h
inductive IV (E : Env) (o : Oper) (s : St) : SV → Bool → List (Bool × Bool) → Prop
  | at_ {t x ix i off g k n len e ti} (ho : o.op = .indexAddr t x ix) (hx : ev s x = .inr (i, off, none)) (hix : ev s ix = .inl (g, .int k n)) (hu : E.P.underlying t = some (.array len e)) (hi : E.P.info? e = some ti) (hs : ti.size = 1) : IV E o s (.ia i off len n) false [(pre (idxB n len), true)]
  | get {t x i off len n b k ti xs} (ho : o.op = .load t x) (hx : ev s x = .ia i off len n) (hb : getB s i = some b) (hu : E.P.underlying t = some (.int k)) (hi : E.P.info? t = some ti) (hxs : intsAt k ((b.cells.drop off).take len) = some xs) (hl : xs.length = len) : IV E o s (.inl ([true], .int k (pickZ xs n))) false [(pre (idxB n len), true)]
  | gat {t x ix f gl off g k n len e ti} (ho : o.op = .indexAddr t x ix) (hx : ev s x = .inl (f, .pointer (some ⟨gl, off, none⟩))) (hix : ev s ix = .inl (g, .int k n)) (hu : E.P.underlying t = some (.array len e)) (hi : E.P.info? e = some ti) (hs : ti.size = 1) : IV E o s (.inl ([true], .pointer (some ⟨gl, off + n.toNat, none⟩))) false [(pre (idxB n len), true)]
  | gget {t x f g o' cs k ti xs} (ho : o.op = .load t x) (hx : ev s x = .inl (f, .pointer (some ⟨g, o', none⟩))) (hg : E.glob g = some cs) (hu : E.P.underlying t = some (.int k)) (hi : E.P.info? t = some ti) (hxs : intsV k cs = some xs) : IV E o s (.inl ([true], .int k (pickZ xs (o' : Nat)))) false [(pre (decide (o' < xs.length)), true)]
  | eq {t x y yt f g a b len e k ti xs ys} (ho : o.op = .binOp .eql t x y yt) (hx : ev s x = .inl (f, .agg a)) (hy : ev s y = .inl (g, .agg b)) (hu : E.P.underlying t = some (.array len e)) (he : E.P.underlying e = some (.int k)) (hi : E.P.info? e = some ti) (hxs : intsV k a.toList = some xs) (hys : intsV k b.toList = some ys) (hlx : xs.length = len) (hly : ys.length = len) (hs : ti.size = 1) (hg : E.P.eqGuardType E.P.depth t = false) : IV E o s (.inl ([true], .bool (eqLZ xs ys))) false []
theorem simIV_some {E : Env} {o : Oper} {s : St} {x : SV} {c : Bool} {q : List (Bool × Bool)} (h : simIV E o s = some (x, c, q)) : IV E o s x c q := by
  unfold simIV at h
  split at h
  · rename_i t x' ix ho
    cases hm : E.mks
    · rw [hm] at h; cases h
    · rw [hm] at h
      simp only [cond_true] at h
      split at h
      · rename_i i off g k n len e hx hix hu
        cases hf : anyF g
        · rw [hf] at h; cases h
        · rw [hf] at h
          simp only [cond_true] at h
          split at h
          · rename_i ti hi
            cases hs : Nat.beq ti.size 1
            · rw [hs] at h; cases h
            · rw [hs] at h
              simp only [cond_true, Option.some.injEq, Prod.mk.injEq] at h
              obtain ⟨rfl, rfl, rfl⟩ := h
              exact .at_ ho hx hix hu hi (Nat.eq_of_beq_eq_true hs)
          · cases h
      · rename_i f gl off g k n len e hx hix hu
        cases hf : anyF g
        · rw [hf] at h; cases h
        · rw [hf] at h
          simp only [cond_true] at h
          split at h
          · rename_i ti hi
            cases hs : Nat.beq ti.size 1
            · rw [hs] at h; cases h
            · rw [hs] at h
              simp only [cond_true, Option.some.injEq, Prod.mk.injEq] at h
              obtain ⟨rfl, rfl, rfl⟩ := h
              exact .gat ho hx hix hu hi (Nat.eq_of_beq_eq_true hs)
          · cases h
      · cases h
  · rename_i t x' ho
    split at h
    · rename_i i off len n hx
      split at h
      · rename_i b k ti hb hu hi
        split at h
        · rename_i xs hxs
          cases hs : Nat.beq xs.length len
          · rw [hs] at h; cases h
          · rw [hs] at h
            simp only [cond_true, Option.some.injEq, Prod.mk.injEq] at h
            obtain ⟨rfl, rfl, rfl⟩ := h
            exact .get ho hx hb hu hi hxs (Nat.eq_of_beq_eq_true hs)
        · cases h
      · cases h
    · rename_i f g o' hx
      cases hm : (E.mks && anyF f)
      · rw [hm] at h; cases h
      · rw [hm] at h
        simp only [cond_true] at h
        split at h
        · rename_i cs k ti hg hu hi
          split at h
          · rename_i xs hxs
            simp only [Option.some.injEq, Prod.mk.injEq] at h
            obtain ⟨rfl, rfl, rfl⟩ := h
            exact .gget ho hx hg hu hi hxs
          · cases h
        · cases h
    · cases h
  · rename_i t x' y' yt ho
    cases hm : E.mks
    · rw [hm] at h; cases h
    · rw [hm] at h
      simp only [cond_true] at h
      split at h
      · rename_i f a g b len e hx hy hu
        split at h
        · rename_i k ti he hi
          split at h
          · rename_i xs ys hxs hys
            cases hs : (Nat.beq xs.length len && Nat.beq ys.length len && Nat.beq ti.size 1 && !E.P.eqGuardType E.P.depth t)
            · rw [hs] at h; cases h
            · rw [hs] at h
              simp only [cond_true, Option.some.injEq, Prod.mk.injEq] at h
              obtain ⟨rfl, rfl, rfl⟩ := h
              simp only [Bool.and_eq_true, Bool.not_eq_true'] at hs
              exact .eq ho hx hy hu he hi hxs hys (Nat.eq_of_beq_eq_true hs.1.1.1) (Nat.eq_of_beq_eq_true hs.1.1.2) (Nat.eq_of_beq_eq_true hs.1.2) hs.2
          · cases h
        · cases h
      · cases h
  · cases h
inductive RPIs (E : Env) (o : Oper) (s : St) : SV → List (Bool × Bool) → Prop where
  | at_ {t x ix f v g k n R et i} (ho : o.op = .indexAddr t x ix) (hR : E.rowT t = some R) (hx : ev s x = .inl (f, v)) (hix : ev s ix = .inl (g, .int k n)) (hu : E.P.underlying t = some (.slice et)) (hi : E.P.info? et = some i) (hs : i.size = (R v).size) : RPIs E o s (.rp v (R v) n.toNat 0) [(pre (rowB E.glob v (R v)), true), (pre (idxB n (R v).n), true)]
  | fld {t x f v e j p p'} (ho : o.op = .fieldAddr t x f) (hx : ev s x = .rp v e j p) (hf : fieldB E.P t f p = some p') : RPIs E o s (.rp v e j p') [(pre (rowB E.glob v e), true), (pre (decide (j < e.n)), true)]
  | get {t x v e j p u} (ho : o.op = .load t x) (hx : ev s x = .rp v e j p) (hl : loadB E.P t (e.el j) p = some u) : RPIs E o s (.inl (List.replicate u.cells.size true, u)) [(pre (rowB E.glob v e), true), (pre (decide (j < e.n)), true)]
  | len {az ats x t f v R et} (ho : o.op = .call { callee := .builtin .len, args := az, argTypes := ats }) (h1 : az.toList = [x]) (h2 : ats.toList = [t]) (hR : E.rowT t = some R) (hx : ev s x = .inl (f, v)) (hu : E.P.underlying t = some (.slice et)) : RPIs E o s (.inl ([true], .int .i64 (R v).n)) [(pre (rowB E.glob v (R v)), true)]
theorem simRP_some {E : Env} {o : Oper} {s : St} {x : SV} {c : Bool} {q : List (Bool × Bool)} (h : simRP E o s = some (x, c, q)) : c = false ∧ RPIs E o s x q := by
  unfold simRP at h
  split at h
  · rename_i t x' ix ho
    split at h
    · rename_i R f v g k n hR hx hix
      split at h
      · rename_i et hu
        split at h
        · rename_i i hi
          cases hs : Nat.beq i.size (R v).size
          · rw [hs] at h; cases h
          · rw [hs] at h
            simp only [cond_true, Option.some.injEq, Prod.mk.injEq] at h
            obtain ⟨rfl, rfl, rfl⟩ := h
            exact ⟨rfl, .at_ ho hR hx hix hu hi (Nat.eq_of_beq_eq_true hs)⟩
        · cases h
      · cases h
    · cases h
  · rename_i t x' f ho
    split at h
    · rename_i v e j p hx
      split at h
      · rename_i p' hf
        simp only [Option.some.injEq, Prod.mk.injEq] at h
        obtain ⟨rfl, rfl, rfl⟩ := h
        exact ⟨rfl, .fld ho hx hf⟩
      · cases h
    · cases h
  · rename_i t x' ho
    split at h
    · rename_i v e j p hx
      split at h
      · rename_i u hl
        simp only [Option.some.injEq, Prod.mk.injEq] at h
        obtain ⟨rfl, rfl, rfl⟩ := h
        exact ⟨rfl, .get ho hx hl⟩
      · cases h
    · cases h
  · rename_i az ats ho
    split at h
    · rename_i x' t h1 h2
      split at h
      · rename_i R f v et hR hx hu
        simp only [Option.some.injEq, Prod.mk.injEq] at h
        obtain ⟨rfl, rfl, rfl⟩ := h
        exact ⟨rfl, .len ho h1 h2 hR hx hu⟩
      · cases h
    · cases h
  · cases h
theorem simRO1_st {E : Env} {o : Oper} {s : St} {x : SV} {c : Bool} {q : List (Bool × Bool)} (h : simRO1 E o s = some (x, c, q)) (hg : Good s) : okV s.own.b.length s.own.l.length x := by
  unfold simRO1 at h
  split at h
  · rename_i r hr
    obtain ⟨_, _, _, _, _, _, _, _, _, _, _, _, _, rfl, _⟩ := simCV_some (hr.trans h)
    trivial
  · split at h
    · rename_i r hr
      obtain ⟨_, _, _, ok, _, _, _, _, _, _, _, _, _, _, _, _, _, _, _, _, _, _, _, _, _, rfl, _⟩ := simMV_some (hr.trans h)
      cases ok
      · trivial
      · intro p hp
        rcases List.mem_cons.mp hp with rfl | hp
        · trivial
        · rcases List.mem_cons.mp hp with rfl | hp
          · trivial
          · cases hp
    · split at h
      · rename_i r hr
        cases simIV_some (hr.trans h) with
        | @at_ t x' ix i off g k n len e ti ho hx hix hu hi hs => have := ev_ok hg x'; rw [hx] at this; exact this
        | get => trivial
        | gat => trivial
        | gget => trivial
        | eq => trivial
      · split at h
        · rename_i r hr
          cases (simRP_some (hr.trans h)).2 with
          | at_ => trivial
          | fld => trivial
          | get => trivial
          | len => trivial
        · exact simRO0_st h hg
theorem simRO_st {E : Env} {o : Oper} {s : St} {x : SV} {c : Bool} {q : List (Bool × Bool)} (h : simRO E o s = some (x, c, q)) (hg : Good s) : okV s.own.b.length s.own.l.length x := by
  unfold simRO at h
  split at h
  · rename_i r hr
    obtain ⟨_, _, _, ok, _, _, _, _, _, _, _, _, _, _, _, _, _, _, _, _, _, _, _, _, rfl, _⟩ := simMW_some (hr.trans h)
    cases ok
    · trivial
    · intro p hp
      rcases List.mem_cons.mp hp with rfl | hp
      · trivial
      · rcases List.mem_cons.mp hp with rfl | hp
        · trivial
        · cases hp
  · exact simRO1_st h hg
theorem fieldB_add {P : Program} {t : TypeId} {f o o' : Nat} (h : fieldB P t f o = some o') (c : Nat) : fieldB P t f (c + o) = some (c + o') := by
  unfold fieldB at *
  split at h
  · split at h
    · split at h
      · rename_i i hi
        cases hb : Nat.beq i.size 0
        · rw [hb] at h
          simp only [cond_false, Option.some.injEq] at h
          simp only [hb, cond_false, Option.some.injEq]
          omega
        · rw [hb] at h; cases h
      · cases h
    · cases h
  · cases h
theorem run_loadAt {P : Program} {t : TypeId} {cs : List Value} {off b o : Nat} {v : Value} (h : loadB P t cs off = some v) (w : World)
    (hc : ∀ (i : Nat) u, cs[i]? = some u → w.cell? ⟨b, o + i, none⟩ = some u) : (loadVar t ⟨b, o + off, none⟩).run P w = .ok v w := by
  unfold loadB at h
  cases hu : P.underlying t with
  | none => simp [hu] at h
  | some d =>
    cases hi : P.info? t with
    | none => simp [hu, hi] at h
    | some i =>
      simp only [hu, hi] at h
      have hagg : (isAgg t).run P w = .ok (aggD d) w := by
        unfold isAgg
        rw [Sem.run_bind, run_underlying hu w]
        cases d <;> rfl
      cases hd : aggD d
      · rw [hd] at h
        simp only [cond_false] at h
        have h0 := hc off v h
        simp only [loadVar, Sem.run_bind, hagg, hd, Result.andThen_ok, Bool.false_eq_true, if_false, run_load, h0]
      · rw [hd] at h
        simp only [cond_true] at h
        cases hb : Nat.ble (off + i.size) cs.length
        · rw [hb] at h; cases h
        · rw [hb] at h
          simp only [cond_true, Option.some.injEq] at h
          have hle : off + i.size ≤ cs.length := Nat.le_of_ble_eq_true hb
          have hl : ((cs.drop off).take i.size).length = i.size := by simp; omega
          have hrun := run_loadCells_list (P := P) w ⟨b, o + off, none⟩ ((cs.drop off).take i.size) (fun j u hj => by
            rw [add_plain, Nat.add_assoc]
            refine hc _ _ ?_
            rw [List.getElem?_take] at hj
            split at hj
            · rw [List.getElem?_drop] at hj; exact hj
            · cases hj)
          rw [hl] at hrun
          simp only [loadVar, Sem.run_bind, hagg, hd, Result.andThen_ok, if_true, sizeOf, typeInfo, run_program, hi, Sem.run_pure, hrun, h]
theorem boundS_ok {n : Nat} {ν : Nu} {s : St} {a : Act} (ht : TR n ν s a) {d : Nat} {x : Option Operand} {l : Int} (h : boundS s d x = some l) : (x = none ∧ l = d) ∨ ∃ k, x.map a.eval = some (.int k l) := by
  unfold boundS at h
  split at h
  · simp only [Option.some.injEq] at h
    exact .inl ⟨rfl, h.symm⟩
  · split at h
    · rename_i y fl k m he
      simp only [Option.some.injEq] at h
      subst h
      exact .inr ⟨k, by rw [Option.map_some, eval_v ht he]⟩
    · cases h
theorem run_sliceE {P : Program} {t : TypeId} {i : TypeInfo} (hu : P.underlying t = some (.slice (P.elem t))) (hi : P.info? (P.elem t) = some i) {a : Option Addr} {len cap : Nat} {lo hi' : Option Value} {l h : Int} (hl : (lo = none ∧ l = 0) ∨ ∃ k, lo = some (.int k l)) (hh : (hi' = none ∧ h = len) ∨ ∃ k, hi' = some (.int k h))
    (h0 : 0 ≤ l) (h1 : l ≤ h) (h2 : h ≤ len) (hc : len ≤ cap) (w : World) : (Instr.sliceAt t (.slice a len cap) lo hi' none).run P w = .ok (subOf (.slice a len cap) l.toNat (h.toNat - l.toNat) i.size) w := by
  have hs : (sizeOf (P.elem t)).run P w = .ok i.size w := by simp [sizeOf, typeInfo, hi]
  rw [run_sliceAt_slice (h := hu)]
  rcases hl with ⟨rfl, rfl⟩ | ⟨kl, rfl⟩
  · rcases hh with ⟨rfl, rfl⟩ | ⟨kh, rfl⟩
    · rw [run_slice_all (ht := hu), hs]; simp [Result.andThen, sliced, subOf]
    · rw [run_slice_h (ht := hu) (h0 := by omega) (h2 := by omega), hs]; simp [Result.andThen, sliced, subOf]
  · rcases hh with ⟨rfl, rfl⟩ | ⟨kh, rfl⟩
    · rw [run_slice_l (ht := hu) (h0 := h0) (h1 := by omega), hs]; simp [Result.andThen, sliced, subOf]
    · rw [run_slice_lh (ht := hu) (h0 := h0) (h1 := h1) (h2 := by omega), hs]; simp [Result.andThen, sliced, subOf]
theorem run_sliceS {P : Program} {t : TypeId} (hu : P.underlying t = some .string) {sa : ByteArray} {lo hi' : Option Value} {l h : Int} (hl : (lo = none ∧ l = 0) ∨ ∃ k, lo = some (.int k l)) (hh : (hi' = none ∧ h = sa.size) ∨ ∃ k, hi' = some (.int k h))
    (h0 : 0 ≤ l) (h1 : l ≤ h) (h2 : h ≤ sa.size) (w : World) : (Instr.sliceAt t (.string sa) lo hi' none).run P w = .ok (.string (sa.extract l.toNat h.toNat)) w := by
  rw [run_sliceAt_string (h := hu)]
  have e : (h.toNat : Int) = h := Int.toNat_of_nonneg (by omega)
  rcases hl with ⟨rfl, rfl⟩ | ⟨kl, rfl⟩
  · rcases hh with ⟨rfl, rfl⟩ | ⟨kh, rfl⟩
    · simp [Instr.slice, run_underlying hu, Instr.sliceBounds]
    · simp [Instr.slice, run_underlying hu, Instr.sliceBounds, run_sliceBound, show 0 ≤ h by omega, h2]
  · rcases hh with ⟨rfl, rfl⟩ | ⟨kh, rfl⟩
    · simp [Instr.slice, run_underlying hu, Instr.sliceBounds, run_sliceBound, h0, h1]
    · simp [Instr.slice, run_underlying hu, Instr.sliceBounds, run_sliceBound, h0, show 0 ≤ h by omega, h2, e, h1]
theorem simRO0_ok {E : Env} {o : Oper} {s : St} {x : SV} {c : Bool} {q : List (Bool × Bool)} {n : Nat} {ν : Nu} {a : Act} {w0 : Base} {mem : Bool} (h : simRO0 E o s = some (x, c, q)) (hq : ∀ p ∈ q, p.1 = p.2) (ht : TR n ν s a) (hG : GlobB E w0) (hV : okV s.own.b.length s.own.l.length x) : Does E o a (fun w => WR w0 ν s.own mem w) (Is ν x) c := by
  unfold simRO0 at h
  split at h
  · rename_i x' ho
    simp only [Option.some.injEq, Prod.mk.injEq] at h
    obtain ⟨rfl, rfl, _⟩ := h
    exact .val (eval_is ht x') fun w _ => by simp only [execOp, ho, Sem.run_pure]
  · rename_i x' ho
    simp only [Option.some.injEq, Prod.mk.injEq] at h
    obtain ⟨rfl, rfl, _⟩ := h
    exact .val (eval_is ht x') fun w _ => by simp only [execOp, ho, Sem.run_pure]
  · rename_i x' ho
    split at h
    · rename_i i off hx
      simp only [Option.some.injEq, Prod.mk.injEq] at h
      obtain ⟨rfl, rfl, _⟩ := h
      have he := eval_own ht hx
      exact .val (v := .pointer (some ⟨ν.l i, off, none⟩)) rfl fun w _ => by simp only [execOp, ho, he, Sem.run_pure]
    · exact generic_ok _ h ht
    · cases h
  · rename_i t x' ho
    split at h
    · rename_i i off hx
      split at h
      · rename_i b hb
        split at h
        · rename_i v hv
          simp only [Option.some.injEq, Prod.mk.injEq] at h
          obtain ⟨rfl, rfl, _⟩ := h
          have he := eval_own ht hx
          obtain ⟨hne, hv⟩ := loadS_ok hv ν
          refine .val (v := conc ν v) (by cases v <;> first | rfl | exact absurd rfl hne) fun w hw => ?_
          have hl := run_loadB (g := ν.l i) hv w (cells_of_blk ((hw.blk i b (getB_some hb).1).1.cells (getB_some hb).2))
          simp only [execOp, ho, he, Instr.loadAt, Instr.sureAddr, Sem.run_bind, Sem.run_pure, Result.andThen_ok, hl]
        · cases h
      · cases h
    · rename_i fl g off hx
      split at h
      · rename_i cs hg
        split at h
        · rename_i v hv
          simp only [Option.some.injEq, Prod.mk.injEq] at h
          obtain ⟨rfl, rfl, _⟩ := h
          have he := eval_v ht hx
          refine .val (v := v) rfl fun w hw => ?_
          have hl := run_loadB (g := g) hv w (hG.below hw.below g cs hg).1
          simp only [execOp, ho, he, Instr.loadAt, Instr.sureAddr, Sem.run_bind, Sem.run_pure, Result.andThen_ok, hl]
        · cases h
      · cases h
    · rename_i k j p sz hx
      split at h
      · rename_i e he0
        obtain ⟨hk, hd⟩ := getL_some he0
        split at h
        · rename_i v hv
          cases hb : Nat.beq sz e.size
          · rw [hb] at h; cases h
          · rw [hb] at h
            simp only [cond_true, Option.some.injEq, Prod.mk.injEq] at h
            obtain ⟨rfl, rfl, rfl⟩ := h
            have hsz := Nat.eq_of_beq_eq_true hb
            have hlt : j < e.n := by have := hq (pre (decide (j < e.n)), true) (by simp); simpa [pre] using this
            have he := eval_lp ht hx
            refine .val (v := v) rfl fun w hw => ?_
            obtain ⟨_, aa, cap, hv0, _, hc0⟩ := hw.inB hk hd
            obtain ⟨b, off, rfl, hb, hc⟩ := hc0 (by omega)
            rw [hv0] at he
            have hl := run_loadAt (b := b) (o := off + j * e.size) hv w (hc j hlt)
            simp only [placeOf, hsz, ← Nat.add_assoc] at he
            simp only [execOp, ho, he, Instr.loadAt, Instr.sureAddr, Sem.run_bind, Sem.run_pure, Result.andThen_ok, hl]
        · cases h
      · cases h
    · cases h
  · rename_i t x' f ho
    split at h
    · rename_i i off hx
      split at h
      · rename_i off' hf
        simp only [Option.some.injEq, Prod.mk.injEq] at h
        obtain ⟨rfl, rfl, _⟩ := h
        have he := eval_own ht hx
        refine .val (v := .pointer (some ⟨ν.l i, off', none⟩)) rfl fun w hw => ?_
        have hl := run_fieldB (g := ν.l i) hf w
        simp only [execOp, ho, he, Sem.run_bind, hl, Result.andThen_ok, Sem.run_pure]
      · cases h
    · rename_i k j p sz hx
      split at h
      · rename_i e o' he0 hf
        obtain ⟨hk, hd⟩ := getL_some he0
        cases hb : Nat.beq sz e.size
        · rw [hb] at h; cases h
        · rw [hb] at h
          simp only [cond_true, Option.some.injEq, Prod.mk.injEq] at h
          obtain ⟨rfl, rfl, rfl⟩ := h
          have hlt : j < e.n := by have := hq (pre (decide (j < e.n)), true) (by simp); simpa [pre] using this
          have he := eval_lp ht hx
          refine ⟨placeOf (ν.v k) (j * sz + o'), rfl, .inl ⟨rfl, fun w hw => ?_⟩⟩
          obtain ⟨_, aa, cap, hv0, _, hc0⟩ := hw.inB hk hd
          obtain ⟨b, off, rfl, hb, hc⟩ := hc0 (by omega)
          rw [hv0] at he ⊢
          simp only [placeOf, ← Nat.add_assoc] at he ⊢
          have hl := run_fieldB (g := b) (fieldB_add hf (off + j * sz)) w
          simp only [execOp, ho, he, Sem.run_bind, hl, Result.andThen_ok, Sem.run_pure]
      · cases h
    · exact generic_ok _ h ht
    · cases h
  · rename_i t x' ix ho
    split at h
    · rename_i i off fl k m hx hix
      split at h
      · rename_i len e hu
        split at h
        · rename_i off' hf
          simp only [Option.some.injEq, Prod.mk.injEq] at h
          obtain ⟨rfl, rfl, _⟩ := h
          have he := eval_own ht hx
          have hei := eval_v ht hix
          refine .val (v := .pointer (some ⟨ν.l i, off', none⟩)) rfl fun w hw => ?_
          have hl := (run_elemB (P := E.P) (t := t) (g := ν.l i) (k := k) hf w).1 hu
          simp only [execOp, ho, he, hei, Sem.run_bind, hl, Result.andThen_ok, Sem.run_pure]
        · cases h
      · cases h
    · rename_i i off len cap fl k m hx hix
      split at h
      · rename_i e hu
        split at h
        · rename_i off' hf
          simp only [Option.some.injEq, Prod.mk.injEq] at h
          obtain ⟨rfl, rfl, _⟩ := h
          have he := eval_sl ht hx
          have hei := eval_v ht hix
          refine .val (v := .pointer (some ⟨ν.l i, off', none⟩)) rfl fun w hw => ?_
          have hl := (run_elemB (P := E.P) (t := t) (g := ν.l i) (k := k) hf w).2 hu cap
          simp only [execOp, ho, he, hei, Sem.run_bind, hl, Result.andThen_ok, Sem.run_pure]
        · cases h
      · cases h
    · rename_i k fl kk m hx hix
      split at h
      · rename_i e et he0 hu
        obtain ⟨hk, hd⟩ := getL_some he0
        split at h
        · rename_i i hi
          cases hb : Nat.beq i.size e.size
          · rw [hb] at h; cases h
          · rw [hb] at h
            simp only [cond_true, Option.some.injEq, Prod.mk.injEq] at h
            obtain ⟨rfl, rfl, rfl⟩ := h
            have hsz := Nat.eq_of_beq_eq_true hb
            have hidx : 0 ≤ m ∧ m < (e.n : Int) := by have := hq (pre (idxB m e.n), true) (by simp); simpa [pre, idxB] using this
            have he := eval_c ht hx
            have hei := eval_v ht hix
            refine ⟨placeOf (ν.v k) (m.toNat * e.size + 0), rfl, .inl ⟨rfl, fun w hw => ?_⟩⟩
            obtain ⟨_, aa, cap, hv0, _, hc0⟩ := hw.inB hk hd
            obtain ⟨b, off, rfl, hb, hc⟩ := hc0 (by omega)
            rw [hv0] at he ⊢
            have hel : elemB E.P et e.n off m = some (off + m.toNat * i.size) := by unfold elemB; rw [hi]; simp only [decide_eq_true hidx, cond_true]
            have hl := (run_elemB (P := E.P) (t := t) (g := b) (k := kk) hel w).2 hu cap
            simp only [placeOf, Nat.add_zero, ← hsz]
            simp only [execOp, ho, he, hei, Sem.run_bind, hl, Result.andThen_ok, Sem.run_pure]
        · cases h
      · cases h
    · exact generic_ok _ h ht
  · rename_i op t x' y' yt ho
    exact binS_ok _ ho h hq ht
  · rename_i t parts ho
    split at h
    · rename_i fl v c' hgen
      simp only [Option.some.injEq, Prod.mk.injEq] at h
      obtain ⟨rfl, rfl, _⟩ := h
      exact generic_ok (x := .inl (fl, v)) _ hgen ht
    · rename_i r hne hgen
      simp only [Option.some.injEq] at h
      subst h
      exact generic_ok _ hgen ht
    · split at h
      · rename_i y hy
        simp only [Option.some.injEq, Prod.mk.injEq] at h
        obtain ⟨rfl, rfl, _⟩ := h
        refine ⟨conc ν y, Is_of (buildS_any hy) rfl, .inl ⟨rfl, fun w hw => ?_⟩⟩
        have hr : (Instr.build t (parts.map fun (i, x) => (i, a.eval x))).run E.P w = .ok (conc ν y) w := (buildS_ok hy ht hw).2
        simp only [execOp, ho, Sem.run_bind, hr, Result.andThen_ok, Sem.run_pure]
      · cases h
  · rename_i t x' f ho
    split at h
    · rename_i cs hx
      split at h
      · rename_i y hf
        simp only [Option.some.injEq, Prod.mk.injEq] at h
        obtain ⟨rfl, rfl, _⟩ := h
        obtain ⟨hne, hr⟩ := fieldS_ok hf ν
        have he : a.eval x' = .agg (cs.map (concC ν)).toArray := eval_ev ht hx (by simp)
        refine ⟨conc ν y, Is_of hne rfl, .inl ⟨rfl, fun w hw => ?_⟩⟩
        simp only [execOp, ho, he, Sem.run_bind, hr w, Result.andThen_ok, Sem.run_pure]
      · cases h
    · split at h
      · rename_i fl v c' hgen
        simp only [Option.some.injEq, Prod.mk.injEq] at h
        obtain ⟨rfl, rfl, _⟩ := h
        exact generic_ok (x := .inl (fl, v)) _ hgen ht
      · exact generic_ok _ h ht
  · rename_i x' i ho
    split at h
    · rename_i l hx
      have he := eval_tp ht hx
      split at h
      · rename_i p hl
        simp only [Option.some.injEq, Prod.mk.injEq] at h
        obtain ⟨rfl, rfl, _⟩ := h
        refine .val (v := p.2) rfl fun w hw => ?_
        have : ((l.map (concT ν)).toArray)[i]? = some p.2 := by simp [hl, concT]
        simp [execOp, ho, he, Instr.extract, this]
      · rename_i k hl
        simp only [Option.some.injEq, Prod.mk.injEq] at h
        obtain ⟨rfl, rfl, _⟩ := h
        refine .val (v := ν.v k) rfl fun w hw => ?_
        have : ((l.map (concT ν)).toArray)[i]? = some (ν.v k) := by simp [hl, concT]
        simp [execOp, ho, he, Instr.extract, this]
      · rename_i cs hl
        simp only [Option.some.injEq, Prod.mk.injEq] at h
        obtain ⟨rfl, rfl, _⟩ := h
        refine .val (v := .agg (cs.map (concC ν)).toArray) rfl fun w hw => ?_
        have : ((l.map (concT ν)).toArray)[i]? = some (.agg (cs.map (concC ν)).toArray) := by simp [hl, concT]
        simp [execOp, ho, he, Instr.extract, this]
      · cases h
    · exact generic_ok _ h ht
  · rename_i t x' lo hi' ho
    split at h
    · rename_i k hx
      split at h
      · rename_i e et he0 hu
        obtain ⟨hk, hd⟩ := getL_some he0
        split at h
        · rename_i i l hh hi hl hhh
          cases hb : (Nat.beq i.size e.size && Nat.beq (E.P.elem t) et)
          · rw [hb] at h; cases h
          · rw [hb] at h
            simp only [cond_true, Option.some.injEq, Prod.mk.injEq] at h
            obtain ⟨rfl, rfl, rfl⟩ := h
            simp only [Bool.and_eq_true] at hb
            have hsz := Nat.eq_of_beq_eq_true hb.1
            have het := Nat.eq_of_beq_eq_true hb.2
            subst het
            have hr : 0 ≤ l ∧ l ≤ hh ∧ hh ≤ (e.n : Int) := by have := hq (pre (decide (0 ≤ l ∧ l ≤ hh ∧ hh ≤ (e.n : Int))), true) (by simp); simpa [pre] using this
            have he := eval_c ht hx
            refine .val (v := subOf (ν.v k) l.toNat (hh.toNat - l.toNat) e.size) rfl fun w hw => ?_
            obtain ⟨_, aa, cap, hv0, hcap, _⟩ := hw.inB hk hd
            rw [hv0] at he ⊢
            rw [← hsz]
            have hbl : (lo.map a.eval = none ∧ l = 0) ∨ ∃ k, lo.map a.eval = some (.int k l) := by
              rcases boundS_ok ht hl with ⟨rfl, rfl⟩ | h'
              · exact .inl ⟨rfl, rfl⟩
              · exact .inr h'
            have hbh : (hi'.map a.eval = none ∧ hh = e.n) ∨ ∃ k, hi'.map a.eval = some (.int k hh) := by
              rcases boundS_ok ht hhh with ⟨rfl, rfl⟩ | h'
              · exact .inl ⟨rfl, rfl⟩
              · exact .inr h'
            have hrun := run_sliceE hu hi (a := aa) (cap := cap) hbl hbh hr.1 hr.2.1 hr.2.2 hcap w
            simp only [execOp, ho, he, Sem.run_bind, hrun, Result.andThen_ok, Sem.run_pure, Option.map_none]
        · cases h
      · cases h
    · rename_i fl sa hx
      cases hop : openS s o.op.operands.toList
      · rw [hop] at h; exact generic_ok _ h ht
      · rw [hop] at h
        simp only [cond_true] at h
        split at h
        · rename_i l hh hu hl hhh
          simp only [Option.some.injEq, Prod.mk.injEq] at h
          obtain ⟨rfl, rfl, rfl⟩ := h
          have hr : 0 ≤ l ∧ l ≤ hh ∧ hh ≤ (sa.size : Int) := by have := hq (pre (decide (0 ≤ l ∧ l ≤ hh ∧ hh ≤ (sa.size : Int))), true) (by simp); simpa [pre] using this
          have he := eval_v ht hx
          have hbl : (lo.map a.eval = none ∧ l = 0) ∨ ∃ k, lo.map a.eval = some (.int k l) := by
            rcases boundS_ok ht hl with ⟨rfl, rfl⟩ | h'
            · exact .inl ⟨rfl, rfl⟩
            · exact .inr h'
          have hbh : (hi'.map a.eval = none ∧ hh = sa.size) ∨ ∃ k, hi'.map a.eval = some (.int k hh) := by
            rcases boundS_ok ht hhh with ⟨rfl, rfl⟩ | h'
            · exact .inl ⟨rfl, rfl⟩
            · exact .inr h'
          refine .val (v := .string (extZ sa l hh)) rfl fun w _ => ?_
          rw [extZ_eq]
          have hrun := run_sliceS hu hbl hbh hr.1 hr.2.1 hr.2.2 w
          simp only [execOp, ho, he, Sem.run_bind, hrun, Result.andThen_ok, Sem.run_pure, Option.map_none]
        · cases h
    · exact generic_ok _ h ht
  · rename_i t x' ix ho
    split at h
    · rename_i fl sa fl' k m hx hix
      cases hop : (anyF fl || anyF fl')
      · rw [hop] at h; exact generic_ok _ h ht
      · rw [hop] at h
        simp only [cond_true] at h
        split at h
        · rename_i hu
          simp only [Option.some.injEq, Prod.mk.injEq] at h
          obtain ⟨rfl, rfl, rfl⟩ := h
          have hidx : 0 ≤ m ∧ m < (sa.size : Int) := by have := hq (pre (idxB m sa.size), true) (by simp); simpa [pre, idxB] using this
          have he := eval_v ht hx
          have hei := eval_v ht hix
          refine .val (v := .int .u8 (chrZ sa m)) rfl fun w _ => ?_
          rw [chrZ_eq]
          have hlt : m.toNat < sa.size := by omega
          have hget : sa[m.toNat]? = some sa[m.toNat] := getElem?_pos sa m.toNat hlt
          simp only [execOp, ho, he, hei, Instr.index, asIntOf, Sem.run_bind, Sem.run_pure, Result.andThen_ok, run_underlying hu, if_pos hidx.1, hget, Option.getD_some]
        · cases h
    · exact generic_ok _ h ht
  · rename_i f first captured ho
    split at h
    · rename_i fs cs hfs hcs
      simp only [Option.some.injEq, Prod.mk.injEq] at h
      obtain ⟨rfl, rfl, _⟩ := h
      refine .val (v := .func (.func f) (fs.map (concC ν)).toArray (cs.map (concC ν)).toArray) mkFn_is fun w _ => ?_
      have e1 := cvL_conc ht hfs
      have e2 := cvL_conc ht hcs
      simp only [execOp, ho]
      rw [map_eval a first, map_eval a captured, e1, e2]
      rfl
    · cases h
  · rename_i az ats ho
    split at h
    · rename_i x' t hl1 hl2
      have e1 : az = #[x'] := by rw [← Array.toArray_toList (xs := az), hl1]
      have e2 : ats = #[t] := by rw [← Array.toArray_toList (xs := ats), hl2]
      split at h
      · rename_i i off len cap e hx hu
        simp only [Option.some.injEq, Prod.mk.injEq] at h
        obtain ⟨rfl, rfl, _⟩ := h
        refine .val (v := .int .i64 len) rfl fun w hw => ?_
        have he := eval_sl ht hx
        subst e1 e2
        obtain ⟨dst, op, type, pos, after, guard⟩ := o
        simp only at ho
        subst ho
        unfold execOp
        simp [resolve, invoke, builtin, Builtin.len_, he, run_underlying hu, goInt]
      · rename_i k e hx hu
        split at h
        · rename_i e' he0
          obtain ⟨hk, hd⟩ := getL_some he0
          simp only [Option.some.injEq, Prod.mk.injEq] at h
          obtain ⟨rfl, rfl, _⟩ := h
          refine .val (v := .int .i64 e'.n) rfl fun w hw => ?_
          have he := eval_c ht hx
          obtain ⟨_, aa, cap, hv0, _⟩ := hw.inB hk hd
          rw [hv0] at he
          subst e1 e2
          obtain ⟨dst, op, type, pos, after, guard⟩ := o
          simp only at ho
          subst ho
          unfold execOp
          simp [resolve, invoke, builtin, Builtin.len_, he, run_underlying hu, goInt]
        · cases h
      · exact generic_ok _ h ht
    · exact generic_ok _ h ht
  · rename_i az ats ho
    split at h
    · rename_i x' y' hl1
      have e1 : az = #[x', y'] := by rw [← Array.toArray_toList (xs := az), hl1]
      split at h
      · rename_i f k m g k' n' hx hy
        cases hop : (anyF f || anyF g)
        · rw [hop] at h; exact generic_ok _ h ht
        · rw [hop] at h
          simp only [cond_true, Option.some.injEq, Prod.mk.injEq] at h
          obtain ⟨rfl, rfl, _⟩ := h
          refine .val (v := .int k (minZ m n')) rfl fun w hw => ?_
          have hex := eval_v ht hx
          have hey := eval_v ht hy
          subst e1
          obtain ⟨dst, op, type, pos, after, guard⟩ := o
          simp only at ho
          subst ho
          unfold execOp
          simp [resolve, invoke, builtin, Builtin.min_, Builtin.min2, hex, hey, minZ_eq]
      · exact generic_ok _ h ht
    · exact generic_ok _ h ht
  · exact generic_ok _ h ht
theorem range_getD (n : Nat) (g : Nat → Int) (i : Nat) (hi : i < n) : ((List.range n).map g).getD i 0 = g i := by
  rw [List.getD_eq_getElem?_getD, List.getElem?_map, List.getElem?_range hi]; rfl
theorem idx_of {n : Int} {len : Nat} (h : (pre (idxB n len), true).1 = (pre (idxB n len), true).2) : 0 ≤ n ∧ n < len := by
  have h : pre (idxB n len) = true := h
  have h : idxB n len = true := h
  exact of_decide_eq_true h
theorem elemB_at {P : Program} {e : TypeId} {ti : TypeInfo} {len off : Nat} {n : Int} (hi : P.info? e = some ti) (hs : ti.size = 1) (hn : 0 ≤ n ∧ n < len) : elemB P e len off n = some (off + n.toNat) := by
  unfold elemB
  simp only [hi]
  rw [decide_eq_true hn, hs, Nat.mul_one]; rfl
theorem cells_at {k : IntKind} {cs : List SV} {off len : Nat} {xs : List Int} {ν : Nu} (h : intsAt k ((cs.drop off).take len) = some xs) {j : Nat} (hj : j < xs.length) : (concB ν cs)[off + j]? = some (.int k ((xs[j]?).getD 0)) := by
  have h1 := intsAt_ok (ν := ν) h
  have h2 := congrArg (fun l => l[j]?) h1
  unfold concB at h2 ⊢
  simp only [List.map_take, List.map_drop, List.getElem?_map] at h2
  rw [List.getElem?_eq_getElem hj] at h2 ⊢
  have hjl : j < len := by
    have := congrArg List.length h1
    unfold concB at this
    simp at this
    omega
  rw [List.getElem?_take_of_lt hjl, List.getElem?_drop] at h2
  exact h2
theorem run_sizeOf' {P : Program} (w : World) {e : TypeId} {ti : TypeInfo} (hi : P.info? e = some ti) (hs : ti.size = 1) : (sizeOf e).run P w = .ok 1 w := by
  simp only [sizeOf, typeInfo, Sem.run_bind, run_program, Result.andThen_ok, hi, Sem.run_pure, hs]
theorem all_range_int : ∀ (xs ys : List Int), xs.length = ys.length → ((List.range xs.length).all fun i => xs.getD i 0 == ys.getD i 0) = (xs == ys)
  | [], [], _ => rfl
  | x :: xs, y :: ys, h => by
    have ih := all_range_int xs ys (by simpa using h)
    rw [List.length_cons, List.range_succ_eq_map, List.all_cons, List.all_map]
    simp only [List.getD_cons_zero, Function.comp_def, List.getD_cons_succ, ih]
    simp [List.cons_beq_cons]
  | [], _ :: _, h => by simp at h
  | _ :: _, [], h => by simp at h
theorem run_equalIn_ints {P : Program} (w : World) (d : Nat) (t e : TypeId) (n : Nat) (k : IntKind) (ht : P.underlying t = some (.array n e)) (he : P.underlying e = some (.int k)) (hsz : ∀ w, (sizeOf e).run P w = .ok 1 w)
    (xs ys : List Int) (hx : xs.length = n) (hy : ys.length = n) :
    (Op.equalIn (d + 2) t (.agg (xs.map (Value.int k)).toArray) (.agg (ys.map (Value.int k)).toArray)).run P w = .ok (xs == ys) w := by
  rw [← all_range_int xs ys (hx.trans hy.symm), hx, List.range_eq_range', Op.equalIn]
  simp only [Sem.run_bind, run_underlying ht, Result.andThen_ok, hsz, Std.Legacy.Range.forIn_eq_forIn_range', Std.Legacy.Range.size, Nat.sub_zero, Nat.add_sub_cancel, Nat.div_one]
  have hl : ∀ i ∈ List.range' 0 n 1, i < n := fun i hi => by simpa using (List.mem_range'_1.1 hi).2
  generalize List.range' 0 n 1 = l at hl ⊢
  induction l with
  | nil => simp
  | cons i l ih =>
    have hi : i < n := hl i (by simp)
    have px : (part e (xs.map (Value.int k)).toArray (i * 1)).run P w = .ok (.int k (xs.getD i 0)) w := by
      simp [part, isAgg, run_underlying he, List.getD, List.getElem?_eq_getElem (show i < xs.length by omega)]
    have py : (part e (ys.map (Value.int k)).toArray (i * 1)).run P w = .ok (.int k (ys.getD i 0)) w := by
      simp [part, isAgg, run_underlying he, List.getD, List.getElem?_eq_getElem (show i < ys.length by omega)]
    have pe : (Op.equalIn (d + 1) e (.int k (xs.getD i 0)) (.int k (ys.getD i 0))).run P w = .ok (xs.getD i 0 == ys.getD i 0) w := run_equalIn_int w d e k k _ _ he
    simp only [List.forIn_cons, Sem.run_bind, px, py, pe, Result.andThen_ok, List.all_cons]
    cases hb : (xs.getD i 0 == ys.getD i 0)
    · simp
    · simp only [Bool.not_true, Bool.false_eq_true, if_false, Sem.run_pure, Result.andThen_ok, Bool.true_and]
      exact ih fun j hj => hl j (by simp [hj])
theorem wf_inI {k : Int} (h : inI k = true) : (Lit.int .i64 k).wf = true := by
  have h := of_decide_eq_true h
  show (decide (IntKind.min .i64 ≤ k) && decide (k ≤ IntKind.max .i64)) = true
  rw [decide_eq_true (show IntKind.min .i64 ≤ k from h.1), decide_eq_true (show k ≤ IntKind.max .i64 from h.2)]; rfl
theorem rowG_in {gl : Nat → Option (List Value)} {w : World} (hG : GlobW gl w) {v : Value} {e : LE} (h : rowG gl v e) : InB w.heap.size w e v := by
  obtain ⟨⟨h1, h2⟩, a, cap, hv, hc, h3⟩ := h
  refine ⟨⟨h1, h2⟩, a, cap, hv, hc, fun hn => ?_⟩
  obtain ⟨b, off, cs, ha, hb, h4⟩ := h3 hn
  have h5 : ∀ j, j < e.n → ∀ (o : Nat) c, (e.el j)[o]? = some c → w.cell? ⟨b, off + j * e.size + o, none⟩ = some c := fun j hj o c ho => (hG b cs hb).1 _ _ (h4 j hj o c ho)
  refine ⟨b, off, ha, ?_, h5⟩
  have hl := (h2 0 hn).1
  exact block_lt_of_cell (h5 0 hn 0 _ (List.getElem?_eq_getElem (by omega)))
theorem row_here {E : Env} {w0 : Base} {w : World} (hG : GlobB E w0) (hb : Below w0.heap.size w0.toWorld w) {v : Value} {e : LE} (h : pre (rowB E.glob v e) = true) : InB w.heap.size w e v := rowG_in (GlobW.below hG.glob hb) (rowB_ok.mp h)
theorem simRP_ok {E : Env} {o : Oper} {s : St} {x : SV} {q : List (Bool × Bool)} {n : Nat} {ν : Nu} {a : Act} {w0 : Base} {mem : Bool} (h : RPIs E o s x q) (hq : ∀ p ∈ q, p.1 = p.2) (ht : TR n ν s a) (hG : GlobB E w0) : Does E o a (fun w => WR w0 ν s.own mem w) (Is ν x) false := by
  cases h with
  | @at_ t x' ix f v g k m R et i ho hR hx hix hu hi hs =>
    have h1 := hq (pre (rowB E.glob v (R v)), true) (by simp)
    have hidx := idx_of (hq (pre (idxB m (R v).n), true) (by simp))
    have he := eval_v ht hx
    have hei := eval_v ht hix
    refine .val (v := placeOf v (m.toNat * (R v).size + 0)) rfl fun w hw => ?_
    obtain ⟨_, aa, cap, hv0, _, hc0⟩ := row_here hG hw.below h1
    obtain ⟨b, off, rfl, hb, hc⟩ := hc0 (by omega)
    rw [hv0] at he
    have hel : elemB E.P et (R v).n off m = some (off + m.toNat * i.size) := by unfold elemB; rw [hi]; simp only [decide_eq_true hidx, cond_true]
    have hl := (run_elemB (P := E.P) (t := t) (g := b) (k := k) hel w).2 hu cap
    have hp : placeOf v (m.toNat * (R v).size + 0) = .pointer (some ⟨b, off + m.toNat * i.size, none⟩) := by
      rw [Nat.add_zero, ← hs]
      generalize m.toNat * i.size = N
      rw [hv0]; rfl
    rw [hp]
    simp only [execOp, ho, he, hei, Sem.run_bind, hl, Result.andThen_ok, Sem.run_pure]
  | @fld t x' f v e j p p' ho hx hf =>
    have h1 := hq (pre (rowB E.glob v e), true) (by simp)
    have hlt : j < e.n := by have := hq (pre (decide (j < e.n)), true) (by simp); simpa [pre] using this
    have he := eval_rp ht hx
    refine .val (v := placeOf v (j * e.size + p')) rfl fun w hw => ?_
    obtain ⟨_, aa, cap, hv0, _, hc0⟩ := row_here hG hw.below h1
    obtain ⟨b, off, rfl, hb, hc⟩ := hc0 (by omega)
    rw [hv0] at he ⊢
    simp only [placeOf, ← Nat.add_assoc] at he ⊢
    have hl := run_fieldB (g := b) (fieldB_add hf (off + j * e.size)) w
    simp only [execOp, ho, he, Sem.run_bind, hl, Result.andThen_ok, Sem.run_pure]
  | @get t x' v e j p u ho hx hlo =>
    have h1 := hq (pre (rowB E.glob v e), true) (by simp)
    have hlt : j < e.n := by have := hq (pre (decide (j < e.n)), true) (by simp); simpa [pre] using this
    have he := eval_rp ht hx
    refine .val (v := u) rfl fun w hw => ?_
    obtain ⟨_, aa, cap, hv0, _, hc0⟩ := row_here hG hw.below h1
    obtain ⟨b, off, rfl, hb, hc⟩ := hc0 (by omega)
    rw [hv0] at he
    have hl := run_loadAt (b := b) (o := off + j * e.size) hlo w (hc j hlt)
    simp only [placeOf, ← Nat.add_assoc] at he
    simp only [execOp, ho, he, Instr.loadAt, Instr.sureAddr, Sem.run_bind, Sem.run_pure, Result.andThen_ok, hl]
  | @len az ats x' t f v R et ho h1 h2 hR hx hu =>
    have h3 := hq (pre (rowB E.glob v (R v)), true) (by simp)
    have e1 : az = #[x'] := by rw [← Array.toArray_toList (xs := az), h1]
    have e2 : ats = #[t] := by rw [← Array.toArray_toList (xs := ats), h2]
    have he := eval_v ht hx
    refine .val (v := .int .i64 (R v).n) rfl fun w hw => ?_
    obtain ⟨_, aa, cap, hv0, _, _⟩ := row_here hG hw.below h3
    rw [hv0] at he
    subst e1 e2
    obtain ⟨dst, op, type, pos, after, guard⟩ := o
    simp only at ho
    subst ho
    unfold execOp
    simp [resolve, invoke, builtin, Builtin.len_, he, run_underlying hu, goInt]
theorem simRO1_ok {E : Env} {o : Oper} {s : St} {x : SV} {c : Bool} {q : List (Bool × Bool)} {n : Nat} {ν : Nu} {a : Act} {w0 : Base} {mem : Bool} (h : simRO1 E o s = some (x, c, q)) (hq : ∀ p ∈ q, p.1 = p.2) (ht : TR n ν s a) (hG : GlobB E w0) (hV : okV s.own.b.length s.own.l.length x) : Does E o a (fun w => WR w0 ν s.own mem w) (Is ν x) c := by
  unfold simRO1 at h
  split at h
  · rename_i r hr
    obtain ⟨t, t', y, k, e, et, ho, hy, hk, hu, hu', he, hsz, rfl, rfl, rfl⟩ := simCV_some (hr.trans h)
    obtain ⟨hkl, hd⟩ := getL_some hk
    have hb : bytesB e.n e.el = true := by have := hq (pre (bytesB e.n e.el), true) (by simp); simpa [pre] using this
    have hb : areBytes e.n e.el := by
      unfold bytesB at hb
      exact @of_decide_eq_true _ (Classical.propDecidable _) hb
    refine .val (v := .string (strZ e.n e.el)) rfl fun w hw => ?_
    have hev := eval_c ht hy
    obtain ⟨_, aa, cap, hv0, _, hc⟩ := hw.inB hkl hd
    rw [hv0] at hev
    have hrun : (convert t t' (.slice aa e.n cap)).run E.P w = .ok (.string (strZ e.n e.el)) w := by
      rw [strZ_eq]
      by_cases h0 : 0 < e.n
      · obtain ⟨b, off, rfl, _, hcell⟩ := hc h0
        exact run_convert_bytes_arg w t et hu he b off e.n cap ((List.range e.n).map fun j => intOf (e.el j)) (by simp) (fun i hi => by
          rw [range_getD e.n (fun j => intOf (e.el j)) i hi]
          have := hcell i hi 0 (.int .u8 (intOf (e.el i))) (by rw [hb i hi]; rfl)
          rw [hsz, Nat.mul_one, Nat.add_zero] at this
          exact this) t' hu'
      · have h0 : e.n = 0 := by omega
        unfold strOf
        rw [h0]
        cases aa with
        | none => exact run_convert_bytes_nil w t et hu he 0 cap t' hu'
        | some ad =>
          rw [run_convert_bytes_string w t t' et _ 0 cap hu he hu', run_bytesToString w ad 0 cap [] (by simp [loadCells, loadCellsFrom])]
          rfl
    simp only [execOp, ho, hev, Sem.run_bind, hrun, Result.andThen_ok, Sem.run_pure]
  · split at h
    · rename_i r hr
      obtain ⟨t, y, ix, ok, i, f, k, b, kt, et, T, l, ti, z, u, ho, hy, hix, hb, hu, hkd, hk, hi, hz, hv, rfl, rfl, rfl⟩ := simMV_some (hr.trans h)
      have hfm : FmtL l z := fmtB_ok.mp (hq (pre (fmtB l z), true) (by simp))
      have hin : inI k = true := by have := hq (pre (inI k), true) (by simp); simpa [pre] using this
      have hwf : (Lit.int .i64 k).wf = true := wf_inI hin
      have hue := formV_look hfm hv
      have run : ∀ w, WR w0 ν s.own mem w → (execOp a.eval o).run E.P w = .ok (.value (if ok then .tuple #[u, .bool (logL l k).isSome] else u)) w := fun w hw => by
        have hm : MapL w (ν.l i) l := by
          have := (hw.blk i b hb).1
          unfold BOk at this
          rw [hkd] at this; exact this
        have hzr : (zeroValue et).run E.P w = .ok z w := by simp only [zeroValue, typeInfo, Sem.run_bind, run_program, Result.andThen_ok, hi, Sem.run_pure, hz]
        rw [hue]
        simp only [execOp, ho, eval_mp ht hy, eval_v ht hix, Sem.run_bind, hm.look hu hk hzr hwf ok, Result.andThen_ok, Sem.run_pure]
      cases ok
      · exact .val (v := u) rfl run
      · exact .val (v := .tuple #[u, .bool (logL l k).isSome]) (by show _ = _; simp [conc, concT, hasZ_eq]) run
    · split at h
      · rename_i r hr
        cases simIV_some (hr.trans h) with
        | @at_ t x' ix i off g k m len e ti ho hx hix hu hi hs =>
          have hin := idx_of (hq _ List.mem_cons_self)
          refine .val (v := .pointer (some ⟨ν.l i, off + m.toNat, none⟩)) rfl fun w hw => ?_
          have hl := (run_elemB (P := E.P) (t := t) (g := ν.l i) (k := k) (elemB_at (off := off) hi hs hin) w).1 hu
          simp only [execOp, ho, eval_own ht hx, eval_v ht hix, Sem.run_bind, hl, Result.andThen_ok, Sem.run_pure]
        | @get t x' i off len m b k ti xs ho hx hb hu hi hxs hl =>
          have hin := idx_of (hq _ List.mem_cons_self)
          refine .val (v := .int k (pickZ xs m)) rfl fun w hw => ?_
          have hv : loadB E.P t (concB ν b.cells) (off + m.toNat) = some (.int k (pickZ xs m)) := by
            unfold loadB
            simp only [hu, hi, aggD, cond_false]
            rw [pickZ_eq]; exact cells_at hxs (ν := ν) (by omega)
          have hl := run_loadB (g := ν.l i) hv w (cells_of_blk ((hw.blk i b (getB_some hb).1).1.cells (getB_some hb).2))
          simp only [execOp, ho, eval_ia ht hx, Instr.loadAt, Instr.sureAddr, Sem.run_bind, Sem.run_pure, Result.andThen_ok, hl]
        | @gat t x' ix f gl off g k m len e ti ho hx hix hu hi hs =>
          have hin := idx_of (hq _ List.mem_cons_self)
          refine .val (v := .pointer (some ⟨gl, off + m.toNat, none⟩)) rfl fun w hw => ?_
          have hl := (run_elemB (P := E.P) (t := t) (g := gl) (k := k) (elemB_at (off := off) hi hs hin) w).1 hu
          simp only [execOp, ho, eval_v ht hx, eval_v ht hix, Sem.run_bind, hl, Result.andThen_ok, Sem.run_pure]
        | @gget t x' f g o' cs k ti xs ho hx hg hu hi hxs =>
          have hlt : o' < xs.length := by have := hq (pre (decide (o' < xs.length)), true) List.mem_cons_self; simpa [pre] using this
          refine .val (v := .int k (pickZ xs (o' : Nat))) rfl fun w hw => ?_
          have hv : loadB E.P t cs o' = some (.int k (pickZ xs (o' : Nat))) := by
            unfold loadB
            simp only [hu, hi, aggD, cond_false]
            rw [pickZ_eq, intsV_ok hxs, Int.toNat_natCast, List.getElem?_map, List.getElem?_eq_getElem hlt]; rfl
          have hl := run_loadB (g := g) hv w (hG.below hw.below g cs hg).1
          simp only [execOp, ho, eval_v ht hx, Instr.loadAt, Instr.sureAddr, Sem.run_bind, Sem.run_pure, Result.andThen_ok, hl]
        | @eq t x' y yt f g a' b len e k ti xs ys ho hx hy hu he hi hxs hys hlx hly hs hg =>
          refine .val (v := .bool (eqLZ xs ys)) rfl fun w hw => ?_
          have h1 : a' = (xs.map (Value.int k)).toArray := by rw [← intsV_ok hxs]
          have h2 : b = (ys.map (Value.int k)).toArray := by rw [← intsV_ok hys]
          subst h1 h2
          have hr := run_equalIn_ints w 9998 t e len k hu he (fun w => run_sizeOf' w hi hs) xs ys hlx hly
          have hb : (do eqGuard .eql t x' y (.agg (xs.map (Value.int k)).toArray) (.agg (ys.map (Value.int k)).toArray); binOp .eql t (.agg (xs.map (Value.int k)).toArray) (.agg (ys.map (Value.int k)).toArray)).run E.P w = .ok (.bool (eqLZ xs ys)) w := by
            rw [eqLZ_eq]
            simp [eqGuard, binOp, Op.equal, Op.maxDepth, hr, hg]
          simp only [execOp, ho, eval_v ht hx, eval_v ht hy]
          simp only [Sem.run_bind] at hb ⊢
          first | exact hb | (rw [hb]; rfl)
      · split at h
        · rename_i r hr
          obtain ⟨rfl, hrp⟩ := simRP_some (hr.trans h)
          exact simRP_ok hrp hq ht hG
        · exact simRO0_ok h hq ht hG hV
theorem simRO_ok {E : Env} {o : Oper} {s : St} {x : SV} {c : Bool} {q : List (Bool × Bool)} {n : Nat} {ν : Nu} {a : Act} {w0 : Base} {mem : Bool} (h : simRO E o s = some (x, c, q)) (hq : ∀ p ∈ q, p.1 = p.2) (ht : TR n ν s a) (hG : GlobB E w0) (hV : okV s.own.b.length s.own.l.length x) : Does E o a (fun w => WR w0 ν s.own mem w) (Is ν x) c := by
  unfold simRO at h
  split at h
  · rename_i r hr
    obtain ⟨t, y, ix, ok, i, f, k, b, kt, et, T, l, ti, z, u, ho, hy, hix, hb, hu, hkd, hi, hz, hv, rfl, rfl, rfl⟩ := simMW_some (hr.trans h)
    have hfm : FmtV l z := fmtVB_ok.mp (hq (pre (fmtVB l z), true) (by simp))
    have hin := keysB_ok.mp (hq (pre (keysB E.P kt k l), true) (by simp))
    have hue := formV_lookV hfm hv
    have run : ∀ w, WR w0 ν s.own mem w → (execOp a.eval o).run E.P w = .ok (.value (if ok then .tuple #[u, .bool (logV l k).isSome] else u)) w := fun w hw => by
      have hm : MapV w (ν.l i) l := by
        have := (hw.blk i b hb).1
        unfold BOk at this
        rw [hkd] at this; exact this
      have hzr : (zeroValue et).run E.P w = .ok z w := by simp only [zeroValue, typeInfo, Sem.run_bind, run_program, Result.andThen_ok, hi, Sem.run_pure, hz]
      rw [hue]
      simp only [execOp, ho, eval_mp ht hy, eval_v ht hix, Sem.run_bind, hm.look hu hzr hin ok, Result.andThen_ok, Sem.run_pure]
    cases ok
    · exact .val (v := u) rfl run
    · exact .val (v := .tuple #[u, .bool (logV l k).isSome]) (by show _ = _; simp [conc, concT, hasV_eq]) run
  · exact simRO1_ok h hq ht hG hV
end Go.Proofs.YtiajbijbhhpllaaDoor.S2
namespace Go.Proofs.YtiajbijbhhpllaaDoor.S2
open Go Go.RowKit Sim
theorem Le.same {s s' : St} (h1 : ∀ p ∈ s.obl, p ∈ s'.obl) (h2 : s'.own = s.own) (h3 : s'.lo = s.lo) (h4 : s'.llo = s.llo) : Le s s' :=
  ⟨h1, by rw [h2]; exact Nat.le_refl _, by rw [h2]; exact Nat.le_refl _, h3, h4, fun i _ => by rw [h2], fun i _ => by rw [h2]⟩
theorem putS_keep {n : Nat} {dst : Option Tmp} {x : SV} {s s' : St} (h : putS n dst x s = some s') : s'.obl = s.obl ∧ s'.own = s.own ∧ s'.mem = s.mem ∧ s'.lo = s.lo ∧ s'.llo = s.llo ∧ (∀ p ∈ s'.tmps, p ∈ s.tmps ∨ p.2 = x) := by
  unfold putS at h
  cases dst with
  | none => simp only [Option.some.injEq] at h; subst h; exact ⟨rfl, rfl, rfl, rfl, rfl, fun p hp => .inl hp⟩
  | some d =>
    simp only at h
    cases hb : Nat.blt d n
    · rw [hb] at h; cases h
    · rw [hb] at h; simp only [cond_true, Option.some.injEq] at h; subst h
      refine ⟨rfl, rfl, rfl, rfl, rfl, fun p hp => ?_⟩
      rcases List.mem_cons.mp hp with rfl | hp
      · exact .inr rfl
      · exact .inl hp
theorem putS_good {n : Nat} {dst : Option Tmp} {x : SV} {s s' : St} (h : putS n dst x s = some s') (hg : Good s) (hx : okV s.own.b.length s.own.l.length x) : Good s' ∧ Le s s' := by
  obtain ⟨h1, h2, h3, h4, h4', h5⟩ := putS_keep h
  refine ⟨⟨by rw [h2, h4]; exact hg.lo, by rw [h2, h4']; exact hg.llo, fun p hp => ?_, by rw [h2]; exact hg.okb⟩, .same (fun p hp => by rw [h1]; exact hp) h2 h4 h4'⟩
  rw [h2]
  rcases h5 p hp with h | h
  · exact hg.ok p h
  · rw [h]; exact hx
theorem tr_put {n : Nat} {ν : Nu} {s s' : St} {a : Act} {dst : Option Tmp} {x : SV} {v : Value} (h : putS n dst x s = some s') (hv : Is ν x v) (ht : TR n ν s a) : TR n ν s' (a.put dst v) := by
  unfold putS at h
  cases dst with
  | none => simp only [Option.some.injEq] at h; subst h; exact ht
  | some d =>
    simp only at h
    cases hb : Nat.blt d n
    · rw [hb] at h; cases h
    · rw [hb] at h
      simp only [cond_true, Option.some.injEq] at h
      subst h
      have hd : d < n := by simpa [Nat.blt_eq] using hb
      refine ⟨?_, fun t => ?_, ht.df⟩
      · simp [Act.put, ht.size]
      · have h0 := ht.tm t
        have hsz := ht.size
        simp only [Act.put, look]
        simp only [Array.getD_eq_getD_getElem?, Array.getElem?_setIfInBounds] at h0 ⊢
        by_cases hdt : d = t
        · subst hdt
          simpa [hsz, hd] using hv
        · have : Nat.beq d t = false := by
            cases hbb : Nat.beq d t
            · rfl
            · exact absurd (Nat.eq_of_beq_eq_true hbb) hdt
          simp only [this, cond_false, hdt, if_false]
          exact h0
theorem TR.of {n : Nat} {ν : Nu} {s s' : St} {a : Act} (ht : TR n ν s a) (h : s'.tmps = s.tmps) : TR n ν s' a := ⟨ht.size, fun t => by rw [h]; exact ht.tm t, ht.df⟩
theorem TR.move {n : Nat} {ν ν' : Nu} {s s' : St} {a : Act} (ht : TR n ν s a) (hg : Good s) (ha : Ag s.own ν ν') (h : s'.tmps = s.tmps) : TR n ν' s' a :=
  ⟨ht.size, fun t => by rw [h]; exact Is_congr (look_ok hg.ok) ha (ht.tm t), ht.df⟩
theorem ask_ok (s : St) (fl : List Bool) (b : Bool) : (∀ p ∈ s.obl, p ∈ (ask s fl b).2.obl) ∧ (Holds' (ask s fl b).2 → (ask s fl b).1 = b) ∧ (ask s fl b).2.tmps = s.tmps ∧ (ask s fl b).2.own = s.own ∧ (ask s fl b).2.mem = s.mem ∧ (ask s fl b).2.lo = s.lo ∧ (ask s fl b).2.llo = s.llo := by
  unfold ask
  cases anyF fl
  · exact ⟨fun _ h => h, fun _ => rfl, rfl, rfl, rfl, rfl, rfl⟩
  · simp only [cond_true]
    split
    · exact ⟨fun _ h => h, fun _ => rfl, rfl, rfl, rfl, rfl, rfl⟩
    · exact ⟨fun p hp => List.mem_cons_of_mem _ hp, fun h => (h _ (List.mem_cons_self)).symm, rfl, rfl, rfl, rfl, rfl⟩
theorem ask_le (s : St) (fl : List Bool) (b : Bool) : Le s (ask s fl b).2 := by
  obtain ⟨h1, _, h3, h4, h5, h6, h7⟩ := ask_ok s fl b
  exact .same h1 h4 h6 h7
theorem ask_good {s : St} (hg : Good s) (fl : List Bool) (b : Bool) : Good (ask s fl b).2 := by
  obtain ⟨h1, _, h3, h4, h5, h6, h7⟩ := ask_ok s fl b
  exact ⟨by rw [h4, h6]; exact hg.lo, by rw [h4, h7]; exact hg.llo, fun p hp => by rw [h4]; exact hg.ok p (by rw [← h3]; exact hp), by rw [h4]; exact hg.okb⟩
theorem know_good {s : St} (hg : Good s) (d : Nat) (b : Bool) : Good (know s d b) :=
  ⟨hg.lo, hg.llo, fun p hp => by
    rcases List.mem_cons.mp hp with rfl | hp
    · trivial
    · exact hg.ok p hp, hg.okb⟩
theorem know_le (s : St) (d : Nat) (b : Bool) : Le s (know s d b) := .same (fun _ h => h) rfl rfl rfl
theorem TR.ask {n : Nat} {ν : Nu} {s : St} {a : Act} (ht : TR n ν s a) (fl : List Bool) (b : Bool) : TR n ν (S2.ask s fl b).2 a := ht.of (ask_ok s fl b).2.2.1
theorem TR.know {n : Nat} {ν : Nu} {s : St} {a : Act} (ht : TR n ν s a) {d : Nat} {b : Bool} (h : a.tmps.getD d undef = .bool b) : TR n ν (know s d b) a := by
  refine ⟨ht.size, fun t => ?_, ht.df⟩
  simp only [S2.know, look]
  cases hb : Nat.beq d t
  · exact ht.tm t
  · have he : d = t := Nat.eq_of_beq_eq_true hb
    subst he
    exact h
theorem wantS_st {n : Nat} {ops : Array Oper} {o : Oper} {s s1 : St} {t : Bool} (h : wantS n ops o s = some (t, s1)) : Le s s1 ∧ s1.own = s.own ∧ s1.mem = s.mem ∧ (Good s → Good s1) := by
  unfold wantS at h
  split at h
  · simp only [Option.some.injEq, Prod.mk.injEq] at h
    obtain ⟨_, rfl⟩ := h
    exact ⟨Le.refl s, rfl, rfl, id⟩
  · split at h
    · rename_i d hd
      cases hb : Nat.blt d n
      · rw [hb] at h; cases h
      · rw [hb] at h
        simp only [cond_true] at h
        split at h
        · rename_i fl b hl
          simp only [Option.some.injEq, Prod.mk.injEq] at h
          obtain ⟨_, rfl⟩ := h
          obtain ⟨h1, _, h3, h4, h5, h6⟩ := ask_ok s fl b
          exact ⟨(ask_le s fl b).trans (know_le _ _ _), h4, h5, fun hg => know_good (ask_good hg fl b) _ _⟩
        · simp only [Option.some.injEq, Prod.mk.injEq] at h
          obtain ⟨_, rfl⟩ := h
          exact ⟨Le.refl s, rfl, rfl, id⟩
        · cases h
    · cases h
theorem wantS_ok {n : Nat} {ops : Array Oper} {o : Oper} {s s1 : St} {t : Bool} (h : wantS n ops o s = some (t, s1)) (hh : Holds' s1) {ν : Nu} {a : Act} (ht : TR n ν s a) :
    Region.wanted o (yielded ops a.tmps) = t ∧ TR n ν s1 a := by
  unfold wantS at h
  split at h
  · rename_i hg
    simp only [Option.some.injEq, Prod.mk.injEq] at h
    obtain ⟨rfl, rfl⟩ := h
    exact ⟨by simp [Region.wanted, hg], ht⟩
  · rename_i j want hg
    split at h
    · rename_i d hd
      cases hb : Nat.blt d n
      · rw [hb] at h; cases h
      · rw [hb] at h
        simp only [cond_true] at h
        have hdn : d < n := by simpa [Nat.blt_eq] using hb
        have hlt : d < a.tmps.size := by rw [ht.size]; exact hdn
        split at h
        · rename_i fl b hl
          simp only [Option.some.injEq, Prod.mk.injEq] at h
          obtain ⟨rfl, rfl⟩ := h
          obtain ⟨k1, k2, k3, k4, k5⟩ := ask_ok s fl b
          have h0 : a.tmps.getD d undef = .bool b := by have := ht.tm d; rw [hl] at this; exact this
          refine ⟨?_, (ht.ask fl b).know (by rw [h0, k2 hh])⟩
          have h1 : a.tmps[d]? = some (.bool b) := by
            rw [Array.getD_eq_getD_getElem?, Array.getElem?_eq_getElem hlt] at h0
            rw [Array.getElem?_eq_getElem hlt]
            simpa using h0
          have hy : yielded ops a.tmps j = some b := by simp [yielded, hd, h1]
          rw [k2 hh]
          simp [Region.wanted, hg, hy]
        · rename_i fl vs hl
          simp only [Option.some.injEq, Prod.mk.injEq] at h
          obtain ⟨rfl, rfl⟩ := h
          refine ⟨?_, ht⟩
          have h0 : a.tmps.getD d undef = .tuple vs := by have := ht.tm d; rw [hl] at this; exact this
          have h1 : a.tmps[d]? = some (.tuple vs) := by
            rw [Array.getD_eq_getD_getElem?, Array.getElem?_eq_getElem hlt] at h0
            rw [Array.getElem?_eq_getElem hlt]
            simpa using h0
          have hy : yielded ops a.tmps j = none := by simp [yielded, hd, h1]
          simp [Region.wanted, hg, hy]
        · cases h
    · cases h
theorem op_ro {E : Env} (HC : CallOk E) {n : Nat} {o : Oper} {s : St} {x : SV} {c : Bool} {q : List (Bool × Bool)} {w0 : Base} (hG : GlobB E w0) {ν : Nu} {a : Act} {w : World} {K : Act → World → Prop} {Q : Exit → Act → World → Prop}
    (h : simRO E o s = some (x, c, q)) (hq : ∀ p ∈ q, p.1 = p.2) (hg : Good s) (ht : TR n ν s a) (hw : WR w0 ν s.own s.mem w) (hK : ∀ v w', Is ν x v → WR w0 ν s.own (s.mem || c) w' → K (a.put o.dst v) w') : o.wp E.P a w K Q := by
  obtain ⟨v, hv, hd⟩ := simRO_ok (mem := s.mem) h hq ht hG (simRO_st h hg)
  unfold Oper.wp
  rcases hd with ⟨rfl, hd⟩ | ⟨rfl, f, args, hf, hd⟩
  · rw [hd w hw, Oper.upon_value]
    exact hK v w hv (by rw [Bool.or_false]; exact hw)
  · rw [hd w, Oper.upon_enter]
    refine (HC.1 f args _ hf w (hG.below hw.below)).mono fun e w' ⟨he, hb⟩ => ?_
    subst he
    exact hK v w' hv (by rw [Bool.or_true]; exact hw.grown hb)
def extL (ν : Nu) (n b : Nat) : Nu := { ν with l := fun i => if i = n then b else ν.l i }
def extV (ν : Nu) (n : Nat) (v : Value) : Nu := { ν with v := fun i => if i = n then v else ν.v i }
theorem extL_old (ν : Nu) (n m b : Nat) : Agree n m ν (extL ν n b) := ⟨fun i h => by unfold extL; simp only; rw [if_neg (by omega)], fun _ _ => rfl⟩
theorem extL_new (ν : Nu) (n b : Nat) : (extL ν n b).l n = b := by unfold extL; simp
theorem extV_old (ν : Nu) (n m : Nat) (v : Value) : Agree n m ν (extV ν m v) := ⟨fun _ _ => rfl, fun i h => by unfold extV; simp only; rw [if_neg (by omega)]⟩
theorem extV_new (ν : Nu) (n : Nat) (v : Value) : (extV ν n v).v n = v := by unfold extV; simp
theorem WR.lt {w0 : Base} {ν : Nu} {own : Mem} {mem : Bool} {w : World} (h : WR w0 ν own mem w) {i : Nat} (hi : i < own.b.length) : ν.l i < w.heap.size := by
  obtain ⟨h1, _⟩ := h.blk i own.b[i] (by simp [hi])
  exact h1.lt
theorem WR.row {w0 : Base} {ν : Nu} {own : Mem} {mem : Bool} {w : World} (h : WR w0 ν own mem w) {k : Nat} {e : LE} (he : own.l[k]? = some e) (hd : e.dead = false) (ho : e.own = true) : OwnB w0.heap.size w e (ν.v k) := by
  have := h.lst k e he hd
  unfold LOk at this
  rw [ho] at this; exact this
theorem WR.rowLt {w0 : Base} {ν : Nu} {own : Mem} {mem : Bool} {w : World} (h : WR w0 ν own mem w) {k : Nat} {e : LE} (he : own.l[k]? = some e) (hd : e.dead = false) (ho : e.own = true) {g : Nat} (hg : (ν.v k).ownBlock = some g) : w0.heap.size ≤ g ∧ g < w.heap.size := (h.row he hd ho).2.lt g hg
theorem WR.growB {w0 : Base} {ν : Nu} {own : Mem} {mem : Bool} {w : World} (h : WR w0 ν own mem w) (nb : Blk) (ob : Obj) (hcs : ∀ c ∈ nb.cells, okV own.b.length own.l.length c) (hnb : BOk w0.heap.size ν (w.alloc ob) w.heap.size nb) :
    WR w0 (extL ν own.b.length w.heap.size) { own with b := own.b ++ [nb] } true (w.alloc ob) := by
  have hsz := h.below.size
  have hgr := World.grownBy_alloc w ob none
  refine ⟨h.below.alloc hsz _, fun i b hi => ?_, (h.okb.snoc (b := nb) hcs).mono (by simp) (Nat.le_refl _), fun i j hi hj he => ?_, fun k e he hd => ?_, fun k e he hd ho g hg => ⟨fun i hi => ?_, fun k' e' he' hd' ho' hne => ?_⟩, (fun h => by cases h), ⟨(h.fr.below ((Below.refl _ w).alloc (Nat.le_refl _) ob)).here, fun i hi => ?_, h.fr.offl⟩⟩
  · rcases Nat.lt_trichotomy i own.b.length with hl | hl | hl
    · rw [List.getElem?_append_left hl] at hi
      obtain ⟨h1, h2⟩ := h.blk i b hi
      rw [← (extL_old ν own.b.length 0 _).1 i hl]
      exact ⟨(h1.congr (h.okb i b hi) (extL_old ν own.b.length own.l.length w.heap.size)).turn hgr (fun e => by cases e) (fun _ _ _ _ _ _ _ e => by cases e), h2⟩
    · subst hl
      simp at hi
      subst hi
      rw [extL_new]
      exact ⟨hnb.congr hcs (extL_old ν own.b.length own.l.length w.heap.size), hsz⟩
    · rw [List.getElem?_eq_none (by simp; omega)] at hi; cases hi
  · simp only [List.length_append, List.length_cons, List.length_nil] at hi hj
    unfold extL at he
    simp only at he
    by_cases h1 : i = own.b.length <;> by_cases h2 : j = own.b.length
    · omega
    · rw [if_pos h1, if_neg h2] at he; have := h.lt (i := j) (by omega); omega
    · rw [if_neg h1, if_pos h2] at he; have := h.lt (i := i) (by omega); omega
    · rw [if_neg h1, if_neg h2] at he; exact h.inj i j (by omega) (by omega) he
  · exact (h.lst k e he hd).kept hgr hsz (fun _ e => by cases e) (fun _ => by show (ν.v k).ownBlock = none ∨ _; cases (ν.v k).ownBlock <;> simp)
  · simp only [List.length_append, List.length_cons, List.length_nil] at hi
    have hlt := h.rowLt he hd ho hg
    unfold extL
    simp only
    by_cases h1 : i = own.b.length
    · rw [if_pos h1]; omega
    · rw [if_neg h1]; exact (h.sep k e he hd ho g hg).1 i (by omega)
  · exact (h.sep k e he hd ho g hg).2 k' e' he' hd' ho' hne
  · simp only [List.length_append, List.length_cons, List.length_nil] at hi
    unfold extL
    simp only
    by_cases h1 : i = own.b.length
    · rw [if_pos h1]; exact h.fr.fresh (Nat.le_refl _)
    · rw [if_neg h1]; exact h.fr.offb i (by omega)
theorem WR.grow {w0 : Base} {ν : Nu} {own : Mem} {mem : Bool} {w : World} (h : WR w0 ν own mem w) (cs : List SV) (t : TypeId) (hcs : ∀ c ∈ cs, okV own.b.length own.l.length c) :
    WR w0 (extL ν own.b.length w.heap.size) { own with b := own.b ++ [⟨cs, t, .cells⟩] } true (w.alloc (.cells (concB ν cs).toArray t)) :=
  h.growB ⟨cs, t, .cells⟩ _ hcs (by show (w.alloc _).heap[w.heap.size]? = _; rw [heap_alloc_new])
theorem WR.turnB {w0 : Base} {ν : Nu} {own : Mem} {mem : Bool} {w w' : World} (h : WR w0 ν own mem w) {i : Nat} {b : Blk} (hi : own.b[i]? = some b) {nb : Blk} (hcs : ∀ c ∈ nb.cells, okV own.b.length own.l.length c)
    (h1 : BOk w0.heap.size ν w' (ν.l i) nb) (hfr : ∀ (j : Nat) (c : Blk) fl T e acc cs fz, own.b[j]? = some c → c.kd = .bld fl T e acc → w.heap[ν.l i]? ≠ some (.cells cs e fz)) (h2 : ∀ k, k ≠ ν.l i → w'.heap[k]? = w.heap[k]?) (h3 : w'.heap.size = w.heap.size) (h4 : w'.os = w.os) (h5 : w'.tape = w.tape) (h6 : w'.output = w.output) :
    WR w0 ν { own with b := own.b.set i nb } true w' := by
  have hil := lt_of_some_list hi
  obtain ⟨_, hge⟩ := h.blk i b hi
  have hgr : w.grownBy w' (some (ν.l i)) := ⟨h4, h5, h6, by omega, fun k _ hk => h2 k (fun e => hk (by rw [e]))⟩
  refine ⟨h.below.trans ⟨h4, h5, h6, by omega, fun k hk => h2 k (by omega)⟩, fun j c hj => ?_, (h.okb.set (i := i) (b := nb) hcs).mono (by simp) (Nat.le_refl _), fun j k hj hk he => h.inj j k (by simpa using hj) (by simpa using hk) he, fun k e he hd => ?_, fun k e he hd ho g hg => ⟨fun j hj => (h.sep k e he hd ho g hg).1 j (by simpa using hj), (h.sep k e he hd ho g hg).2⟩, (fun h => by cases h), ⟨fun b o hb => (h2 b (fun e => by
    rw [e, h.fr.offb i hil] at hb; cases hb)).trans (h.fr.here b o hb), fun j hj => h.fr.offb j (by simpa using hj), h.fr.offl⟩⟩
  · by_cases hij : i = j
    · subst hij
      rw [List.getElem?_set_self hil] at hj
      simp only [Option.some.injEq] at hj
      subst hj
      exact ⟨h1, hge⟩
    · rw [List.getElem?_set_ne hij] at hj
      obtain ⟨k1, k2⟩ := h.blk j c hj
      have hjl := lt_of_some_list hj
      exact ⟨k1.turn hgr (fun e => hij (h.inj i j hil hjl (Option.some.inj e))) (fun g cs fz fl T e acc eg hk => by
        cases eg; exact hfr j c fl T e acc cs fz hj hk), k2⟩
  · refine (h.lst k e he hd).kept hgr h.below.size (fun g e => by cases e; exact hge) fun ho => ?_
    cases hg : (ν.v k).ownBlock with
    | none => exact .inl rfl
    | some g =>
      right
      intro heq
      simp only [Option.some.injEq] at heq
      exact (h.sep k e he hd ho g hg).1 i hil heq.symm
theorem WR.store {w0 : Base} {ν : Nu} {own : Mem} {mem : Bool} {w w' : World} (h : WR w0 ν own mem w) {i : Nat} {b : Blk} (hi : own.b[i]? = some b) (hk : b.kd = .cells) {cs : List SV} (hcs : ∀ c ∈ cs, okV own.b.length own.l.length c)
    (hfr : ∀ (j : Nat) (c : Blk) fl T e acc, own.b[j]? = some c → c.kd = .bld fl T e acc → e ≠ b.elem)
    (h1 : w'.heap[ν.l i]? = some (.cells (concB ν cs).toArray b.elem (0, 0))) (h2 : ∀ k, k ≠ ν.l i → w'.heap[k]? = w.heap[k]?) (h3 : w'.heap.size = w.heap.size) (h4 : w'.os = w.os) (h5 : w'.tape = w.tape) (h6 : w'.output = w.output) :
    WR w0 ν { own with b := own.b.set i ⟨cs, b.elem, .cells⟩ } true w' :=
  h.turnB hi hcs h1 (fun j c fl T e acc cs' fz hj hkd heq => by
    rw [(h.blk i b hi).1.cells hk] at heq
    simp only [Option.some.injEq, Obj.cells.injEq] at heq
    exact hfr j c fl T e acc hj hkd heq.2.1.symm) h2 h3 h4 h5 h6
theorem bldFree_ok {s : St} {t : TypeId} (h : bldFree s t = true) : ∀ (j : Nat) (c : Blk) fl T e acc, s.own.b[j]? = some c → c.kd = .bld fl T e acc → e ≠ t := fun j c fl T e acc hj hk heq => by
  have := List.all_eq_true.mp h c (List.mem_of_getElem? hj)
  rw [hk, heq] at this
  simp at this
end Go.Proofs.YtiajbijbhhpllaaDoor.S2
