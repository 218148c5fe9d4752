/- S2, S2A. -/
import Derived.Test.YtmaffamhjmlonaaK01
import Derived.Laws.BytesArg
import Derived.Laws.AppendOwn
import Derived.Laws.OwnMore
import Derived.Lib.OthersKept
set_option linter.unusedVariables false
set_option linter.unusedSimpArgs false
namespace Go.Proofs.Ytmaffamhjmlonaa.S2
open Go Go.RowKit Sim
structure LE where
 elT : TypeId
 size : Nat
 n : Nat
 el : Nat -> List Value
 own : Bool
 dead : Bool
 opn : Bool
inductive CV where
 | v (fl : List Bool) (x : Value)
 | a (i off : Nat)
 | l (k : Nat)
inductive TV where
 | inl (p : List Bool × Value)
 | inr (k : Nat)
 | st (cs : List CV)
inductive SV where
 | inl (p : List Bool × Value)
 | inr (p : Nat × Nat × Option (Nat × Nat))
 | c (k : Nat)
 | lp (k j o sz : Nat)
 | tp (l : List TV)
 | fn (f : FuncId) (fs cs : List CV)
 /-- A list's part: so many elements from one on. -/
 | sub (k lo n sz : Nat)
 /-- A struct's cells. -/
 | st (cs : List CV)
 /-- A map of the call's own: its block. -/
 | mp (i : Nat)
 /-- The address of a cell of an array of the call's own, at an open index. -/
 | ia (i off len : Nat) (n : Int)
 /-- The address of a cell of a row that is only read: the slice, what it reads as, the element, the cell. -/
 | rp (v : Value) (e : LE) (j o : Nat)
 | any
structure Nu where
 l : Nat -> Nat
 v : Nat -> Value
def placeOf : Value -> Nat -> Value
 | .slice (some ⟨b, off, none⟩) _ _, n => .pointer (some ⟨b, off + n, none⟩)
 | _, _ => undef
def subOf : Value -> Nat -> Nat -> Nat -> Value
 | .slice a _ cap, lo, n, sz => .slice (if cap = lo then a else a.map (·.add (lo * sz))) n (cap - lo)
 | _, _, _, _ => undef
def concC (ν : Nu) : CV -> Value
 | .v _ x => x
 | .a i off => .pointer (some ⟨ν.l i, off, none⟩)
 | .l k => ν.v k
def concT (ν : Nu) : TV -> Value
 | .inl (_, x) => x
 | .inr k => ν.v k
 | .st cs => .agg (cs.map (concC ν)).toArray
def conc (ν : Nu) : SV -> Value
 | .inl (_, x) => x
 | .inr (i, off, none) => .pointer (some ⟨ν.l i, off, none⟩)
 | .inr (i, off, some (len, cap)) => .slice (some ⟨ν.l i, off, none⟩) len cap
 | .c k => ν.v k
 | .lp k j o sz => placeOf (ν.v k) (j * sz + o)
 | .tp l => .tuple (l.map (concT ν)).toArray
 | .fn f fs cs => .func (.func f) (fs.map (concC ν)).toArray (cs.map (concC ν)).toArray
 | .sub k lo n sz => subOf (ν.v k) lo n sz
 | .st cs => .agg (cs.map (concC ν)).toArray
 | .mp i => .map (some (ν.l i))
 | .ia i off _ n => .pointer (some ⟨ν.l i, off + n.toNat, none⟩)
 | .rp v e j o => placeOf v (j * e.size + o)
 | .any => undef
def Is (ν : Nu) : SV -> Value -> Prop
 | .any, _ => True
 | x, v => v = conc ν x
def okC (n m : Nat) : CV -> Prop
 | .v _ _ => True
 | .a i _ => i < n
 | .l k => k < m
def okT (n m : Nat) : TV -> Prop
 | .inl _ => True
 | .inr k => k < m
 | .st cs => ∀ x ∈ cs, okC n m x
def okV (n m : Nat) : SV -> Prop
 | .inl (_, _) => True
 | .inr (i, _, none) => i < n
 | .inr (i, _, some (_, _)) => i < n
 | .c k => k < m
 | .lp k _ _ _ => k < m
 | .tp l => ∀ x ∈ l, okT n m x
 | .fn _ fs cs => (∀ x ∈ fs, okC n m x) /\ ∀ x ∈ cs, okC n m x
 | .sub k _ _ _ => k < m
 | .st cs => ∀ x ∈ cs, okC n m x
 | .mp i => i < n
 | .ia i _ _ _ => i < n
 | .rp _ _ _ _ => True
 | .any => True
inductive Kd where
 | cells
 | iter (fl : List Bool) (s : ByteArray) (pos : Nat)
 | bld (fl : List Bool) (T e : TypeId) (acc : ByteArray)
 /-- Cells that a conversion has marked: nobody writes them. -/
 | shut
 /-- A map with int keys: its type, its stores. -/
 | map (T : TypeId) (l : List (Int × Value))
 /-- A map with keys of any kind. -/
 | mapV (T : TypeId) (l : List (Value × Value))
structure Blk where
 cells : List SV
 elem : TypeId
 kd : Kd
def isC (b : Blk) : Bool := match b.kd with
 | .cells => true
 | _ => false
inductive BOp where
 | wstr
 | wbyte
 | wrune
 | str
 | len
structure Mem where
 b : List Blk
 l : List LE
structure St where
 tmps : List (Nat × SV)
 own : Mem
 lo : Nat
 llo : Nat
 mem : Bool
 orc : List Bool
 obl : List (Bool × Bool)
inductive XV where
 | inl (x : Value)
 | inr (e : LE)
 | st (cs : List (Sum Value LE))
structure Eff where
 x : SV
 sb : List (Nat × Blk) := []
 sl : List (Nat × LE) := []
 ab : List Blk := []
 al : List LE := []
 ok : Bool := true
structure Env where
 P : Program
 glob : Nat -> Option (List Value)
 call : FuncId -> Array Value -> Option Value
 pcall : FuncId -> List Value -> Option (Value × Bool) := fun _ _ => none
 lcall : FuncId -> List XV -> Option (Bool × List XV × Bool) := fun _ _ => none
 nowrap : Bool := true
 /-- Arithmetic on something open gives an atom (arZ). -/
 opq : Bool := false
 /-- The type strings.Builder and its bytes' type; its methods. -/
 bt : Option (TypeId × TypeId) := none
 bop : FuncId -> Option BOp := fun _ => none
 /-- Callees that answer a pair whose second part nobody tells. -/
 acall : FuncId -> List Value -> Option (Value × Bool) := fun _ _ => none
 /-- Callees whose answers are taken for closed. -/
 shut : FuncId -> Bool := fun _ => false
 /-- Callees that change the call's own memory: their arguments and what these reach, numbered as it is reached. -/
 eff : FuncId -> Option (List SV -> Mem -> Option Eff) := fun _ => none
 /-- A part of a list that came in is a list of its own. -/
 cut : Bool := false
 /-- A slice literal of plain values is a list of the call's own. -/
 lit : Bool := false
 /-- A slice literal's cells are open where one of its parts is. -/
 mks : Bool := false
 /-- Appends (by the slot of their result) that append nothing. -/
 non : List Nat := []
 /-- What reads a slice that is to be a list (by the slot of its result): which list the value is. -/
 rowE : Nat -> Option (Value -> LE) := fun _ => none
 /-- What slices of a type read as that are only read (nested lists). -/
 rowT : TypeId -> Option (Value -> LE) := fun _ => none
def look : List (Nat × SV) -> Nat -> SV
 | [], _ => .any
 | (d, x) :: r, t => bif Nat.beq d t then x else look r t
def ev (s : St) : Operand -> SV
 | .tmp t => look s.tmps t
 | .const c => .inl ([], c)
 | .global g => .inl ([], (.pointer (some ⟨g, 0, none⟩)))
 | .func f => .inl ([], (.func (.func f) #[] #[]))
def rho (s : St) (x : Operand) : Value := match ev s x with | .inl (_, y) => y | _ => undef
def isV : SV -> Bool
 | .inl (_, _) => true
 | _ => false
def flS : SV -> List Bool
 | .inl (fl, _) => fl
 | _ => []
def openS (s : St) : List Operand -> Bool
 | [] => false
 | x :: r => anyF (flS (ev s x)) || openS s r
def svC : CV -> SV
 | .v fl x => .inl (fl, x)
 | .a i off => .inr (i, off, none)
 | .l k => .c k
def cvOf : SV -> Option CV
 | .inl (fl, x) => some (.v fl x)
 | .inr (i, off, none) => some (.a i off)
 | .c k => some (.l k)
 | _ => none
def cvL : List SV -> Option (List CV)
 | [] => some []
 | x :: r => match cvOf x, cvL r with
   | some y, some l => some (y :: l)
   | _, _ => none
def mkFn (f : FuncId) : List CV -> List CV -> SV
 | [], [] => .inl ([], .func (.func f) #[] #[])
 | fs, cs => .fn f fs cs
def fnOf : SV -> Option (FuncId × List SV × List SV)
 | .fn f fs cs => some (f, fs.map svC, cs.map svC)
 | .inl (_, .func (.func f) ⟨[]⟩ ⟨[]⟩) => some (f, [], [])
 | _ => none
def getL (s : St) (k : Nat) : Option LE := match s.own.l[k]? with
 | some e => bif e.dead then none else some e
 | none => none
def getB (s : St) (i : Nat) : Option Blk := match s.own.b[i]? with
 | some b => bif isC b then some b else none
 | none => none
abbrev RO := SV × Bool × List (Bool × Bool)
def mkCells : List Value -> List Bool -> List SV
 | [], _ => []
 | v :: r, [] => .inl ([false], v) :: mkCells r []
 | v :: r, b :: fl => .inl ([b], v) :: mkCells r fl
def blk (cs : List Value) (t : TypeId) (fl : List Bool) : Blk := ⟨mkCells cs fl, t, .cells⟩
def valsS : List SV -> Option (List Value)
 | [] => some []
 | .inl (_, v) :: r => match valsS r with
   | some l => some (v :: l)
   | none => none
 | _ :: _ => none
def flsS : List SV -> List Bool
 | [] => []
 | x :: r => anyF (flS x) :: flsS r
def loadS (P : Program) (t : TypeId) (cs : List SV) (off : Nat) : Option SV :=
 match P.underlying t, P.info? t with
 | some d, some i =>
   bif aggD d then (bif Nat.ble (off + i.size) cs.length then (match valsS ((cs.drop off).take i.size) with
     | some vs => some (.inl (flsS ((cs.drop off).take i.size), .agg vs.toArray))
     | none => match cvL ((cs.drop off).take i.size) with
       | some l => some (.st l)
       | none => none) else none)
   else (match cs[off]? with
     | some .any => none
     | r => r)
 | _, _ => none
def oneC (s : St) : CV -> Bool
 | .v _ x => x.oneCell'
 | .a _ _ => true
 | .l k => match getL s k with
   | some _ => true
   | none => false
def cellsS (s : St) : SV -> Option (List SV)
 | .inl (fl, v) => bif v.cells.toList.all Value.oneCell' then some (mkCells v.cells.toList fl) else none
 | .inr p => some [.inr p]
 | .c k => match getL s k with
   | some _ => some [.c k]
   | none => none
 | .fn f fs cs => some [.fn f fs cs]
 | .st cs => bif cs.all (oneC s) then some (cs.map svC) else none
 | _ => none
def putLS : List SV -> Nat -> List SV -> List SV
 | c, _, [] => c
 | c, o, v :: r => putLS (c.set o v) (o + 1) r
def putQS (c : List SV) (o : Nat) (vs : List SV) : List SV := bif Nat.beq o 0 && Nat.beq vs.length c.length then vs else putLS c o vs
def storeS (P : Program) (t : TypeId) (cs : List SV) (off : Nat) (vs : List SV) : Option (List SV) :=
 match P.info? t with
 | some i => bif Nat.beq vs.length i.size && Nat.ble (off + i.size) cs.length then some (putQS cs off vs) else none
 | none => none
def seqB : Nat -> List (Nat × SV) -> Bool
 | _, [] => true
 | k, (i, _) :: r => Nat.beq i k && seqB (k + 1) r
def oneS (s : St) : SV -> Bool
 | .inl (_, v) => v.oneCell'
 | .inr _ => true
 | .c k => match getL s k with
   | some _ => true
   | none => false
 | .fn _ _ _ => true
 | _ => false
def litT (s : St) (size len : Nat) (parts : List (Nat × SV)) : Option (List SV) := match parts with
 | [(0, .st cs)] => bif Nat.beq len 1 && Nat.beq cs.length size && Nat.blt 0 size && Nat.ble size (2 ^ 24) then cellsS s (.st cs) else none
 | _ => none
def litS (P : Program) (s : St) (t : TypeId) (len : Nat) (parts : List (Nat × SV)) : Option (List SV × TypeId) :=
 match P.underlying t with
 | some (.slice e) => match P.info? e with
   | some i => match i.zero with
     | some z => bif Nat.beq i.size 1 && Nat.beq parts.length len && Nat.blt 0 len && Nat.ble len (2 ^ 24) && seqB 0 parts && parts.all (fun p => oneS s p.2) then some (parts.map (·.2), e) else (match litT s i.size len parts with
       | some us => some (us, e)
       | none => none)
     | none => none
   | none => none
 | _ => none
def isMkO : Op -> Bool
 | .makeSlice _ _ _ => true
 | _ => false
def generic (E : Env) (o : Oper) (s : St) : Option RO :=
 bif notSel o.op && o.op.operands.toList.all (fun x => isV (ev s x)) then
   bif isMkO o.op then none else match evalPure E.P (execOp (rho s) o) with
   | some (.value v) => some (.inl ([openS s o.op.operands.toList], v), false, [])
   | some (.enter f args) => match E.call f args with
     | some v => some (.inl ((List.replicate v.cells.size (openS s o.op.operands.toList)), v), true, [])
     | none => none
   | _ => none
 else none
def arith : BinOp -> Int -> Int -> Option Int
 | .add, a, b => some (a + b)
 | .sub, a, b => some (a - b)
 | .mul, a, b => some (a * b)
 | _, _, _ => none
def inI (x : Int) : Bool := decide (-9223372036854775808 <= x /\ x <= 9223372036854775807)
def idxB (n : Int) (len : Nat) : Bool := decide (0 <= n /\ n < len)
def arF (op : BinOp) (k : IntKind) (a b : Int) : Int := match op with
 | .add => k.wrap (a + b)
 | .sub => k.wrap (a - b)
 | .mul => k.wrap (a * b)
 | .shl => k.wrap (a * 2 ^ (min b.toNat k.bits))
 | .shr => a.fdiv (2 ^ (min b.toNat k.bits))
 | .and => bits .and k a b
 | .or => bits .or k a b
 | .xor => bits .xor k a b
 | .andNot => bits .andNot k a b
 | .quo => k.wrap (a.tdiv b)
 | .rem => a.tmod b
 | _ => 0
theorem arZ_ex : ∃ f : BinOp -> IntKind -> Int -> Int -> Int, ∀ op k a b, f op k a b = arF op k a b := ⟨_, fun _ _ _ _ => rfl⟩
noncomputable def arZ : BinOp -> IntKind -> Int -> Int -> Int := Classical.choose arZ_ex
theorem arZ_eq (op : BinOp) (k : IntKind) (a b : Int) : arZ op k a b = arF op k a b := Classical.choose_spec arZ_ex op k a b
theorem catZ_ex : ∃ f : ByteArray -> ByteArray -> ByteArray, ∀ a b, f a b = a ++ b := ⟨_, fun _ _ => rfl⟩
noncomputable def catZ : ByteArray -> ByteArray -> ByteArray := Classical.choose catZ_ex
theorem catZ_eq (a b : ByteArray) : catZ a b = a ++ b := Classical.choose_spec catZ_ex a b
theorem extZ_ex : ∃ f : ByteArray -> Int -> Int -> ByteArray, ∀ s l h, f s l h = s.extract l.toNat h.toNat := ⟨_, fun _ _ _ => rfl⟩
noncomputable def extZ : ByteArray -> Int -> Int -> ByteArray := Classical.choose extZ_ex
theorem extZ_eq (s : ByteArray) (l h : Int) : extZ s l h = s.extract l.toNat h.toNat := Classical.choose_spec extZ_ex s l h
theorem chrZ_ex : ∃ f : ByteArray -> Int -> Int, ∀ s i, f s i = (((s[i.toNat]?).getD 0).toNat : Int) := ⟨_, fun _ _ => rfl⟩
noncomputable def chrZ : ByteArray -> Int -> Int := Classical.choose chrZ_ex
theorem chrZ_eq (s : ByteArray) (i : Int) : chrZ s i = (((s[i.toNat]?).getD 0).toNat : Int) := Classical.choose_spec chrZ_ex s i
def fitS (a b : ByteArray) : Bool := decide (a.size + b.size <= 9223372036854775807)
def shOp : BinOp -> Bool
 | .shl => true
 | .shr => true
 | _ => false
def bitOp : BinOp -> Bool
 | .add => true
 | .sub => true
 | .mul => true
 | .and => true
 | .or => true
 | .xor => true
 | .andNot => true
 | _ => false
def divOp : BinOp -> Bool
 | .quo => true
 | .rem => true
 | _ => false
def isAdd : BinOp -> Bool
 | .add => true
 | _ => false
noncomputable def arS (E : Env) (o : Oper) (s : St) (op : BinOp) (g : List Bool) (k j : IntKind) (a b : Int) : Option RO :=
 bif shOp op then (bif anyF g then some (.inl ([true], (.int k (arZ op k a b))), false, [(pre (decide (0 <= b)), true)])
   else bif decide (0 <= b) then some (.inl ([true], (.int k (arZ op k a b))), false, []) else none)
 else bif bitOp op && decide (k = j) then some (.inl ([true], (.int k (arZ op k a b))), false, [])
 else bif divOp op && decide (k = j) then (bif anyF g then some (.inl ([true], (.int k (arZ op k a b))), false, [(pre (decide (b ≠ 0)), true)])
   else bif decide (b ≠ 0) then some (.inl ([true], (.int k (arZ op k a b))), false, []) else none)
 else generic E o s
def nilFS (E : Env) (op : BinOp) (t : TypeId) : Option RO :=
 match op, E.P.underlying t with
 | .eql, some (.func _ _ _) => some (.inl ([], .bool false), false, [])
 | .neq, some (.func _ _ _) => some (.inl ([], .bool true), false, [])
 | _, _ => none
noncomputable def binS (E : Env) (o : Oper) (s : St) (op : BinOp) (t : TypeId) (x y : Operand) : Option RO :=
 match ev s x, ev s y with
 | .inl (f, (.int k a)), .inl (g, (.int j b)) => match decide (k = j), cmpI op a b with
   | true, some r => some (.inl ([anyF f || anyF g], (.bool r)), false, [])
   | _, _ => match E.nowrap && (anyF f || anyF g) && decide (k = .i64) && decide (j = .i64), arith op a b with
     | true, some r => some (.inl ([true], (.int .i64 r)), false, [(pre (inI r), true)])
     | _, _ => bif E.opq && (anyF f || anyF g) then arS E o s op g k j a b else generic E o s
 | .inl (f, (.agg a)), .inl (g, (.agg b)) => match eqTop E.P op t (.agg a) (.agg b) with
   | some r => some (.inl ([anyF f || anyF g], (.bool r)), false, [])
   | none => generic E o s
 | .inl (f, (.string a)), .inl (g, (.string b)) => bif isAdd op && (anyF f || anyF g) then some (.inl ([true], (.string (catZ a b))), false, [(pre (fitS a b), true)]) else generic E o s
 | .fn _ _ _, .inl (_, .nilFunc) => nilFS E op t
 | _, _ => generic E o s
def plC : List CV -> Option (List Bool × List Value)
 | [] => some ([], [])
 | .v fl x :: r => match plC r with
   | some (g, l) => some (anyF fl :: g, x :: l)
   | none => none
 | _ :: _ => none
def cutC (cs : List CV) : SV := match plC cs with
 | some (g, l) => .inl (g, .agg l.toArray)
 | none => .st cs
def fieldS (P : Program) (t : TypeId) (f : Nat) (cs : List CV) : Option SV :=
 match P.underlying t with
 | some (.struct fs) => match fs[f]? with
   | some fl => match P.underlying fl.type, P.info? fl.type with
     | some d, some i => bif aggD d then (bif Nat.ble (fl.offset + i.size) cs.length then some (cutC ((cs.drop fl.offset).take i.size)) else none)
       else (match cs[fl.offset]? with
         | some c => some (svC c)
         | none => none)
     | _, _ => none
   | none => none
 | _ => none
def mkCV : List Value -> List Bool -> List CV
 | [], _ => []
 | v :: r, [] => .v [false] v :: mkCV r []
 | v :: r, b :: fl => .v [b] v :: mkCV r fl
def partC (s : St) : SV -> Option (List CV)
 | .inl (fl, v) => some (mkCV v.cells.toList fl)
 | .inr (i, off, none) => some [.a i off]
 | .c k => match getL s k with
   | some _ => some [.l k]
   | none => none
 | .st cs => some cs
 | _ => none
def putC : List CV -> Nat -> List CV -> List CV
 | c, _, [] => c
 | c, o, v :: r => putC (c.set o v) (o + 1) r
def fillC (place : Nat -> Option (Nat × Nat)) : List CV -> List (Nat × List CV) -> Option (List CV)
 | cs, [] => some cs
 | cs, (i, v) :: r => match place i with
   | some (off, size) => bif Nat.beq v.length size && Nat.ble (off + v.length) cs.length then fillC place (putC cs off v) r else none
   | none => none
def partsC (s : St) : List (Nat × SV) -> Option (List (Nat × List CV))
 | [] => some []
 | (i, x) :: r => match partC s x, partsC s r with
   | some c, some l => some ((i, c) :: l)
   | _, _ => none
def placesB (P : Program) (fs : List Field) : Option (List (Nat × Nat)) := match fs with
 | [] => some []
 | f :: r => match P.info? f.type, placesB P r with
   | some i, some l => some ((f.offset, i.size) :: l)
   | _, _ => none
def buildS (P : Program) (s : St) (t : TypeId) (parts : List (Nat × SV)) : Option SV :=
 match P.underlying t, P.info? t with
 | some (.struct fs), some i => match i.zero, placesB P fs.toList, partsC s parts with
   | some z, some pl, some l => match fillC (fun k => pl[k]?) (mkCV z.cells.toList []) l with
     | some cs => some (.st cs)
     | none => none
   | _, _, _ => none
 | _, _ => none
def boundS (s : St) (d : Nat) : Option Operand -> Option Int
 | none => some d
 | some x => match ev s x with
   | .inl (_, .int _ n) => some n
   | _ => none
theorem minZ_ex : ∃ f : Int -> Int -> Int, ∀ m n, f m n = if n < m then n else m := ⟨_, fun _ _ => rfl⟩
noncomputable def minZ : Int -> Int -> Int := Classical.choose minZ_ex
theorem minZ_eq (m n : Int) : minZ m n = if n < m then n else m := Classical.choose_spec minZ_ex m n
noncomputable def simRO0 (E : Env) (o : Oper) (s : St) : Option RO :=
 match o.op with
 | .move x => some (ev s x, false, [])
 | .assign x => some (ev s x, false, [])
 | .nilCheck x => match ev s x with
   | .inr (i, off, none) => some (.inr (i, off, none), false, [])
   | .inl (_, _) => generic E o s
   | _ => none
 | .load t x => match ev s x with
   | .inr (i, off, none) => match getB s i with
     | some b => match loadS E.P t b.cells off with
       | some v => some (v, false, [])
       | none => none
     | none => none
   | .inl (_, (.pointer (some ⟨g, off, none⟩))) => match E.glob g with
     | some cs => match loadB E.P t cs off with
       | some v => some (.inl ([], v), false, [])
       | none => none
     | none => none
   | .lp k j o sz => match getL s k with
     | some e => match loadB E.P t (e.el j) o with
       | some v => bif Nat.beq sz e.size then some (.inl (List.replicate v.cells.size true, v), false, [(pre (decide (j < e.n)), true)]) else none
       | none => none
     | none => none
   | _ => none
 | .fieldAddr t x f => match ev s x with
   | .inr (i, off, none) => match fieldB E.P t f off with
     | some off' => some (.inr (i, off', none), false, [])
     | none => none
   | .lp k j o sz => match getL s k, fieldB E.P t f o with
     | some e, some o' => bif Nat.beq sz e.size then some (.lp k j o' sz, false, [(pre (decide (j < e.n)), true)]) else none
     | _, _ => none
   | .inl (_, _) => generic E o s
   | _ => none
 | .indexAddr t x ix => match ev s x, ev s ix with
   | .inr (i, off, none), .inl (_, (.int k n)) => match E.P.underlying t with
     | some (.array len e) => match elemB E.P e len off n with
       | some off' => some (.inr (i, off', none), false, [])
       | none => none
     | _ => none
   | .inr (i, off, some (len, cap)), .inl (_, (.int k n)) => match E.P.underlying t with
     | some (.slice e) => match elemB E.P e len off n with
       | some off' => some (.inr (i, off', none), false, [])
       | none => none
     | _ => none
   | .c k, .inl (_, (.int _ n)) => match getL s k, E.P.underlying t with
     | some e, some (.slice et) => match E.P.info? et with
       | some i => bif Nat.beq i.size e.size then some (.lp k n.toNat 0 e.size, false, [(pre (idxB n e.n), true)]) else none
       | none => none
     | _, _ => none
   | _, _ => generic E o s
 | .binOp op t x y _ => binS E o s op t x y
 | .build t parts => match generic E o s with
   | some (.inl (fl, v), c) => some (.inl ((List.replicate v.cells.size (anyF fl)), v), c)
   | some r => some r
   | none => match buildS E.P s t (parts.toList.map fun p => (p.1, ev s p.2)) with
     | some x => some (x, false, [])
     | none => none
 | .field t x f => match ev s x with
   | .st cs => match fieldS E.P t f cs with
     | some y => some (y, false, [])
     | none => none
   | _ => match generic E o s with
     | some (.inl (_, v), c) => some (.inl ((fieldF E.P t f (flS (ev s x))), v), c)
     | r => r
 | .extract x i => match ev s x with
   | .tp l => match l[i]? with
     | some (.inl p) => some (.inl p, false, [])
     | some (.inr k) => some (.c k, false, [])
     | some (.st cs) => some (.st cs, false, [])
     | none => none
   | _ => generic E o s
 | .slice t x lo hi none => match ev s x with
   | .c k => match getL s k, E.P.underlying t with
     | some e, some (.slice et) => match E.P.info? et, boundS s 0 lo, boundS s e.n hi with
       | some i, some l, some h => bif Nat.beq i.size e.size && Nat.beq (E.P.elem t) et then some (.sub k l.toNat (h.toNat - l.toNat) e.size, false, [(pre (decide (0 <= l /\ l <= h /\ h <= e.n)), true)]) else none
       | _, _, _ => none
     | _, _ => none
   | .inl (f, .string a) => bif openS s o.op.operands.toList then (match E.P.underlying t, boundS s 0 lo, boundS s a.size hi with
     | some .string, some l, some h => some (.inl ([true], (.string (extZ a l h))), false, [(pre (decide (0 <= l /\ l <= h /\ h <= a.size)), true)])
     | _, _, _ => none) else generic E o s
   | _ => generic E o s
 | .index t x ix => match ev s x, ev s ix with
   | .inl (f, .string a), .inl (g, .int _ n) => bif anyF f || anyF g then (match E.P.underlying t with
     | some .string => some (.inl ([true], (.int .u8 (chrZ a n))), false, [(pre (idxB n a.size), true)])
     | _ => none) else generic E o s
   | _, _ => generic E o s
 | .makeFunc (.func f) first captured => match cvL (first.toList.map (ev s)), cvL (captured.toList.map (ev s)) with
   | some fs, some cs => some (mkFn f fs cs, false, [])
   | _, _ => none
 | .call { callee := .builtin .len, args := az, argTypes := ats } => match az.toList, ats.toList with
   | [x], [t] => match ev s x, E.P.underlying t with
     | .inr (i, off, some (len, cap)), some (.slice _) => some (.inl ([], (.int .i64 len)), false, [])
     | .c k, some (.slice _) => match getL s k with
       | some e => some (.inl ([e.opn], (.int .i64 e.n)), false, [])
       | none => none
     | _, _ => generic E o s
   | _, _ => generic E o s
 | .call { callee := .builtin .min, args := az, argTypes := ats } => match az.toList with
   | [x, y] => match ev s x, ev s y with
     | .inl (f, .int k m), .inl (g, .int _ n) => bif anyF f || anyF g then some (.inl ([true], (.int k (minZ m n))), false, []) else generic E o s
     | _, _ => generic E o s
   | _ => generic E o s
 | _ => generic E o s
def intOf : List Value -> Int
 | [.int _ x] => x
 | _ => 0
def strOf (n : Nat) (el : Nat -> List Value) : ByteArray := strOfNums ((List.range n).map fun j => intOf (el j))
theorem strZ_ex : ∃ f : Nat -> (Nat -> List Value) -> ByteArray, ∀ n el, f n el = strOf n el := ⟨_, fun _ _ => rfl⟩
noncomputable def strZ : Nat -> (Nat -> List Value) -> ByteArray := Classical.choose strZ_ex
theorem strZ_eq (n : Nat) (el : Nat -> List Value) : strZ n el = strOf n el := Classical.choose_spec strZ_ex n el
def areBytes (n : Nat) (el : Nat -> List Value) : Prop := ∀ j, j < n -> el j = [.int .u8 (intOf (el j))]
noncomputable def bytesB (n : Nat) (el : Nat -> List Value) : Bool := @decide (areBytes n el) (Classical.propDecidable _)
noncomputable def simCV (E : Env) (o : Oper) (s : St) : Option RO :=
 match o.op with
 | .convert t t' x => match ev s x with
   | .c k => match getL s k, E.P.underlying t, E.P.underlying t' with
     | some e, some (.slice et), some .string => match E.P.underlying et with
       | some (.int .u8) => bif Nat.beq e.size 1 then some (.inl ([true], .string (strZ e.n e.el)), false, [(pre (bytesB e.n e.el), true)]) else none
       | _ => none
     | _, _, _ => none
   | _ => none
 | _ => none
theorem lokZ_ex : ∃ f : List (Int × Value) -> Int -> Value -> Value, ∀ l a z, f l a z = (logL l a).getD z := ⟨_, fun _ _ _ => rfl⟩
noncomputable def lokZ : List (Int × Value) -> Int -> Value -> Value := Classical.choose lokZ_ex
theorem lokZ_eq (l : List (Int × Value)) (a : Int) (z : Value) : lokZ l a z = (logL l a).getD z := Classical.choose_spec lokZ_ex l a z
theorem hasZ_ex : ∃ f : List (Int × Value) -> Int -> Bool, ∀ l a, f l a = (logL l a).isSome := ⟨_, fun _ _ => rfl⟩
noncomputable def hasZ : List (Int × Value) -> Int -> Bool := Classical.choose hasZ_ex
theorem hasZ_eq (l : List (Int × Value)) (a : Int) : hasZ l a = (logL l a).isSome := Classical.choose_spec hasZ_ex l a
def numV : Value -> Int
 | .int _ x => x
 | _ => 0
def booV : Value -> Bool
 | .bool b => b
 | _ => false
def txtV : Value -> ByteArray
 | .string s => s
 | _ => ByteArray.empty
def formV : Value -> Value -> Option Value
 | .agg ⟨[]⟩, _ => some (.agg #[])
 | .int k _, v => some (.int k (numV v))
 | .bool _, v => some (.bool (booV v))
 | .string _, v => some (.string (txtV v))
 | _, _ => none
def FmtL (l : List (Int × Value)) (z : Value) : Prop := ∀ p ∈ l, formV z p.2 = some p.2
noncomputable def fmtB (l : List (Int × Value)) (z : Value) : Bool := @decide (FmtL l z) (Classical.propDecidable _)
theorem fmtB_ok {l : List (Int × Value)} {z : Value} : pre (fmtB l z) = true ↔ FmtL l z := by unfold pre fmtB; exact @decide_eq_true_iff _ (Classical.propDecidable _)
theorem formV_self {z v v' : Value} (h : formV z v = some v') : formV z z = some z := by
 unfold formV at h
 split at h <;> first | rfl | cases h
theorem formV_look {l : List (Int × Value)} {z v' : Value} {a : Int} (hf : FmtL l z) (h : formV z (lokZ l a z) = some v') : v' = (logL l a).getD z := by
 rw [lokZ_eq] at h
 have key : ∀ l, FmtL l z -> formV z ((logL l a).getD z) = some ((logL l a).getD z) := fun l => by
   induction l with
   | nil => exact fun _ => formV_self h
   | cons p r ih =>
     intro hl
     obtain ⟨k, v⟩ := p
     unfold logL
     cases hk : (k == a)
     . exact ih fun p hp => hl p (List.mem_cons_of_mem _ hp)
     . exact hl (k, v) List.mem_cons_self
 rw [key l hf] at h
 exact (Option.some.inj h).symm
noncomputable def simMV (E : Env) (o : Oper) (s : St) : Option RO :=
 match o.op with
 | .lookup t x ix ok => match ev s x, ev s ix with
   | .mp i, .inl (_, .int .i64 a) => match s.own.b[i]?, E.P.underlying t with
     | some b, some (.map kt et) => match b.kd, E.P.underlying kt, E.P.info? et with
       | .map T l, some (.int .i64), some ti => match ti.zero with
         | some z => match formV z (lokZ l a z) with
           | some u => bif ok then some (.tp [.inl (List.replicate z.cells.size true, u), .inl ([true], .bool (hasZ l a))], false, [(pre (fmtB l z), true), (pre (inI a), true)])
             else some (.inl (List.replicate z.cells.size true, u), false, [(pre (fmtB l z), true), (pre (inI a), true)])
           | none => none
         | none => none
       | _, _, _ => none
     | _, _ => none
   | _, _ => none
 | _ => none
theorem lokV_ex : ∃ f : List (Value × Value) -> Value -> Value -> Value, ∀ l a z, f l a z = (logV l a).getD z := ⟨_, fun _ _ _ => rfl⟩
noncomputable def lokV : List (Value × Value) -> Value -> Value -> Value := Classical.choose lokV_ex
theorem lokV_eq (l : List (Value × Value)) (a z : Value) : lokV l a z = (logV l a).getD z := Classical.choose_spec lokV_ex l a z
theorem hasV_ex : ∃ f : List (Value × Value) -> Value -> Bool, ∀ l a, f l a = (logV l a).isSome := ⟨_, fun _ _ => rfl⟩
noncomputable def hasV : List (Value × Value) -> Value -> Bool := Classical.choose hasV_ex
theorem hasV_eq (l : List (Value × Value)) (a : Value) : hasV l a = (logV l a).isSome := Classical.choose_spec hasV_ex l a
def FmtV (l : List (Value × Value)) (z : Value) : Prop := ∀ p ∈ l, formV z p.2 = some p.2
noncomputable def fmtVB (l : List (Value × Value)) (z : Value) : Bool := @decide (FmtV l z) (Classical.propDecidable _)
theorem fmtVB_ok {l : List (Value × Value)} {z : Value} : pre (fmtVB l z) = true ↔ FmtV l z := by unfold pre fmtVB; exact @decide_eq_true_iff _ (Classical.propDecidable _)
noncomputable def keysB (P : Program) (k : TypeId) (a : Value) (l : List (Value × Value)) : Bool := @decide (KeysIn P k (a :: l.map Prod.fst)) (Classical.propDecidable _)
theorem keysB_ok {P : Program} {k : TypeId} {a : Value} {l : List (Value × Value)} : pre (keysB P k a l) = true ↔ KeysIn P k (a :: l.map Prod.fst) := by unfold pre keysB; exact @decide_eq_true_iff _ (Classical.propDecidable _)
theorem formV_lookV {l : List (Value × Value)} {z v' a : Value} (hf : FmtV l z) (h : formV z (lokV l a z) = some v') : v' = (logV l a).getD z := by
 rw [lokV_eq] at h
 have key : ∀ l, FmtV l z -> formV z ((logV l a).getD z) = some ((logV l a).getD z) := fun l => by
   induction l with
   | nil => exact fun _ => formV_self h
   | cons p r ih =>
     intro hl
     obtain ⟨k, v⟩ := p
     by_cases hk : k = a
     . rw [logV_put, if_pos hk]
       exact hl (k, v) List.mem_cons_self
     . rw [logV_put, if_neg hk]
       exact ih fun p hp => hl p (List.mem_cons_of_mem _ hp)
 rw [key l hf] at h
 exact (Option.some.inj h).symm
noncomputable def simMW (E : Env) (o : Oper) (s : St) : Option RO :=
 match o.op with
 | .lookup t x ix ok => match ev s x, ev s ix with
   | .mp i, .inl (_, a) => match s.own.b[i]?, E.P.underlying t with
     | some b, some (.map kt et) => match b.kd, E.P.info? et with
       | .mapV T l, some ti => match ti.zero with
         | some z => match formV z (lokV l a z) with
           | some u => bif ok then some (.tp [.inl (List.replicate z.cells.size true, u), .inl ([true], .bool (hasV l a))], false, [(pre (fmtVB l z), true), (pre (keysB E.P kt a l), true)])
             else some (.inl (List.replicate z.cells.size true, u), false, [(pre (fmtVB l z), true), (pre (keysB E.P kt a l), true)])
           | none => none
         | none => none
       | _, _ => none
     | _, _ => none
   | _, _ => none
 | _ => none
def intsAt (k : IntKind) : List SV -> Option (List Int)
 | [] => some []
 | .inl (_, .int j x) :: r => bif decide (j = k) then (match intsAt k r with
   | some l => some (x :: l)
   | none => none) else none
 | _ :: _ => none
def intsV (k : IntKind) : List Value -> Option (List Int)
 | [] => some []
 | .int j x :: r => bif decide (j = k) then (match intsV k r with
   | some l => some (x :: l)
   | none => none) else none
 | _ :: _ => none
theorem pickZ_ex : ∃ f : List Int -> Int -> Int, ∀ xs n, f xs n = (xs[n.toNat]?).getD 0 := ⟨_, fun _ _ => rfl⟩
noncomputable def pickZ : List Int -> Int -> Int := Classical.choose pickZ_ex
theorem pickZ_eq (xs : List Int) (n : Int) : pickZ xs n = (xs[n.toNat]?).getD 0 := Classical.choose_spec pickZ_ex xs n
theorem eqLZ_ex : ∃ f : List Int -> List Int -> Bool, ∀ xs ys, f xs ys = (xs == ys) := ⟨_, fun _ _ => rfl⟩
noncomputable def eqLZ : List Int -> List Int -> Bool := Classical.choose eqLZ_ex
theorem eqLZ_eq (xs ys : List Int) : eqLZ xs ys = (xs == ys) := Classical.choose_spec eqLZ_ex xs ys
theorem selZ_ex : ∃ f : Int -> Nat -> Int -> Int -> Int, ∀ n j v x, f n j v x = bif n == (j : Int) then v else x := ⟨_, fun _ _ _ _ => rfl⟩
noncomputable def selZ : Int -> Nat -> Int -> Int -> Int := Classical.choose selZ_ex
theorem selZ_eq (n : Int) (j : Nat) (v x : Int) : selZ n j v x = bif n == (j : Int) then v else x := Classical.choose_spec selZ_ex n j v x
noncomputable def selL (k : IntKind) (n v : Int) : Nat -> List Int -> List SV
 | _, [] => []
 | j, x :: r => .inl ([true], .int k (selZ n j v x)) :: selL k n v (j + 1) r
noncomputable def simIV (E : Env) (o : Oper) (s : St) : Option RO :=
 match o.op with
 | .indexAddr t x ix => bif E.mks then (match ev s x, ev s ix, E.P.underlying t with
   | .inr (i, off, none), .inl (g, .int k n), some (.array len e) => bif anyF g then (match E.P.info? e with
     | some ti => bif Nat.beq ti.size 1 then some (.ia i off len n, false, [(pre (idxB n len), true)]) else none
     | none => none) else none
   | .inl (_, .pointer (some ⟨gl, off, none⟩)), .inl (g, .int k n), some (.array len e) => bif anyF g then (match E.P.info? e with
     | some ti => bif Nat.beq ti.size 1 then some (.inl ([true], .pointer (some ⟨gl, off + n.toNat, none⟩)), false, [(pre (idxB n len), true)]) else none
     | none => none) else none
   | _, _, _ => none) else none
 | .load t x => match ev s x with
   | .ia i off len n => match getB s i, E.P.underlying t, E.P.info? t with
     | some b, some (.int k), some _ => match intsAt k ((b.cells.drop off).take len) with
       | some xs => bif Nat.beq xs.length len then some (.inl ([true], .int k (pickZ xs n)), false, [(pre (idxB n len), true)]) else none
       | none => none
     | _, _, _ => none
   | .inl (f, .pointer (some ⟨g, o, none⟩)) => bif E.mks && anyF f then (match E.glob g, E.P.underlying t, E.P.info? t with
     | some cs, some (.int k), some _ => match intsV k cs with
       | some xs => some (.inl ([true], .int k (pickZ xs (o : Nat))), false, [(pre (decide (o < xs.length)), true)])
       | none => none
     | _, _, _ => none) else none
   | _ => none
 | .binOp .eql t x y _ => bif E.mks then (match ev s x, ev s y, E.P.underlying t with
   | .inl (_, .agg a), .inl (_, .agg b), some (.array len e) => match E.P.underlying e, E.P.info? e with
     | some (.int k), some ti => match intsV k a.toList, intsV k b.toList with
       | some xs, some ys => bif Nat.beq xs.length len && Nat.beq ys.length len && Nat.beq ti.size 1 && !E.P.eqGuardType E.P.depth t then some (.inl ([true], .bool (eqLZ xs ys)), false, []) else none
       | _, _ => none
     | _, _ => none
   | _, _, _ => none) else none
 | _ => none
def rowG (gl : Nat -> Option (List Value)) (v : Value) (e : LE) : Prop := (0 < e.size /\ ∀ j, j < e.n -> (e.el j).length = e.size /\ (e.el j).all Value.oneCell' = true) /\
 ∃ a cap, v = .slice a e.n cap /\ e.n <= cap /\ (0 < e.n -> ∃ b off cs, a = some ⟨b, off, none⟩ /\ gl b = some cs /\ ∀ j, j < e.n -> ∀ (o : Nat) c, (e.el j)[o]? = some c -> cs[off + j * e.size + o]? = some c)
noncomputable def rowB (gl : Nat -> Option (List Value)) (v : Value) (e : LE) : Bool := @decide (rowG gl v e) (Classical.propDecidable _)
theorem rowB_ok {gl : Nat -> Option (List Value)} {v : Value} {e : LE} : pre (rowB gl v e) = true ↔ rowG gl v e := by unfold pre rowB; exact @decide_eq_true_iff _ (Classical.propDecidable _)
noncomputable def simRP (E : Env) (o : Oper) (s : St) : Option RO :=
 match o.op with
 | .indexAddr t x ix => match E.rowT t, ev s x, ev s ix with
   | some R, .inl (_, v), .inl (_, .int _ n) => match E.P.underlying t with
     | some (.slice et) => match E.P.info? et with
       | some i => bif Nat.beq i.size (R v).size then some (.rp v (R v) n.toNat 0, false, [(pre (rowB E.glob v (R v)), true), (pre (idxB n (R v).n), true)]) else none
       | none => none
     | _ => none
   | _, _, _ => none
 | .fieldAddr t x f => match ev s x with
   | .rp v e j p => match fieldB E.P t f p with
     | some p' => some (.rp v e j p', false, [(pre (rowB E.glob v e), true), (pre (decide (j < e.n)), true)])
     | none => none
   | _ => none
 | .load t x => match ev s x with
   | .rp v e j p => match loadB E.P t (e.el j) p with
     | some u => some (.inl (List.replicate u.cells.size true, u), false, [(pre (rowB E.glob v e), true), (pre (decide (j < e.n)), true)])
     | none => none
   | _ => none
 | .call { callee := .builtin .len, args := az, argTypes := ats } => match az.toList, ats.toList with
   | [x], [t] => match E.rowT t, ev s x, E.P.underlying t with
     | some R, .inl (_, v), some (.slice _) => some (.inl ([true], .int .i64 (R v).n), false, [(pre (rowB E.glob v (R v)), true)])
     | _, _, _ => none
   | _, _ => none
 | _ => none
noncomputable def simRO1 (E : Env) (o : Oper) (s : St) : Option RO := match simCV E o s with
 | some r => some r
 | none => match simMV E o s with
   | some r => some r
   | none => match simIV E o s with
     | some r => some r
     | none => match simRP E o s with
       | some r => some r
       | none => simRO0 E o s
noncomputable def simRO (E : Env) (o : Oper) (s : St) : Option RO := match simMW E o s with
 | some r => some r
 | none => simRO1 E o s
def chunks (size : Nat) : Nat -> List Value -> List (List Value)
 | 0, _ => []
 | m + 1, cs => cs.take size :: chunks size m (cs.drop size)
def tabE (l : List (List Value)) : Nat -> List Value := fun j => (l[j]?).getD []
def newsOf (s : St) (size : Nat) : SV -> Option (Nat × (Nat -> List Value) × Bool)
 | .c k => match getL s k with
   | some e => bif Nat.beq e.size size then some (e.n, e.el, e.opn) else none
   | none => none
 | .inr (i, off, some (len, cap)) => match getB s i with
   | some b => match valsS ((b.cells.drop off).take (len * size)) with
     | some vs => bif Nat.ble (off + len * size) b.cells.length && vs.all Value.oneCell' then some (len, tabE (chunks size len vs), false) else none
     | none => none
   | none => none
 | _ => none
def baseOf (s : St) (t : TypeId) (size : Nat) : SV -> Option (Nat × (Nat -> List Value) × Bool × Option Nat)
 | .c k => match getL s k with
   | some e => bif e.own && Nat.beq e.elT t && Nat.beq e.size size && Nat.ble s.llo k then some (e.n, e.el, e.opn, some k) else none
   | none => none
 | .inl (_, .slice none 0 0) => some (0, fun _ => [], false, none)
 | _ => none
def baseB (s : St) (t : TypeId) (size : Nat) : SV -> Option (Nat × (Nat -> List Value))
 | .inr (i, 0, some (len, cap)) => match getB s i with
   | some b => match valsS b.cells with
     | some vs => bif Nat.beq b.elem t && Nat.beq len cap && Nat.beq vs.length (len * size) && vs.all Value.oneCell' && Nat.ble len (2 ^ 24) then some (len, tabE (chunks size len vs)) else none
     | none => none
   | none => none
 | _ => none
def killL (l : List LE) : Option Nat -> List LE
 | none => l
 | some k => match l[k]? with
   | some e => l.set k { e with dead := true }
   | none => l
def joinE (n : Nat) (f g : Nat -> List Value) : Nat -> List Value := fun i => bif Nat.blt i n then f i else g (i - n)
def bldFree (s : St) (t : TypeId) : Bool := s.own.b.all fun b => match b.kd with
 | .bld _ _ e _ => !Nat.beq e t
 | _ => true
def zeroBld : List Value -> Bool
 | [.pointer none, .slice none 0 0] => true
 | _ => false
def bldOf (E : Env) (t : TypeId) (zs : List Value) : Option TypeId := match E.bt with
 | some (T, e) => bif Nat.beq T t && zeroBld zs && !Nat.beq T e then some e else none
 | none => none
def setE (f : Nat -> List Value) (j : Nat) (cs : List Value) : Nat -> List Value := fun i => bif Nat.beq i j then cs else f i
def stoL (E : Env) (s : St) (t : TypeId) (k j o sz : Nat) (v : Value) : Option (LE × List (Bool × Bool)) := match getL s k, E.P.info? t with
 | some e, some i => bif e.own && Nat.ble s.llo k && Nat.beq sz e.size && bldFree s e.elT && Nat.beq v.cells.toList.length i.size && Nat.ble (o + i.size) e.size && v.cells.toList.all Value.oneCell' then
     some ({ e with el := setE e.el j (putL (e.el j) o v.cells.toList) }, [(pre (decide (j < e.n)), true)]) else none
 | _, _ => none
def simFX0 (E : Env) (o : Oper) (s : St) : Option (SV × Mem × List (Bool × Bool)) :=
 match o.op with
 | .alloc t => match E.P.info? t with
   | some i => match i.zero with
     | some z => match bldOf E t z.cells.toList with
       | some e => some (.inr (s.own.b.length, 0, none), { s.own with b := s.own.b ++ [⟨[], 0, .bld [] t e ByteArray.empty⟩] }, [])
       | none => some (.inr (s.own.b.length, 0, none), { s.own with b := s.own.b ++ [blk z.cells.toList t []] }, [])
     | none => none
   | none => none
 | .range t x => match ev s x, E.P.underlying t with
   | .inl (fl, .string str), some .string => some (.inr (s.own.b.length, 0, none), { s.own with b := s.own.b ++ [⟨[], 0, .iter fl str 0⟩] }, [])
   | _, _ => none
 | .box t x => match ev s x with
   | .inl (fl, y) => some (.inr (s.own.b.length, 0, none), { s.own with b := s.own.b ++ [blk y.cells.toList t fl] }, [])
   | y => match cellsS s y with
     | some cs => some (.inr (s.own.b.length, 0, none), { s.own with b := s.own.b ++ [⟨cs, t, .cells⟩] }, [])
     | none => none
 | .store t x y => match ev s x, cellsS s (ev s y) with
   | .inr (i, off, none), some us => bif Nat.ble s.lo i then (match getB s i with
     | some b => bif bldFree s b.elem then (match storeS E.P t b.cells off us with
       | some cs => some (.inl ([], undef), { s.own with b := s.own.b.set i ⟨cs, b.elem, .cells⟩ }, [])
       | none => none) else none
     | none => none) else none
   | .lp k j o' sz, _ => match ev s y with
     | .inl (_, v) => match stoL E s t k j o' sz v with
       | some (e, q) => some (.inl ([], undef), { s.own with l := s.own.l.set k e }, q)
       | none => none
     | _ => none
   | _, _ => none
 | .makeSlice t l c => match ev s l, ev s c, E.P.underlying t with
   | .inl (f, .int _ n), .inl (_, .int _ m), some (.slice e) => match E.P.info? e with
     | some i => match i.zero with
       | some z => bif Nat.beq z.cells.size i.size && Nat.blt 0 i.size && z.cells.toList.all Value.oneCell' then
           some (.c s.own.l.length, { s.own with l := s.own.l ++ [⟨e, i.size, n.toNat, fun _ => z.cells.toList, true, false, anyF f⟩] }, [(pre (decide (n = m /\ 0 <= n /\ i.bytes * n.toNat <= 281474976710656 /\ n.toNat <= maxLen)), true)]) else none
       | none => none
     | none => none
   | _, _, _ => none
 | .buildSlice t len parts => bif parts.toList.all (fun p => isV (ev s p.2)) then
     (match litB E.P t len (parts.toList.map fun p => (p.1, rho s p.2)) with
     | some (cells, e) => some (.inr (s.own.b.length, 0, some (len, len)), { s.own with b := s.own.b ++ [blk cells e (bif E.mks then List.replicate cells.length (openS s (parts.toList.map (·.2))) else [])] }, [])
     | none => none)
   else (match litS E.P s t len (parts.toList.map fun p => (p.1, ev s p.2)) with
     | some (cells, e) => some (.inr (s.own.b.length, 0, some (len, len)), { s.own with b := s.own.b ++ [⟨cells, e, .cells⟩] }, [])
     | none => none)
 | .call { callee := .builtin .append, args := az, argTypes := ats } => match az.toList, ats.toList with
   | [x, y], [t, t'] => bif Nat.beq t t' then (match E.P.underlying t with
     | some (.slice e) => match E.P.info? e with
       | some i => match i.zero with
         | some z => bif Nat.beq z.cells.size i.size && Nat.blt 0 i.size && bldFree s e then (match baseOf s e i.size (ev s x), newsOf s i.size (ev s y) with
           | some (n, f, o1, k?), some (m, g, o2) =>
             some (.c s.own.l.length, { s.own with l := killL s.own.l k? ++ [⟨e, i.size, n + m, joinE n f g, true, false, o1 || o2⟩] }, [(pre (decide (n + m <= maxLen /\ (n + m) * i.bytes <= 140737488355328 /\ 0 < m)), true)])
           | _, _ => match baseB s e i.size (ev s x), newsOf s i.size (ev s y) with
             | some (n, f), some (m, g, o2) =>
               some (.c s.own.l.length, { s.own with l := s.own.l ++ [⟨e, i.size, n + m, joinE n f g, true, false, o2⟩] }, [(pre (decide (n + m <= maxLen /\ (n + m) * i.bytes <= 140737488355328 /\ 0 < m)), true)])
             | _, _ => none) else none
         | none => none
       | none => none
     | _ => none) else none
   | _, _ => none
 | _ => none
def baseF (s : St) (size : Nat) : SV -> Option (Nat × (Nat -> List Value))
 | .inr (i, 0, some (len, cap)) => match s.own.b[i]? with
   | some b => match b.kd, valsS b.cells with
     | .shut, some vs => bif Nat.beq len cap && Nat.beq vs.length (len * size) && vs.all Value.oneCell' && Nat.ble len (2 ^ 24) then some (len, tabE (chunks size len vs)) else none
     | _, _ => none
   | none => none
 | _ => none
def simGX (E : Env) (o : Oper) (s : St) : Option (SV × Mem × List (Bool × Bool)) :=
 match o.op with
 | .slice t x lo hi none => bif E.cut then (match ev s x with
   | .c k => match getL s k, E.P.underlying t with
     | some e, some (.slice et) => match E.P.info? et, boundS s 0 lo, boundS s e.n hi with
       | some i, some l, some h => bif Nat.beq i.size e.size && Nat.beq (E.P.elem t) et && !e.own then
           some (.c s.own.l.length, { s.own with l := s.own.l ++ [⟨e.elT, e.size, h.toNat - l.toNat, fun j => e.el (l.toNat + j), false, false, true⟩] }, [(pre (decide (0 <= l /\ l <= h /\ h <= e.n)), true)]) else none
       | _, _, _ => none
     | _, _ => none
   | _ => none) else none
 | .convert t t' x => match ev s x with
   | .inr (i, 0, some (len, cap)) => bif Nat.ble s.lo i && Nat.beq t t' then (match getB s i, E.P.underlying t with
     | some b, some (.slice et) => match E.P.underlying et with
       | some (.int .u8) => bif bldFree s b.elem then some (.inr (i, 0, some (len, cap)), { s.own with b := s.own.b.set i ⟨b.cells, b.elem, .shut⟩ }, []) else none
       | _ => none
     | _, _ => none) else none
   | _ => none
 | .call { callee := .builtin .append, args := az, argTypes := ats } => match az.toList, ats.toList with
   | [x, y], [t, t'] => bif Nat.beq t t' then (match E.P.underlying t with
     | some (.slice e) => match E.P.info? e with
       | some i => match i.zero with
         | some z => bif Nat.beq z.cells.size i.size && Nat.blt 0 i.size then (match baseF s i.size (ev s x), newsOf s i.size (ev s y) with
           | some (n, f), some (m, g, o2) =>
             some (.c s.own.l.length, { s.own with l := s.own.l ++ [⟨e, i.size, n + m, joinE n f g, true, false, o2⟩] }, [(pre (decide (n + m <= maxLen /\ (n + m) * i.bytes <= 140737488355328 /\ 0 < m)), true)])
           | _, _ => none) else none
         | none => none
       | none => none
     | _ => none) else none
   | _, _ => none
 | _ => none
def simLX (E : Env) (o : Oper) (s : St) : Option (SV × Mem × List (Bool × Bool)) :=
 match o.op with
 | .buildSlice t len parts => bif E.lit && parts.toList.all (fun p => isV (ev s p.2)) then (match litB E.P t len (parts.toList.map fun p => (p.1, rho s p.2)) with
   | some (cells, e) => match E.P.info? e with
     | some i => bif Nat.blt 0 i.size && Nat.beq cells.length (len * i.size) && cells.all Value.oneCell' && Nat.ble len (2 ^ 24) then
         some (.c s.own.l.length, { s.own with l := s.own.l ++ [⟨e, i.size, len, tabE (chunks i.size len cells), true, false, true⟩] }, []) else none
     | none => none
   | none => none) else none
 | _ => none
def simMK (E : Env) (o : Oper) (s : St) : Option (LE × List (Bool × Bool)) :=
 match o.op with
 | .makeSlice t l c => match ev s l, ev s c, E.P.underlying t with
   | .inl (f, .int _ n), .inl (_, .int _ m), some (.slice e) => match E.P.info? e with
     | some i => match i.zero with
       | some z => bif Nat.beq z.cells.size i.size && Nat.blt 0 i.size && z.cells.toList.all Value.oneCell' then
           some (⟨e, i.size, n.toNat, fun _ => z.cells.toList, true, false, anyF f⟩, [(pre (decide (n = m /\ 0 <= n /\ i.bytes * n.toNat <= 281474976710656 /\ n.toNat <= maxLen)), true)]) else none
       | none => none
     | none => none
   | _, _, _ => none
 | _ => none
noncomputable def simIX (E : Env) (o : Oper) (s : St) : Option (SV × Mem × List (Bool × Bool)) :=
 match o.op with
 | .store t x y => match ev s x, ev s y with
   | .ia i off len n, .inl (_, .int k v) => bif Nat.ble s.lo i then (match getB s i, E.P.info? t with
     | some b, some ti => bif bldFree s b.elem && Nat.beq ti.size 1 then (match intsAt k ((b.cells.drop off).take len) with
       | some xs => bif Nat.beq xs.length len then some (.inl ([], undef), { s.own with b := s.own.b.set i ⟨b.cells.take off ++ (selL k n v 0 xs ++ b.cells.drop (off + len)), b.elem, .cells⟩ }, [(pre (idxB n len), true)]) else none
       | none => none) else none
     | _, _ => none) else none
   | _, _ => none
 | _ => none
def simMX (E : Env) (o : Oper) (s : St) : Option (SV × Mem × List (Bool × Bool)) :=
 match o.op with
 | .makeMap t none => some (.mp s.own.b.length, { s.own with b := s.own.b ++ [⟨[], 0, .map t []⟩] }, [])
 | .mapUpdate t m ix y => match ev s m, ev s ix, ev s y with
   | .mp i, .inl (_, .int .i64 a), .inl (_, v) => bif Nat.ble s.lo i then (match s.own.b[i]?, E.P.underlying t with
     | some b, some (.map kt et) => match b.kd, E.P.underlying kt with
       | .map T l, some (.int .i64) => some (.inl ([], undef), { s.own with b := s.own.b.set i ⟨[], 0, .map T ((a, v) :: l)⟩ }, [(pre (decide (inI a = true /\ l.length < maxLen)), true)])
       | _, _ => none
     | _, _ => none) else none
   | _, _, _ => none
 | _ => none
noncomputable def simMY (E : Env) (o : Oper) (s : St) : Option (SV × Mem × List (Bool × Bool)) :=
 match o.op with
 | .makeMap t none => match E.P.underlying t with
   | some (.map kt _) => match E.P.underlying kt with
     | some (.int .i64) => none
     | _ => some (.mp s.own.b.length, { s.own with b := s.own.b ++ [⟨[], 0, .mapV t []⟩] }, [])
   | _ => none
 | .mapUpdate t m ix y => match ev s m, ev s ix, ev s y with
   | .mp i, .inl (_, a), .inl (_, v) => bif Nat.ble s.lo i then (match s.own.b[i]?, E.P.underlying t with
     | some b, some (.map kt et) => match b.kd with
       | .mapV T l => some (.inl ([], undef), { s.own with b := s.own.b.set i ⟨[], 0, .mapV T ((a, v) :: l)⟩ }, [(pre (decide (l.length < maxLen)), true), (pre (keysB E.P kt a l), true)])
       | _ => none
     | _, _ => none) else none
   | _, _, _ => none
 | _ => none
def simNA (E : Env) (o : Oper) (s : St) : Option (SV × Mem × List (Bool × Bool)) :=
 match o.op, o.dst with
 | .call { callee := .builtin .append, args := az, argTypes := ats }, some d => bif E.non.any (Nat.beq d) then (match az.toList, ats.toList with
   | [x, y], [t, t'] => bif Nat.beq t t' then (match E.P.underlying t, ev s x, ev s y with
     | some (.slice e), .c k, .c k2 => match E.P.info? e, getL s k, getL s k2 with
       | some _, some _, some e2 => some (.c k, s.own, [(pre (decide (e2.n = 0)), true)])
       | _, _, _ => none
     | _, _, _ => none) else none
   | _, _ => none) else none
 | _, _ => none
def simNB (E : Env) (o : Oper) (s : St) : Option (SV × Mem × List (Bool × Bool)) :=
 match o.op, o.dst with
 | .call { callee := .builtin .append, args := az, argTypes := ats }, some d => match az.toList, ats.toList with
   | [x, y], [t, t'] => bif Nat.beq t t' then (match E.P.underlying t, ev s x, ev s y with
     | some (.slice e), .inl (_, .slice none 0 0), .c k2 => bif E.non.any (Nat.beq d) then (match E.P.info? e, getL s k2 with
       | some _, some e2 => some (.inl ([], .slice none 0 0), s.own, [(pre (decide (e2.n = 0)), true)])
       | _, _ => none) else none
     | some (.slice e), .inl (_, .slice none 0 0), .inl (_, .slice none 0 0) => match E.P.info? e with
       | some _ => some (.inl ([], .slice none 0 0), s.own, [])
       | none => none
     | _, _, _ => none) else none
   | _, _ => none
 | _, _ => none
def simAG (E : Env) (o : Oper) (s : St) : Option (SV × Mem × List (Bool × Bool)) :=
 match o.op with
 | .call { callee := .builtin .append, args := az, argTypes := ats } => match az.toList, ats.toList with
   | [x, y], [t, t'] => match E.P.underlying t, E.P.underlying t', ev s y with
     | some (.slice e), some (.int .i64), .inl (fl, .int .i64 m) => match E.P.info? e with
       | some i => match i.zero with
         | some z => bif Nat.beq z.cells.size i.size && Nat.blt 0 i.size && bldFree s e && z.cells.toList.all Value.oneCell' then (match baseOf s e i.size (ev s x) with
           | some (n, f, o1, k?) => some (.c s.own.l.length, { s.own with l := killL s.own.l k? ++ [⟨e, i.size, n + m.toNat, joinE n f (fun _ => z.cells.toList), true, false, o1 || anyF fl⟩] }, [(pre (decide (0 <= m /\ n + m.toNat <= maxLen /\ (n + m.toNat) * i.bytes <= 140737488355328)), true)])
           | none => none) else none
         | none => none
       | none => none
     | _, _, _ => none
   | _, _ => none
 | _ => none
noncomputable def simFX1 (E : Env) (o : Oper) (s : St) : Option (SV × Mem × List (Bool × Bool)) := match simLX E o s with
 | some r => some r
 | none => match simMX E o s with
   | some r => some r
   | none => match simIX E o s with
     | some r => some r
     | none => match simFX0 E o s with
       | some r => some r
       | none => simGX E o s
noncomputable def simFX3 (E : Env) (o : Oper) (s : St) : Option (SV × Mem × List (Bool × Bool)) := match simNA E o s with
 | some r => some r
 | none => simFX1 E o s
noncomputable def simFX4 (E : Env) (o : Oper) (s : St) : Option (SV × Mem × List (Bool × Bool)) := match simNB E o s with
 | some r => some r
 | none => simFX3 E o s
noncomputable def simFX6 (E : Env) (o : Oper) (s : St) : Option (SV × Mem × List (Bool × Bool)) := match simAG E o s with
 | some r => some r
 | none => simFX4 E o s
noncomputable def simFX2 (E : Env) (o : Oper) (s : St) : Option (SV × Mem × List (Bool × Bool)) := match simMY E o s with
 | some r => some r
 | none => simFX6 E o s
def getIn (e : LE) : LE := { e with own := false, dead := false }
noncomputable def simRW (E : Env) (o : Oper) (s : St) : Option (SV × Mem × List (Bool × Bool)) :=
 match o.dst with
 | some d => match E.rowE d with
   | some R => match simRO E o s with
     | some (.inl (_, v), false, qs) => some (.c s.own.l.length, { s.own with l := s.own.l ++ [getIn (R v)] }, (pre (rowB E.glob v (getIn (R v))), true) :: qs)
     | _ => none
   | none => none
 | none => none
noncomputable def simRS (E : Env) (o : Oper) (s : St) : Option (SV × Mem × List (Bool × Bool)) :=
 match o.dst with
 | some d => match E.rowE d with
   | some R => match simRO E o s with
     | some (.inl (_, .agg cs), false, qs) => match cs.toList with
       | v :: r => some (.st (.l s.own.l.length :: r.map (.v [true])), { s.own with l := s.own.l ++ [getIn (R v)] }, (pre (rowB E.glob v (getIn (R v))), true) :: qs)
       | [] => none
     | _ => none
   | none => none
 | none => none
noncomputable def simFX (E : Env) (o : Oper) (s : St) : Option (SV × Mem × List (Bool × Bool)) := match simRS E o s with
 | some r => some r
 | none => match simRW E o s with
   | some r => some r
   | none => simFX2 E o s
def putS (n : Nat) (dst : Option Tmp) (x : SV) (s : St) : Option St :=
 match dst with
 | none => some s
 | some d => bif Nat.blt d n then some { s with tmps := (d, x) :: s.tmps } else none
def ask (s : St) (fl : List Bool) (b : Bool) : Bool × St :=
 bif anyF fl then (match s.orc with
   | [] => (b, s)
   | t :: r => (t, { s with orc := r, obl := (b, t) :: s.obl }))
 else (b, s)
def know (s : St) (d : Nat) (b : Bool) : St := { s with tmps := (d, .inl ([], (.bool b))) :: s.tmps }
def askC (s : St) (c : Operand) (fl : List Bool) (b : Bool) : Bool × St :=
 match c with
 | .tmp d => ((ask s fl b).1, know (ask s fl b).2 d (ask s fl b).1)
 | _ => ask s fl b
def wantS (n : Nat) (ops : Array Oper) (o : Oper) (s : St) : Option (Bool × St) :=
 match o.guard with
 | none => some (true, s)
 | some (j, want) => match (ops[j]?).bind (·.dst) with
   | some d => bif Nat.blt d n then (match look s.tmps d with
     | .inl (fl, (.bool b)) => some ((ask s fl b).1 == want, know (ask s fl b).2 d (ask s fl b).1)
     | .inl (_, (.tuple _)) => some (false, s)
     | _ => none) else none
   | none => none
def callArgs (s : St) (o : Oper) : Option (FuncId × List SV) :=
 match o.op with
 | .call { callee := .value x, args := az, argTypes := _ } => match fnOf (ev s x) with
   | some (f, fs, cs) => some (f, fs ++ (az.toList.map (ev s) ++ cs))
   | none => none
 | _ => none
noncomputable def simNX (o : Oper) (s : St) : Option (SV × St) := none
abbrev Callee := FuncId -> List SV -> St -> Option (SV × St)
def more (s : St) (l : List (Bool × Bool)) : List (Bool × Bool) := l ++ s.obl
noncomputable def simOps (E : Env) (cl : Callee) (n : Nat) (ops : Array Oper) (ro : Bool) : List Oper -> St -> Option St
 | [], s => some s
 | o :: rest, s => match wantS n ops o s with
   | none => none
   | some (false, s1) => match putS n o.dst (.inl ([], undef)) s1 with
     | some s2 => simOps E cl n ops ro rest s2
     | none => none
   | some (true, s1) => match (bif ro then none else simNX o s1) with
     | some (x, s1') => match putS n o.dst x s1' with
       | some s2 => simOps E cl n ops ro rest s2
       | none => none
     | none => match (bif ro then none else simFX E o s1) with
     | some (x, own, q) => match putS n o.dst x { s1 with own := own, mem := true, obl := more s1 q } with
       | some s2 => simOps E cl n ops ro rest s2
       | none => none
     | none => match simRO E o s1 with
       | some (x, c, q) => match putS n o.dst x { s1 with mem := s1.mem || c, obl := more s1 q } with
         | some s2 => simOps E cl n ops ro rest s2
         | none => none
       | none => match callArgs s1 o with
         | none => none
         | some (f, args) => bif ro then
             (match cl f args { s1 with lo := s1.own.b.length, llo := s1.own.l.length } with
             | some (.inl (fl, x), s2) => match putS n o.dst (.inl (fl, x)) { s1 with mem := true, orc := s2.orc, obl := s2.obl } with
               | some s3 => simOps E cl n ops ro rest s3
               | none => none
             | _ => none)
           else (match cl f args s1 with
             | some (x, s2) => match putS n o.dst x { s1 with own := s2.own, mem := s2.mem, orc := s2.orc, obl := s2.obl } with
               | some s3 => simOps E cl n ops ro rest s3
               | none => none
             | none => none)
def resV (P : Program) (s : St) : ResultVar -> Option SV
 | .tmp t => match look s.tmps t with
   | .any => none
   | x => some x
 | .cell a t => match look s.tmps a with
   | .inr (i, off, none) => match getB s i with
     | some b => loadS P t b.cells off
     | none => none
   | _ => none
def tupOf : SV -> Option TV
 | .inl p => some (.inl p)
 | .c k => some (.inr k)
 | .st cs => some (.st cs)
 | _ => none
def tupL : List (Option SV) -> Option (List TV)
 | [] => some []
 | some x :: r => match tupOf x, tupL r with
   | some y, some l => some (y :: l)
   | _, _ => none
 | none :: _ => none
def plainL : List TV -> Option (List Bool × List Value)
 | [] => some ([], [])
 | .inl (f, x) :: r => match plainL r with
   | some (g, l) => some ([anyF f || anyF g], x :: l)
   | none => none
 | .inr _ :: _ => none
 | .st _ :: _ => none
def mkTup (l : List TV) : SV := match plainL l with
 | some (f, vs) => .inl (f, .tuple vs.toArray)
 | none => .tp l
def simRes (P : Program) (fn : Func) (s : St) : Option SV :=
 match fn.results.toList with
 | [r] => resV P s r
 | rs => match tupL (rs.map (resV P s)) with
   | some l => some (mkTup l)
   | none => none
def initS : Nat -> List SV -> List (Nat × SV)
 | _, [] => []
 | i, x :: r => (i, x) :: initS (i + 1) r
abbrev Runner := Nat -> Code -> St -> Option (X × St)
def argsV : List SV -> Option (List Value)
 | [] => some []
 | .inl (_, v) :: r => match argsV r with
   | some l => some (v :: l)
   | none => none
 | _ :: _ => none
def pcallS (E : Env) : Callee := fun f args s =>
 match argsV args with
 | some l => match E.pcall f l with
   | some (v, b) => match E.P.funcs[f]? with
     | some fn => bif fn.name == "runtime.NumGoroutine" || fn.body.isNone then none else
       some (.inl (List.replicate v.cells.size (!E.shut f && args.any fun x => anyF (flS x)), v), { s with mem := true, obl := (b, true) :: s.obl })
     | none => none
   | none => none
 | none => none
def cellX (s : St) : List CV -> Option (List (Sum Value LE))
 | [] => some []
 | .v _ x :: r => match cellX s r with
   | some l => some (.inl x :: l)
   | none => none
 | .l k :: r => match getL s k, cellX s r with
   | some e, some l => some (.inr e :: l)
   | _, _ => none
 | _ :: _ => none
def argsX (s : St) : List SV -> Option (List XV)
 | [] => some []
 | .inl (_, v) :: r => match argsX s r with
   | some l => some (.inl v :: l)
   | none => none
 | .c k :: r => match getL s k, argsX s r with
   | some e, some l => some (.inr e :: l)
   | _, _ => none
 | .sub k lo n sz :: r => match getL s k, argsX s r with
   | some e, some l => bif Nat.beq sz e.size then some (.inr ⟨e.elT, e.size, n, fun j => e.el (lo + j), false, false, true⟩ :: l) else none
   | _, _ => none
 | .st cs :: r => match cellX s cs, argsX s r with
   | some c, some l => some (.st c :: l)
   | _, _ => none
 | _ :: _ => none
def subsO (s : St) : List SV -> List (Bool × Bool)
 | [] => []
 | .sub k lo n _ :: r => match getL s k with
   | some e => (pre (decide (lo + n <= e.n)), true) :: subsO s r
   | none => subsO s r
 | _ :: r => subsO s r
def outC (m : Nat) : List (Sum Value LE) -> List CV × List LE
 | [] => ([], [])
 | .inl v :: r => (.v [true] v :: (outC m r).1, (outC m r).2)
 | .inr e :: r => (.l m :: (outC (m + 1) r).1, { e with own := true, dead := false } :: (outC (m + 1) r).2)
def outX (m : Nat) : List XV -> List TV × List LE
 | [] => ([], [])
 | .inl v :: r => (.inl ([true], v) :: (outX m r).1, (outX m r).2)
 | .inr e :: r => (.inr m :: (outX (m + 1) r).1, { e with own := true, dead := false } :: (outX (m + 1) r).2)
 | .st cs :: r => (.st (outC m cs).1 :: (outX (m + (outC m cs).2.length) r).1, (outC m cs).2 ++ (outX (m + (outC m cs).2.length) r).2)
def lcallS (E : Env) : Callee := fun f args s =>
 match argsX s args with
 | some l => match E.lcall f l with
   | some (tup, res, b) => match E.P.funcs[f]? with
     | some fn => bif fn.name == "runtime.NumGoroutine" || fn.body.isNone then none else
       (match tup, outX s.own.l.length res with
       | true, (r, es) => some (.tp r, { s with own := { s.own with l := s.own.l ++ es }, mem := true, obl := (b, true) :: (subsO s args ++ s.obl) })
       | false, ([.inl p], es) => some (.inl p, { s with own := { s.own with l := s.own.l ++ es }, mem := true, obl := (b, true) :: (subsO s args ++ s.obl) })
       | false, ([.st cs], es) => some (.st cs, { s with own := { s.own with l := s.own.l ++ es }, mem := true, obl := (b, true) :: (subsO s args ++ s.obl) })
       | false, ([.inr k], es) => some (.c k, { s with own := { s.own with l := s.own.l ++ es }, mem := true, obl := (b, true) :: (subsO s args ++ s.obl) })
       | false, _ => none)
     | none => none
   | none => none
 | none => none
def enterO (E : Env) (ih : Runner) : Callee := fun f args s =>
 match E.P.funcs[f]? with
 | some fn => bif fn.name == "runtime.NumGoroutine" then none else (match fn.body with
   | some c => match ih (args.length + (fn.ntmps - args.length)) c { s with tmps := initS 0 args } with
     | some (none, s') => match simRes E.P fn s' with
       | some x => some (x, s')
       | none => none
     | some (some none, s') => match simRes E.P fn s' with
       | some x => some (x, s')
       | none => none
     | _ => none
   | none => none)
 | none => none
def oneB (c : Int) : ByteArray := ⟨#[UInt8.ofNat c.toNat]⟩
def bopR : BOp -> ByteArray -> List Value -> Option (Value × Option ByteArray × Bool)
 | .wstr, _, [.string s] => some (.tuple #[.int .i64 s.size, .nilIface], some s, true)
 | .wbyte, _, [.int .u8 c] => some (.nilIface, some (oneB c), decide (0 <= c /\ c < 256))
 | .wrune, _, [.int .i32 c] => some (.tuple #[.int .i64 1, .nilIface], some (oneB c), decide (0 <= c /\ c < 128))
 | .str, acc, [] => some (.string acc, none, true)
 | .len, acc, [] => some (.int .i64 acc.size, none, true)
 | _, _, _ => none
def fitB (acc : ByteArray) (add : Option ByteArray) : Bool := match add with
 | some s => decide (acc.size + s.size + 4 <= 140737488355328)
 | none => true
noncomputable def accB (op : Bool) (acc : ByteArray) : Option ByteArray -> ByteArray
 | some s => bif op then catZ acc s else acc ++ s
 | none => acc
def quietB (s : St) (i : Nat) (e : TypeId) : Bool :=
 ((List.range s.own.b.length).all fun j => Nat.beq i j || (match s.own.b[j]? with
   | some b => (match b.kd with
     | .cells => !Nat.beq b.elem e
     | .iter _ _ _ => true
     | .bld _ _ _ _ => false
     | .shut => false
     | .map _ _ => false
     | .mapV _ _ => false)
   | none => true)) && s.own.l.all fun l => l.dead || !l.own || !Nat.beq l.elT e
noncomputable def bcallS (E : Env) : Callee := fun f args s =>
 match E.bop f, args with
 | some op, .inr (i, 0, none) :: r => bif Nat.ble s.lo i then (match s.own.b[i]?, argsV r with
   | some b, some vs => match b.kd with
     | .bld fl T e acc => match E.bt, bopR op acc vs, E.P.funcs[f]? with
       | some (T', e'), some (v, add, c), some fn =>
         bif fn.name == "runtime.NumGoroutine" || fn.body.isNone || !Nat.beq T T' || !Nat.beq e e' || !quietB s i e then none else
         (bif anyF fl || r.any (fun x => anyF (flS x)) then
           some (.inl (List.replicate v.cells.size true, v), { s with mem := true, own := { s.own with b := s.own.b.set i ⟨[], 0, .bld [true] T e (accB true acc add)⟩ }, obl := (pre (c && fitB acc add), true) :: s.obl })
         else bif c && fitB acc add then some (.inl ([], v), { s with mem := true, own := { s.own with b := s.own.b.set i ⟨[], 0, .bld [] T e (accB false acc add)⟩ } }) else none)
       | _, _, _ => none
     | _ => none
   | _, _ => none) else none
 | _, _ => none
def deadE : LE := ⟨0, 0, 0, fun _ => [], false, true, true⟩
noncomputable def acallS (E : Env) : Callee := fun _ _ _ => none
structure Pick where
 ts : List Nat
 bs : List Nat
 ls : List Nat
 nil : List (Nat × TypeId × Nat × (Nat -> List Value)) := []
 opn : List Nat := []
 opb : List Nat := []
 mv : List Nat := []
 cp : List Nat := []
 nib : List (Nat × Nat × TypeId × Nat × (Nat -> List Value)) := []
def posN : List Nat -> Nat -> Option Nat
 | [], _ => none
 | x :: r, i => bif Nat.beq x i then some 0 else (match posN r i with
   | some k => some (k + 1)
   | none => none)
def pickC (p : Pick) : CV -> Option CV
 | .v fl x => some (.v fl x)
 | .a i off => match posN p.bs i with
   | some i' => some (.a i' off)
   | none => none
 | .l k => match posN p.ls k with
   | some k' => some (.l k')
   | none => none
def pickCL (p : Pick) : List CV -> Option (List CV)
 | [] => some []
 | x :: r => match pickC p x, pickCL p r with
   | some y, some l => some (y :: l)
   | _, _ => none
def pickV (p : Pick) : SV -> SV
 | .inl q => .inl q
 | .inr (i, off, r) => match posN p.bs i with
   | some i' => .inr (i', off, r)
   | none => .any
 | .c k => match posN p.ls k with
   | some k' => .c k'
   | none => .any
 | .lp k j o sz => match posN p.ls k with
   | some k' => .lp k' j o sz
   | none => .any
 | .tp _ => .any
 | .fn f fs cs => match pickCL p fs, pickCL p cs with
   | some fs', some cs' => .fn f fs' cs'
   | _, _ => .any
 | .sub k lo n sz => match posN p.ls k with
   | some k' => .sub k' lo n sz
   | none => .any
 | .st cs => match pickCL p cs with
   | some cs' => .st cs'
   | none => .any
 | .mp i => match posN p.bs i with
   | some i' => .mp i'
   | none => .any
 | .ia i off len n => match posN p.bs i with
   | some i' => .ia i' off len n
   | none => .any
 | .rp v e j o => .rp v e j o
 | .any => .any
def openV (b : Bool) : SV -> SV
 | .inl (fl, v) => bif b then .inl (List.replicate v.cells.size true, v) else .inl (fl, v)
 | x => x
def takeL {α : Type} (l : List α) : List Nat -> Option (List α)
 | [] => some []
 | i :: r => match l[i]?, takeL l r with
   | some x, some t => some (x :: t)
   | _, _ => none
def nodupB : List Nat -> Bool
 | [] => true
 | x :: r => !(r.any fun y => Nat.beq x y) && nodupB r
def pickCells (p : Pick) (o : Bool) : List SV -> Option (List SV)
 | [] => some []
 | x :: r => match pickV p x with
   | .any => none
   | y => match pickCells p o r with
     | some l => some (openV o y :: l)
     | none => none
def openK (o : Bool) : Kd -> Kd
 | .cells => .cells
 | .iter fl s p => .iter (bif o then [true] else fl) s p
 | .bld fl T e a => .bld (bif o then [true] else fl) T e a
 | .shut => .shut
 | .map T l => .map T l
 | .mapV T l => .mapV T l
def pickBs (p : Pick) : Nat -> List Blk -> Option (List Blk)
 | _, [] => some []
 | n, b :: r => match pickCells p (p.opb.any fun y => Nat.beq y n) b.cells, pickBs p (n + 1) r with
   | some cs, some l => some (⟨cs, b.elem, openK (p.opb.any fun y => Nat.beq y n) b.kd⟩ :: l)
   | _, _ => none
def takeB (p : Pick) (bs : List Blk) : Option (List Blk) := match takeL bs p.bs with
 | some b => pickBs p 0 b
 | none => none
def pickM (p : Pick) (own : Mem) : Option Mem := match takeB p own.b, takeL own.l p.ls with
 | some b, some l => bif nodupB p.bs && nodupB p.ls then some ⟨b, l⟩ else none
 | _, _ => none
def okCB (n m : Nat) : CV -> Bool
 | .v _ _ => true
 | .a i _ => Nat.blt i n
 | .l k => Nat.blt k m
def okTB (n m : Nat) : TV -> Bool
 | .inl _ => true
 | .inr k => Nat.blt k m
 | .st cs => cs.all (okCB n m)
def okVB (n m : Nat) : SV -> Bool
 | .inl _ => true
 | .inr (i, _, _) => Nat.blt i n
 | .c k => Nat.blt k m
 | .lp k _ _ _ => Nat.blt k m
 | .tp l => l.all (okTB n m)
 | .fn _ fs cs => fs.all (okCB n m) && cs.all (okCB n m)
 | .sub k _ _ _ => Nat.blt k m
 | .st cs => cs.all (okCB n m)
 | .mp i => Nat.blt i n
 | .ia i _ _ _ => Nat.blt i n
 | .rp _ _ _ _ => true
 | .any => true
def refsC : List CV -> List Nat × List Nat
 | [] => ([], [])
 | .v _ _ :: r => refsC r
 | .a i _ :: r => (i :: (refsC r).1, (refsC r).2)
 | .l k :: r => ((refsC r).1, k :: (refsC r).2)
def refsV : SV -> List Nat × List Nat
 | .inr (i, _, _) => ([i], [])
 | .mp i => ([i], [])
 | .ia i _ _ _ => ([i], [])
 | .c k => ([], [k])
 | .lp k _ _ _ => ([], [k])
 | .sub k _ _ _ => ([], [k])
 | .fn _ fs cs => refsC (fs ++ cs)
 | .st cs => refsC cs
 | _ => ([], [])
def refsL : List SV -> List Nat × List Nat
 | [] => ([], [])
 | x :: r => ((refsV x).1 ++ (refsL r).1, (refsV x).2 ++ (refsL r).2)
def addN (l : List Nat) : List Nat -> List Nat
 | [] => l
 | k :: r => bif l.any (Nat.beq k) then addN l r else addN (l ++ [k]) r
def reach (m : Mem) : Nat -> List Nat -> List Nat -> List Nat -> List Nat × List Nat
 | 0, _, bs, ls => (bs, ls)
 | _ + 1, [], bs, ls => (bs, ls)
 | n + 1, i :: q, bs, ls => bif bs.any (Nat.beq i) then reach m n q bs ls else (match m.b[i]? with
   | some b => reach m n (q ++ (refsL b.cells).1) (bs ++ [i]) (addN ls (refsL b.cells).2)
   | none => reach m n q bs ls)
def reachP (m : Mem) (args : List SV) : Pick := { ts := [], bs := (reach m 100 (refsL args).1 [] (addN [] (refsL args).2)).1, ls := (reach m 100 (refsL args).1 [] (addN [] (refsL args).2)).2 }
def setN {α : Type} : List α -> List (Nat × α) -> List α
 | l, [] => l
 | l, (i, x) :: r => setN (l.set i x) r
def applyE (m : Mem) (r : Eff) : Mem := ⟨setN m.b r.sb ++ r.ab, setN m.l r.sl ++ r.al⟩
def renN (ps : List Nat) (n i : Nat) : Nat := match ps[i]? with
 | some k => k
 | none => n + (i - ps.length)
def renC (fb fl : Nat -> Nat) : CV -> CV
 | .v g x => .v g x
 | .a i off => .a (fb i) off
 | .l k => .l (fl k)
def renT (fb fl : Nat -> Nat) : TV -> TV
 | .inl p => .inl p
 | .inr k => .inr (fl k)
 | .st cs => .st (cs.map (renC fb fl))
def renV (fb fl : Nat -> Nat) : SV -> SV
 | .inl p => .inl p
 | .inr (i, off, r) => .inr (fb i, off, r)
 | .c k => .c (fl k)
 | .lp k j o sz => .lp (fl k) j o sz
 | .tp l => .tp (l.map (renT fb fl))
 | .fn f fs cs => .fn f (fs.map (renC fb fl)) (cs.map (renC fb fl))
 | .sub k lo n sz => .sub (fl k) lo n sz
 | .st cs => .st (cs.map (renC fb fl))
 | .mp i => .mp (fb i)
 | .ia i off len n => .ia (fb i) off len n
 | .rp v e j o => .rp v e j o
 | .any => .any
def renB (fb fl : Nat -> Nat) (b : Blk) : Blk := ⟨b.cells.map (renV fb fl), b.elem, b.kd⟩
def applyR (own : Mem) (p : Pick) (r : Eff) : Mem :=
 ⟨setN own.b (r.sb.map fun q => (renN p.bs own.b.length q.1, renB (renN p.bs own.b.length) (renN p.ls own.l.length) q.2)) ++ r.ab.map (renB (renN p.bs own.b.length) (renN p.ls own.l.length)),
  setN own.l (r.sl.map fun q => (renN p.ls own.l.length q.1, q.2)) ++ r.al⟩
def okRB (n m : Nat) : SV -> Bool
 | .tp l => l.all (okTB n m)
 | x => okVB n m x
def fitE (s : St) (p : Pick) (r : Eff) : Bool :=
 (r.sb.all fun q => match p.bs[q.1]? with
   | some i => Nat.ble s.lo i
   | none => false) &&
 (r.sl.all fun q => match p.ls[q.1]? with
   | some k => Nat.ble s.llo k
   | none => false) &&
 okRB (p.bs.length + r.ab.length) (p.ls.length + r.al.length) r.x &&
 (r.sb.all fun q => q.2.cells.all (okVB (p.bs.length + r.ab.length) (p.ls.length + r.al.length))) &&
 (r.ab.all fun b => b.cells.all (okVB (p.bs.length + r.ab.length) (p.ls.length + r.al.length))) &&
 s.own.b.all fun b => match b.kd with
   | .bld _ _ _ _ => false
   | _ => true
noncomputable def effS (E : Env) : Callee := fun f args s => match E.eff f with
 | none => none
 | some g => match pickCells (reachP s.own args) false args, pickM (reachP s.own args) s.own with
   | some args', some m => match g args' m, E.P.funcs[f]? with
     | some r, some fn => bif fn.name == "runtime.NumGoroutine" || fn.body.isNone || !fitE s (reachP s.own args) r then none else
       some (renV (renN (reachP s.own args).bs s.own.b.length) (renN (reachP s.own args).ls s.own.l.length) r.x, { s with own := applyR s.own (reachP s.own args) r, mem := true, obl := (r.ok, true) :: s.obl })
     | _, _ => none
   | _, _ => none
noncomputable def effP (E : Env) (f : FuncId) (args : List SV) (own : Mem) : Option ((List Bool × Value) × Bool) := match E.eff f with
 | none => none
 | some g => match pickCells (reachP own args) false args, pickM (reachP own args) own with
   | some args', some m => match g args' m, E.P.funcs[f]? with
     | some r, some fn => bif fn.name == "runtime.NumGoroutine" || fn.body.isNone || !(r.sb.isEmpty && r.sl.isEmpty && r.ab.isEmpty && r.al.isEmpty) || !(own.b.all fun b => match b.kd with
         | .bld _ _ _ _ => false
         | _ => true) then none else (match r.x with
       | .inl p => some (p, r.ok)
       | _ => none)
     | _, _ => none
   | _, _ => none
noncomputable def enterS (E : Env) (ih : Runner) : Callee := fun f args s => match pcallS E f args s with
 | some r => some r
 | none => match lcallS E f args s with
   | some r => some r
   | none => match bcallS E f args s with
     | some r => some r
     | none => match acallS E f args s with
       | some r => some r
       | none => match effS E f args s with
         | some r => some r
         | none => enterO E ih f args s
structure Dn where
 x : SV
 e : Option LE
def newsL (L : Nat -> Bool) : Nat -> List Dn -> List LE
 | _, [] => []
 | i, d :: r => match d.e with
   | some e => { e with dead := !L i } :: newsL L (i + 1) r
   | none => newsL L (i + 1) r
def dstIs (o : Oper) (t : Nat) : Bool := match o.dst with
 | some u => Nat.beq u t
 | none => false
def looksB (ops : Array Oper) (o : Oper) (j : Nat) : Bool := match ops[j]? with
 | some oj => (o.looksAt ops).any (dstIs oj)
 | none => false
def depB (ops : Array Oper) : Bool := (List.range ops.size).all fun i => match ops[i]? with
 | some o => notSel o.op && o.after.toList.all (fun e => !Region.binds .any e || Nat.blt e.on i) &&
     (List.range ops.size).all (fun j => !looksB ops o j || (Nat.blt j i && o.after.toList.any fun e => Region.binds .any e && Nat.beq e.on j)) &&
     (List.range ops.size).all (fun j => Nat.beq i j || (match o.dst, ops[j]? with
       | some t, some oj => !dstIs oj t
       | _, _ => true))
 | none => false
def focus (ops : Array Oper) (o : Oper) (pre : List Dn) (s : St) : St := { s with own := { s.own with l := s.own.l ++ newsL (looksB ops o) 0 pre } }
noncomputable def stepD (E : Env) (n : Nat) (ops : Array Oper) (o : Oper) (pre : List Dn) (s : St) : Option (Dn × St) :=
 match wantS n ops o s with
 | none => none
 | some (false, s1) => some (⟨.inl ([], undef), none⟩, s1)
 | some (true, s1) => match simMK E o (focus ops o pre s1) with
   | some (e, q) => some (⟨.c (s1.own.l.length + (newsL (fun _ => true) 0 pre).length), some e⟩, { s1 with obl := more s1 q })
   | none => match simRO E o (focus ops o pre s1) with
   | some (x, c, q) => bif okVB s1.own.b.length s1.own.l.length x then some (⟨x, none⟩, { s1 with obl := more s1 q }) else none
   | none => match simLX E o (focus ops o pre s1) with
   | some (_, m, _) => match m.l.getLast? with
     | some e => some (⟨.c (s1.own.l.length + (newsL (fun _ => true) 0 pre).length), some e⟩, s1)
     | none => none
   | none => match callArgs (focus ops o pre s1) o with
     | none => none
     | some (f, args) => match effP E f args s1.own with
       | some (p, b) => some (⟨.inl p, none⟩, { s1 with obl := (b, true) :: s1.obl })
       | none => match pcallS E f args (focus ops o pre s1) with
       | some (.inl p, s2) => some (⟨.inl p, none⟩, { s1 with obl := s2.obl })
       | some _ => none
       | none => match argsX (focus ops o pre s1) args, E.P.funcs[f]? with
         | some l, some fn => bif fn.name == "runtime.NumGoroutine" || fn.body.isNone then none else (match E.lcall f l with
           | some (false, [.inl v], b) => some (⟨.inl ([true], v), none⟩, { s1 with obl := (b, true) :: (subsO (focus ops o pre s1) args ++ s1.obl) })
           | some (false, [.inr e], b) => some (⟨.c (s1.own.l.length + (newsL (fun _ => true) 0 pre).length), some { e with own := true, dead := false }⟩, { s1 with obl := (b, true) :: (subsO (focus ops o pre s1) args ++ s1.obl) })
           | _ => none)
         | _, _ => none
noncomputable def simD (E : Env) (n : Nat) (ops : Array Oper) : List Oper -> List Dn -> St -> Option (List Dn × St)
 | [], pre, s => some (pre, s)
 | o :: rest, pre, s => match stepD E n ops o pre s with
   | some (d, s1) => match putS n o.dst d.x s1 with
     | some s2 => simD E n ops rest (pre ++ [d]) s2
     | none => none
   | none => none
noncomputable def regionD (E : Env) (n : Nat) (ops : Array Oper) (s : St) : Option St := bif depB ops then (match simD E n ops ops.toList [] s with
 | some (ds, s1) => some { s1 with own := { s1.own with l := s1.own.l ++ newsL (fun _ => true) 0 ds } }
 | none => none) else none
noncomputable def lastD (E : Env) (n : Nat) (ops : Array Oper) (s : St) : Option St := none
def noopT (o : Oper) : Oper := { o with op := .move (.const undef), dst := none }
def aftA (o : Oper) : List Nat := (o.after.toList.filter (Region.binds .any)).map (·.on)
def ancA (ops : Array Oper) : Nat -> List Nat -> List Nat
 | 0, xs => xs
 | k + 1, xs => ancA ops k (addN xs (xs.flatMap fun i => match ops[i]? with
   | some o => aftA o
   | none => []))
noncomputable def stepT (E : Env) (cl : Callee) (n : Nat) (o : Oper) (s : St) : Option St := match simFX E o s with
 | some (x, own, q) => putS n o.dst x { s with own := own, mem := true, obl := more s q }
 | none => match simRO E o s with
   | some (x, c, q) => putS n o.dst x { s with mem := s.mem || c, obl := more s q }
   | none => match callArgs s o with
     | some (f, args) => match cl f args s with
       | some (x, s2) => putS n o.dst x { s with own := s2.own, mem := true, orc := s2.orc, obl := s2.obl }
       | none => none
     | none => none
noncomputable def tailS (E : Env) (cl : Callee) (n : Nat) : List Oper -> St -> Option St
 | [], s => some s
 | o :: r, s => match stepT E cl n o s with
   | some s1 => tailS E cl n r s1
   | none => none
noncomputable def tailN (E : Env) (cl : Callee) (n k : Nat) (ops : Array Oper) (s : St) : Option St :=
 bif ops.toList.all (fun o => o.guard.isNone) && Nat.ble k ops.size && Nat.blt 0 k && (List.range k).all (fun m => (List.range (ops.size - k + m)).all fun j => (ancA ops ops.size (match ops[ops.size - k + m]? with
     | some o => aftA o
     | none => [])).any (Nat.beq j)) then
   (match regionD E n (ops.toList.take (ops.size - k) ++ (ops.toList.drop (ops.size - k)).map noopT).toArray s with
   | some s2 => tailS E cl n (ops.toList.drop (ops.size - k)) s2
   | none => none) else none
noncomputable def pivR (E : Env) (cl : Callee) (n c : Nat) (fr : List Nat) (ops : Array Oper) (s : St) : Option (St × St) :=
 match ops[c]? with
 | none => none
 | some o => bif ops.toList.all (fun o => o.guard.isNone) && (List.range c).all (fun j => (ancA ops ops.size (aftA o)).any (Nat.beq j)) && (List.range ops.size).all (fun i => Nat.ble i c || fr.any (Nat.beq i) || (match ops[i]? with
     | some o' => (ancA ops ops.size (aftA o')).any (Nat.beq c)
     | none => true)) && fr.all (Nat.blt c) then
   (match regionD E n (ops.toList.take c ++ (ops.toList.drop c).map noopT).toArray s with
   | some s2 => match stepT E cl n o s2 with
     | some s3 => match regionD E n ((ops.toList.take (c + 1)).map noopT ++ ops.toList.drop (c + 1)).toArray s3 with
       | some s4 => some (s3, s4)
       | none => none
     | none => none
   | none => none) else none
noncomputable def pivE (E : Env) (cl : Callee) (n c : Nat) (ops : Array Oper) (s : St) : Option St := match pivR E cl n c [] ops s with
 | some (_, s4) => some s4
 | none => none
def isCallO (o : Oper) : Bool := match o.op with
 | .call { callee := .value _, args := _, argTypes := _ } => true
 | _ => false
def pivI (ops : Array Oper) : Nat -> Option Nat
 | 0 => none
 | i + 1 => match ops[i]? with
   | some o => bif isCallO o then some i else pivI ops i
   | none => pivI ops i
noncomputable def pivD (E : Env) (cl : Callee) (n : Nat) (ops : Array Oper) (s : St) : Option St := match pivI ops ops.size with
 | some c => pivE E cl n c ops s
 | none => none
noncomputable def pivJ (E : Env) (n : Nat) (ops : Array Oper) (s : St) : Option St := none
noncomputable def tailD (E : Env) (cl : Callee) (n : Nat) (ops : Array Oper) (s : St) : Option St := match tailN E cl n 2 ops s with
 | some r => some r
 | none => match tailN E cl n 3 ops s with
   | some r => some r
   | none => match pivD E cl n ops s with
     | some r => some r
     | none => pivJ E n ops s
noncomputable def regionJ (E : Env) (n : Nat) (ops : Array Oper) (s : St) : Option St := none
noncomputable def stepC (E : Env) (ih : Runner) (n : Nat) : Code -> St -> Option (X × St)
 | .skip, s => some (none, s)
 | .label _, s => some (none, s)
 | .scope x, s => ih n x s
 | .region _ ops false, s => match simOps E (enterS E ih) n ops false ops.toList s with
   | some s' => some (none, s')
   | none => none
 | .region _ ops true, s => bif E.P.follows .mixedOrders && Region.lexB .any ops then (match simOps E (enterS E ih) n ops true ops.toList { s with mem := true } with
   | some s' => some (none, s')
   | none => match regionD E n ops { s with mem := true } with
     | some s' => some (none, s')
     | none => match lastD E n ops { s with mem := true } with
       | some s' => some (none, s')
       | none => match regionJ E n ops { s with mem := true } with
         | some s' => some (none, s')
         | none => match tailD E (enterS E ih) n ops { s with mem := true } with
           | some s' => some (none, s')
           | none => none) else none
 | .seq x y, s => match ih n x s with
   | some (none, s') => ih n y s'
   | r => r
 | .cond c x y, s => match ev s c with
   | .inl (fl, (.bool b)) => match askC s c fl b with
     | (true, s') => ih n x s'
     | (false, s') => ih n y s'
   | _ => none
 | .block id x, s => match ih n x s with
   | some (some (some i), s') => bif Nat.beq i id then some (none, s') else some (some (some i), s')
   | r => r
 | .loop x, s => match ih n x s with
   | some (none, s') => ih n (.loop x) s'
   | r => r
 | .exit id, s => some (some (some id), s)
 | .ret, s => some (some none, s)
 | _, _ => none
noncomputable def simC (E : Env) (fuel : Nat) : Runner :=
 Nat.rec (fun _ _ _ => none) (fun _ ih n c s => stepC E ih n c s) fuel
end Go.Proofs.Ytmaffamhjmlonaa.S2
namespace Go.Proofs.Ytmaffamhjmlonaa.S2
open Go Go.RowKit Sim
def Agree (n m : Nat) (ν ν' : Nu) : Prop := (∀ i, i < n -> ν.l i = ν'.l i) /\ ∀ k, k < m -> ν.v k = ν'.v k
abbrev Ag (o : Mem) (ν ν' : Nu) : Prop := Agree o.b.length o.l.length ν ν'
theorem Agree.refl (n m : Nat) (ν : Nu) : Agree n m ν ν := ⟨fun _ _ => rfl, fun _ _ => rfl⟩
theorem Agree.trans {n m n' m' : Nat} {a b c : Nu} (h : Agree n m a b) (k : Agree n' m' b c) (hn : n <= n') (hm : m <= m') : Agree n m a c :=
 ⟨fun i hi => (h.1 i hi).trans (k.1 i (by omega)), fun i hi => (h.2 i hi).trans (k.2 i (by omega))⟩
theorem Agree.mono {n m n' m' : Nat} {a b : Nu} (h : Agree n m a b) (hn : n' <= n) (hm : m' <= m) : Agree n' m' a b := ⟨fun i hi => h.1 i (by omega), fun i hi => h.2 i (by omega)⟩
theorem concC_congr {ν ν' : Nu} {n m : Nat} {x : CV} (h : okC n m x) (hl : Agree n m ν ν') : concC ν x = concC ν' x := by
 cases x with
 | v fl x => rfl
 | a i off => simp [concC, hl.1 i h]
 | l k => exact hl.2 k h
theorem conc_congr {ν ν' : Nu} {n m : Nat} {x : SV} (h : okV n m x) (hl : Agree n m ν ν') : conc ν x = conc ν' x := by
 cases x with
 | inl p => rfl
 | inr p =>
   obtain ⟨i, off, _ | ⟨len, cap⟩⟩ := p
   . simp [conc, hl.1 i h]
   . simp [conc, hl.1 i h]
 | c k => exact hl.2 k h
 | lp k j o sz => simp [conc, hl.2 k h]
 | tp l =>
   simp only [conc, Value.tuple.injEq]
   congr 1
   refine List.map_congr_left fun x hx => ?_
   cases x with
   | inl p => rfl
   | inr k => exact hl.2 k (h _ hx)
   | st cs => exact congrArg (fun l => Value.agg (List.toArray l)) (List.map_congr_left fun c hc => concC_congr (h _ hx c hc) hl)
 | fn f fs cs =>
   simp only [conc]
   rw [List.map_congr_left fun x hx => concC_congr (h.1 x hx) hl, List.map_congr_left fun x hx => concC_congr (h.2 x hx) hl]
 | sub k lo n sz => simp [conc, hl.2 k h]
 | st cs => exact congrArg (fun l => Value.agg (List.toArray l)) (List.map_congr_left fun c hc => concC_congr (h c hc) hl)
 | mp i => simp [conc, hl.1 i h]
 | ia i off len n' => simp [conc, hl.1 i h]
 | rp v e j o => rfl
 | any => rfl
theorem Is_congr {ν ν' : Nu} {n m : Nat} {x : SV} {v : Value} (h : okV n m x) (hl : Agree n m ν ν') (hi : Is ν x v) : Is ν' x v := by
 have := conc_congr h hl
 cases x <;> first | trivial | exact (show v = conc ν _ from hi).trans this
def concB (ν : Nu) (cs : List SV) : List Value := cs.map (conc ν)
def OkB (n m : Nat) (bs : List Blk) : Prop := ∀ (i : Nat) (b : Blk), bs[i]? = some b -> ∀ c ∈ b.cells, okV n m c
theorem concB_congr {ν ν' : Nu} {n m : Nat} {cs : List SV} (h : ∀ c ∈ cs, okV n m c) (hl : Agree n m ν ν') : concB ν cs = concB ν' cs := List.map_congr_left fun c hc => conc_congr (h c hc) hl
theorem okC.mono {n m n' m' : Nat} {x : CV} (h : okC n m x) (hn : n <= n') (hm : m <= m') : okC n' m' x := by
 cases x with
 | v fl x => trivial
 | a i off => exact Nat.lt_of_lt_of_le h hn
 | l k => exact Nat.lt_of_lt_of_le h hm
theorem okT.mono {n m n' m' : Nat} {x : TV} (h : okT n m x) (hn : n <= n') (hm : m <= m') : okT n' m' x := by
 cases x with
 | inl p => trivial
 | inr k => exact Nat.lt_of_lt_of_le h hm
 | st cs => exact fun c hc => (h c hc).mono hn hm
theorem okV.mono {n m n' m' : Nat} {x : SV} (h : okV n m x) (hn : n <= n') (hm : m <= m') : okV n' m' x := by
 cases x with
 | inl p => trivial
 | inr p =>
   obtain ⟨i, off, _ | ⟨len, cap⟩⟩ := p
   . exact Nat.lt_of_lt_of_le h hn
   . exact Nat.lt_of_lt_of_le h hn
 | c k => exact Nat.lt_of_lt_of_le h hm
 | lp k j o sz => exact Nat.lt_of_lt_of_le h hm
 | tp l => exact fun x hx => (h x hx).mono hn hm
 | fn f fs cs => exact ⟨fun x hx => (h.1 x hx).mono hn hm, fun x hx => (h.2 x hx).mono hn hm⟩
 | sub k lo n sz => exact Nat.lt_of_lt_of_le h hm
 | st cs => exact fun c hc => (h c hc).mono hn hm
 | mp i => exact Nat.lt_of_lt_of_le h hn
 | ia i off len n' => exact Nat.lt_of_lt_of_le h hn
 | rp v e j o => trivial
 | any => trivial
theorem OkB.mono {n m n' m' : Nat} {bs : List Blk} (h : OkB n m bs) (hn : n <= n') (hm : m <= m') : OkB n' m' bs := fun i b hi c hc => (h i b hi c hc).mono hn hm
theorem OkB.snoc {n m : Nat} {bs : List Blk} {b : Blk} (h : OkB n m bs) (hb : ∀ c ∈ b.cells, okV n m c) : OkB n m (bs ++ [b]) := fun i b' hi => by
 rcases Nat.lt_trichotomy i bs.length with hl | hl | hl
 . rw [List.getElem?_append_left hl] at hi; exact h i b' hi
 . subst hl
   simp at hi
   subst hi; exact hb
 . rw [List.getElem?_eq_none (by simp; omega)] at hi; cases hi
theorem OkB.set {n m : Nat} {bs : List Blk} {b : Blk} {i : Nat} (h : OkB n m bs) (hb : ∀ c ∈ b.cells, okV n m c) : OkB n m (bs.set i b) := fun j b' hj => by
 by_cases hij : i = j
 . subst hij
   have hl := lt_of_some_list hj
   rw [List.getElem?_set_self (by simpa using hl)] at hj
   simp only [qS] at hj
   subst hj; exact hb
 . rw [List.getElem?_set_ne hij] at hj; exact h j b' hj
theorem okV_mkCells {n m : Nat} : ∀ (vs : List Value) (fl : List Bool), ∀ c ∈ mkCells vs fl, okV n m c
 | [], _, c, h => by cases h
 | v :: r, [], c, h => by
   rcases List.mem_cons.mp (show c ∈ .inl ([false], v) :: mkCells r [] from h) with rfl | h
   . trivial
   . exact okV_mkCells r _ c h
 | v :: r, b :: fl, c, h => by
   rcases List.mem_cons.mp (show c ∈ .inl ([b], v) :: mkCells r fl from h) with rfl | h
   . trivial
   . exact okV_mkCells r _ c h
theorem concB_mkCells (ν : Nu) : ∀ (vs : List Value) (fl : List Bool), concB ν (mkCells vs fl) = vs
 | [], _ => rfl
 | v :: r, [] => by show v :: concB ν (mkCells r []) = _; rw [concB_mkCells ν r]
 | v :: r, b :: fl => by show v :: concB ν (mkCells r fl) = _; rw [concB_mkCells ν r]
theorem okCB_ok {n m : Nat} {l : List CV} (h : l.all (okCB n m) = true) : ∀ x ∈ l, okC n m x := fun x hx => by
 have := List.all_eq_true.mp h x hx
 cases x with
 | v fl x => trivial
 | a i off => simpa [okCB, okC, Nat.blt_eq] using this
 | l k => simpa [okCB, okC, Nat.blt_eq] using this
theorem okVB_ok {n m : Nat} {x : SV} (h : okVB n m x = true) : okV n m x := by
 cases x with
 | inl q => trivial
 | inr q => obtain ⟨i, off, _ | ⟨len, cap⟩⟩ := q <;> simpa [okVB, okV, Nat.blt_eq] using h
 | c k => simpa [okVB, okV, Nat.blt_eq] using h
 | lp k j o sz => simpa [okVB, okV, Nat.blt_eq] using h
 | tp l =>
   intro t ht
   have := List.all_eq_true.mp h t ht
   cases t with
   | inl p => trivial
   | inr k => simpa [okTB, okT, Nat.blt_eq] using this
   | st cs => exact okCB_ok this
 | fn f fs cs =>
   simp only [okVB, Bool.and_eq_true] at h
   exact ⟨okCB_ok h.1, okCB_ok h.2⟩
 | sub k lo n' sz => simpa [okVB, okV, Nat.blt_eq] using h
 | st cs => exact okCB_ok h
 | mp i => simpa [okVB, okV, Nat.blt_eq] using h
 | ia i off len n' => simpa [okVB, okV, Nat.blt_eq] using h
 | rp v e j o => trivial
 | any => trivial
theorem look_ok {n m : Nat} : ∀ {l : List (Nat × SV)} {t : Nat}, (∀ p ∈ l, okV n m p.2) -> okV n m (look l t)
 | [], _, _ => trivial
 | (d, x) :: r, t, h => by
   unfold look
   cases hb : Nat.beq d t
   . exact look_ok fun p hp => h p (List.mem_cons_of_mem _ hp)
   . exact h (d, x) (List.mem_cons_self)
def LE.wf (e : LE) : Prop := 0 < e.size /\ ∀ j, j < e.n -> (e.el j).length = e.size /\ (e.el j).all Value.oneCell' = true
def LE.flat (e : LE) : List Value := (List.range e.n).flatMap e.el
def InB (B : Nat) (w : World) (e : LE) (v : Value) : Prop :=
 e.wf /\ ∃ a cap, v = .slice a e.n cap /\ e.n <= cap /\ (0 < e.n -> ∃ b off, a = some ⟨b, off, none⟩ /\ b < B /\ ∀ j, j < e.n -> ∀ (o : Nat) c, (e.el j)[o]? = some c -> w.cell? ⟨b, off + j * e.size + o, none⟩ = some c)
def OwnB (B : Nat) (w : World) (e : LE) (v : Value) : Prop := e.wf /\ w.ownsRow B e.elT e.size v e.n e.flat
theorem flat_len {f : Nat -> List Value} {s : Nat} : ∀ (n : Nat), (∀ j, j < n -> (f j).length = s) -> ((List.range n).flatMap f).length = n * s
 | 0, _ => by simp
 | n + 1, h => by
   rw [List.range_succ, List.flatMap_append, List.length_append, flat_len n (fun j hj => h j (by omega))]
   simp [h n (by omega), Nat.add_mul]
theorem flat_get {f : Nat -> List Value} {s : Nat} : ∀ (n : Nat), (∀ j, j < n -> (f j).length = s) -> ∀ (j : Nat), j < n -> ∀ (o : Nat), o < s -> ((List.range n).flatMap f)[j * s + o]? = (f j)[o]?
 | 0, _, j, hj, _, _ => by omega
 | n + 1, h, j, hj, o, ho => by
   have hl := flat_len n (fun j hj => h j (by omega))
   rw [List.range_succ, List.flatMap_append]
   by_cases hjn : j < n
   . have : (j + 1) * s <= n * s := Nat.mul_le_mul_right _ hjn
     rw [Nat.add_mul, Nat.one_mul] at this
     rw [List.getElem?_append_left (by rw [hl]; omega), flat_get n (fun j hj => h j (by omega)) j hjn o ho]
   . obtain rfl : j = n := by omega
     rw [List.getElem?_append_right (by rw [hl]; omega), hl]
     simp
theorem OwnB.cell {B : Nat} {w : World} {e : LE} {v : Value} (h : OwnB B w e v) (hn : 0 < e.n) : ∃ g cap, v = .slice (some ⟨g, 0, none⟩) e.n cap /\ v.ownBlock = some g /\ B <= g /\ g < w.heap.size /\ ∀ j, j < e.n -> ∀ (o : Nat) c, (e.el j)[o]? = some c -> w.cell? ⟨g, j * e.size + o, none⟩ = some c := by
 obtain ⟨⟨hs, hwf⟩, hrow⟩ := h
 have hlt := hrow.lt
 have hcells := @World.ownsRow.cells _ _ _ _ _ _ _ hrow
 rcases hrow.2 with ⟨_, h0⟩ | ⟨g, cap, cur, rfl, hb, hg, _⟩
 . omega
 . refine ⟨g, cap, rfl, rfl, hb, (hlt g rfl).2, fun j hj o c hc => ?_⟩
   have ho : o < e.size := by rw [<- (hwf j hj).1]; exact lt_of_some_list hc
   have := hcells (g := g) rfl (j * e.size + o) c (by unfold LE.flat; rw [flat_get e.n (fun j hj => (hwf j hj).1) j hj o ho]; exact hc)
   rwa [add_plain, Nat.zero_add] at this
theorem OwnB.slice {B : Nat} {w : World} {e : LE} {v : Value} (h : OwnB B w e v) : ∃ a cap, v = .slice a e.n cap := by
 rcases h.2.2 with ⟨rfl, h0⟩ | ⟨g, cap, cur, rfl, _⟩
 . exact ⟨none, 0, by rw [h0]⟩
 . exact ⟨_, cap, rfl⟩
theorem OwnB.cap {B : Nat} {w : World} {e : LE} {v : Value} (h : OwnB B w e v) : ∃ a cap, v = .slice a e.n cap /\ e.n <= cap := by
 rcases h.2.2 with ⟨rfl, h0⟩ | ⟨g, cap, cur, rfl, _, _, hc, _⟩
 . exact ⟨none, 0, by rw [h0], by omega⟩
 . exact ⟨_, cap, rfl, hc⟩
theorem OwnB.inB {B : Nat} {w : World} {e : LE} {v : Value} (h : OwnB B w e v) : InB w.heap.size w e v := by
 obtain ⟨a, cap, hv, hle⟩ := h.cap
 refine ⟨h.1, a, cap, hv, hle, fun hn => ?_⟩
 obtain ⟨g, cap', hv', _, _, hg, hc⟩ := h.cell hn
 rw [hv] at hv'
 simp only [Value.slice.injEq] at hv'
 exact ⟨g, 0, hv'.1, hg, fun j hj o c hoc => by rw [Nat.zero_add]; exact hc j hj o c hoc⟩
theorem InB.more {B B' : Nat} {w : World} {e : LE} {v : Value} (h : InB B w e v) (hB : B <= B') : InB B' w e v := by
 obtain ⟨h1, a, cap, hv, hle, hc⟩ := h
 refine ⟨h1, a, cap, hv, hle, fun hn => ?_⟩
 obtain ⟨b, off, ha, hb, hcell⟩ := hc hn
 exact ⟨b, off, ha, by omega, hcell⟩
theorem InB.kept {B : Nat} {w w' : World} {e : LE} {v : Value} (h : InB B w e v) (hk : ∀ b, b < B -> w'.heap[b]? = w.heap[b]?) : InB B w' e v := by
 obtain ⟨h1, a, cap, hv, hle, hc⟩ := h
 refine ⟨h1, a, cap, hv, hle, fun hn => ?_⟩
 obtain ⟨b, off, ha, hb, hcell⟩ := hc hn
 exact ⟨b, off, ha, hb, fun j hj o c hoc => (World.cell?_of_block (w := w) (a := ⟨b, _, none⟩) (hk b hb)).trans (hcell j hj o c hoc)⟩
theorem OwnB.kept {B : Nat} {w w' : World} {e : LE} {v : Value} {row : Option Nat} (h : OwnB B w e v) (hg : w.grownBy w' row) (hne : v.ownBlock = none \/ v.ownBlock ≠ row) : OwnB B w' e v := ⟨h.1, h.2.kept hg hne⟩
theorem OwnB.more {B B' : Nat} {w : World} {e : LE} {v : Value} (h : OwnB B w e v) (hB : B' <= B) : OwnB B' w e v := by
 refine ⟨h.1, h.2.1, ?_⟩
 rcases h.2.2 with h | ⟨g, cap, cur, hv, hb, rest⟩
 . exact .inl h
 . exact .inr ⟨g, cap, cur, hv, by omega, rest⟩
theorem InB.sub {B : Nat} {w : World} {e : LE} {v : Value} (h : InB B w e v) (lo n : Nat) (hle : lo + n <= e.n) (o : Bool) : InB B w ⟨e.elT, e.size, n, fun j => e.el (lo + j), false, false, o⟩ (subOf v lo n e.size) := by
 obtain ⟨⟨h1, h2⟩, a, cap, rfl, hcap, hc⟩ := h
 refine ⟨⟨h1, fun j hj => h2 (lo + j) (by have : j < n := hj; omega)⟩, _, _, rfl, by show n <= cap - lo; omega, fun hn => ?_⟩
 have hn : 0 < n := hn
 obtain ⟨b, off, rfl, hb, hcell⟩ := hc (by omega)
 refine ⟨b, off + lo * e.size, ?_, hb, fun j hj o c hoc => ?_⟩
 . rw [if_neg (by omega)]
   simp [add_plain]
 . have hj : j < n := hj
   have := hcell (lo + j) (by omega) o c hoc
   rw [Nat.add_mul] at this
   rw [show off + lo * e.size + j * e.size + o = off + (lo * e.size + j * e.size) + o by omega]
   exact this
def LOk (B : Nat) (w : World) (e : LE) (v : Value) : Prop := bif e.own then OwnB B w e v else InB B w e v
def BOk (B : Nat) (ν : Nu) (w : World) (a : Nat) (b : Blk) : Prop := match b.kd with
 | .cells => w.heap[a]? = some (.cells (concB ν b.cells).toArray b.elem (0, 0))
 | .iter _ s pos => w.heap[a]? = some (.stringIter s pos)
 | .bld _ T e acc => Lib.IsBuilderF T e B a (Lib.strCells acc) w /\ T ≠ e
 | .shut => w.heap[a]? = some (.cells (concB ν b.cells).toArray b.elem (b.cells.length, b.cells.length + 1))
 | .map _ l => MapL w a l
 | .mapV _ l => MapV w a l
theorem BOk.cells {B : Nat} {ν : Nu} {w : World} {a : Nat} {b : Blk} (h : BOk B ν w a b) (hk : b.kd = .cells) : w.heap[a]? = some (.cells (concB ν b.cells).toArray b.elem (0, 0)) := by
 unfold BOk at h; rw [hk] at h; exact h
theorem isC_kd {b : Blk} (h : isC b = true) : b.kd = .cells := by
 unfold isC at h
 split at h
 . assumption
 . cases h
theorem getB_some {s : St} {i : Nat} {b : Blk} (h : getB s i = some b) : s.own.b[i]? = some b /\ b.kd = .cells := by
 unfold getB at h
 split at h
 . rename_i b' hb
   cases hc : isC b'
   . rw [hc] at h; cases h
   . rw [hc] at h
     simp only [cond_true, qS] at h
     subst h; exact ⟨hb, isC_kd hc⟩
 . cases h
theorem BOk.lt {B : Nat} {ν : Nu} {w : World} {a : Nat} {b : Blk} (h : BOk B ν w a b) : a < w.heap.size := by
 unfold BOk at h
 split at h
 . exact lt_of_some h
 . exact lt_of_some h
 . rcases h.1 with h | h
   . exact h.lt
   . exact h.lt
 . exact lt_of_some h
 . exact h.lt
 . exact h.lt
theorem BOk.congr {B : Nat} {ν ν' : Nu} {w : World} {a : Nat} {b : Blk} {n m : Nat} (h : BOk B ν w a b) (hok : ∀ c ∈ b.cells, okV n m c) (ha : Agree n m ν ν') : BOk B ν' w a b := by
 unfold BOk at *
 split at h
 . rw [<- concB_congr hok ha]; exact h
 . exact h
 . exact h
 . rw [<- concB_congr hok ha]; exact h
 . exact h
 . exact h
theorem bldAt_kept {T e : TypeId} {B a : Nat} {p : Value} {bs : List Value} {w w' : World} {row : Option Nat} (h : Lib.BuilderAtF T e B a p bs w) (hg : w.grownBy w' row) (hne : row ≠ some a) (hr : ∀ g cs fz, row = some g -> w.heap[g]? ≠ some (.cells cs e fz)) : Lib.BuilderAtF T e B a p bs w' := by
 obtain ⟨hB, v, hb, hown, hn⟩ := h
 refine ⟨hB, v, (hg.block a (lt_of_some hb) (fun e => hne e.symm)).trans hb, hown.kept hg ?_, hn⟩
 rcases hown.2 with ⟨rfl, _⟩ | ⟨g, cap, cur, fz, rfl, _, hgg, _⟩
 . exact .inl rfl
 . exact .inr fun heq => hr g cur fz heq.symm hgg
theorem BOk.turn {B : Nat} {ν : Nu} {w w' : World} {a : Nat} {b : Blk} {row : Option Nat} (h : BOk B ν w a b) (hg : w.grownBy w' row) (hne : row ≠ some a)
   (hr : ∀ g cs fz fl T e acc, row = some g -> b.kd = .bld fl T e acc -> w.heap[g]? ≠ some (.cells cs e fz)) : BOk B ν w' a b := by
 have hlt := h.lt
 have hsame := hg.block a hlt (fun e => hne e.symm)
 unfold BOk at *
 split at h
 . rw [hsame]; exact h
 . rw [hsame]; exact h
 . rename_i fl T e acc hk
   refine ⟨?_, h.2⟩
   rcases h.1 with h | h
   . exact .inl (bldAt_kept h hg hne fun g cs fz e1 => hr g cs fz fl T e acc e1 hk)
   . exact .inr (bldAt_kept h hg hne fun g cs fz e1 => hr g cs fz fl T e acc e1 hk)
 . rw [hsame]; exact h
 . exact h.of_heap hsame
 . exact h.of_heap hsame
structure Base extends World where
 F : Nat -> Option Obj
instance : Coe Base World := ⟨Base.toWorld⟩
def base0 (w : World) : Base := ⟨w, fun _ => none⟩
instance : Coe World Base := ⟨base0⟩
structure Fr (F : Nat -> Option Obj) (ν : Nu) (own : Mem) (w : World) : Prop where
 here : ∀ b o, F b = some o -> w.heap[b]? = some o
 offb : ∀ i, i < own.b.length -> F (ν.l i) = none
 offl : ∀ (k : Nat) e, own.l[k]? = some e -> e.dead = false -> e.own = true -> ∀ g, (ν.v k).ownBlock = some g -> F g = none
theorem Fr.void (ν : Nu) (own : Mem) (w : World) : Fr (fun _ => none) ν own w := ⟨fun _ _ h => (by cases h), fun _ _ => rfl, fun _ _ _ _ _ _ _ => rfl⟩
theorem Fr.fresh {F : Nat -> Option Obj} {ν : Nu} {own : Mem} {w : World} (h : Fr F ν own w) {b : Nat} (hb : w.heap.size <= b) : F b = Option.none := by
 cases e : F b with
 | none => rfl
 | some o =>
   have := lt_of_some (h.here b o e)
   omega
theorem Fr.below {F : Nat -> Option Obj} {ν : Nu} {own : Mem} {w w' : World} (h : Fr F ν own w) (hb : Below w.heap.size w w') : Fr F ν own w' :=
 ⟨fun b o e => (hb.block b (lt_of_some (h.here b o e))).trans (h.here b o e), h.offb, h.offl⟩
structure WR (w0 : Base) (ν : Nu) (own : Mem) (mem : Bool) (w : World) : Prop where
 below : Below w0.heap.size w0.toWorld w
 blk : ∀ i b, own.b[i]? = some b -> BOk w0.heap.size ν w (ν.l i) b /\ w0.heap.size <= ν.l i
 okb : OkB own.b.length own.l.length own.b
 inj : ∀ i j, i < own.b.length -> j < own.b.length -> ν.l i = ν.l j -> i = j
 lst : ∀ k e, own.l[k]? = some e -> e.dead = false -> LOk w0.heap.size w e (ν.v k)
 sep : ∀ k e, own.l[k]? = some e -> e.dead = false -> e.own = true -> ∀ g, (ν.v k).ownBlock = some g -> (∀ i, i < own.b.length -> ν.l i ≠ g) /\ ∀ k' e', own.l[k']? = some e' -> e'.dead = false -> e'.own = true -> k' ≠ k -> (ν.v k').ownBlock ≠ some g
 same : mem = false -> w = w0.toWorld
 fr : Fr w0.F ν own w
structure TR (n : Nat) (ν : Nu) (s : St) (a : Act) : Prop where
 size : a.tmps.size = n
 tm : ∀ t, Is ν (look s.tmps t) (a.tmps.getD t undef)
 df : a.defers = []
structure Good (s : St) : Prop where
 lo : s.lo <= s.own.b.length
 llo : s.llo <= s.own.l.length
 ok : ∀ p ∈ s.tmps, okV s.own.b.length s.own.l.length p.2
 okb : OkB s.own.b.length s.own.l.length s.own.b
def Holds' (s : St) : Prop := ∀ p ∈ s.obl, p.1 = p.2
structure Le (s s' : St) : Prop where
 ext : ∀ p ∈ s.obl, p ∈ s'.obl
 len : s.own.b.length <= s'.own.b.length
 llen : s.own.l.length <= s'.own.l.length
 lo : s'.lo = s.lo
 llo : s'.llo = s.llo
 keep : ∀ i, i < s.lo -> s'.own.b[i]? = s.own.b[i]?
 lkeep : ∀ i, i < s.llo -> s'.own.l[i]? = s.own.l[i]?
theorem Le.refl (s : St) : Le s s := ⟨fun _ h => h, Nat.le_refl _, Nat.le_refl _, rfl, rfl, fun _ _ => rfl, fun _ _ => rfl⟩
theorem Le.trans {s t u : St} (h : Le s t) (k : Le t u) : Le s u :=
 ⟨fun p hp => k.ext p (h.ext p hp), Nat.le_trans h.len k.len, Nat.le_trans h.llen k.llen, k.lo.trans h.lo, k.llo.trans h.llo, fun i hi => (k.keep i (by rw [h.lo]; exact hi)).trans (h.keep i hi), fun i hi => (k.lkeep i (by rw [h.llo]; exact hi)).trans (h.lkeep i hi)⟩
theorem Le.holds {s s' : St} (h : Le s s') (k : Holds' s') : Holds' s := fun p hp => k p (h.ext p hp)
abbrev Glob (E : Env) (w : World) : Prop := GlobW E.glob w
structure GlobB (E : Env) (w0 : Base) : Prop where
 glob : GlobW E.glob w0.toWorld
 free : E.bt.isSome = true -> w0.F = fun _ => none
theorem GlobB.below {E : Env} {w0 : Base} {w : World} (h : GlobB E w0) (hb : Below w0.heap.size w0.toWorld w) : Glob E w := GlobW.below h.glob hb
theorem GlobB.of {E : Env} {w : World} (h : Glob E w) : GlobB E (base0 w) := ⟨h, fun _ => rfl⟩
def CellsOk (w : World) : List (Sum Value LE) -> List Value -> Prop
 | [], [] => True
 | .inl x :: r, v :: vs => v = x /\ CellsOk w r vs
 | .inr e :: r, v :: vs => InB w.heap.size w e v /\ CellsOk w r vs
 | _, _ => False
def ArgsOk (w : World) : List XV -> List Value -> Prop
 | [], [] => True
 | .inl x :: r, v :: vs => v = x /\ ArgsOk w r vs
 | .inr e :: r, v :: vs => InB w.heap.size w e v /\ ArgsOk w r vs
 | .st cs :: r, v :: vs => (∃ us : List Value, v = .agg us.toArray /\ CellsOk w cs us) /\ ArgsOk w r vs
 | _, _ => False
def flatX : List XV -> List (Sum Value LE)
 | [] => []
 | .inl x :: r => .inl x :: flatX r
 | .inr e :: r => .inr e :: flatX r
 | .st cs :: r => cs ++ flatX r
def Shape : List XV -> List Value -> List Value -> Prop
 | [], vs, us => vs = [] /\ us = []
 | .inl _ :: r, vs, us => ∃ v vs' us', vs = v :: vs' /\ us = v :: us' /\ Shape r vs' us'
 | .inr _ :: r, vs, us => ∃ v vs' us', vs = v :: vs' /\ us = v :: us' /\ Shape r vs' us'
 | .st cs :: r, vs, us => ∃ a vs' us', vs = .agg a.toArray :: vs' /\ us = a ++ us' /\ a.length = cs.length /\ Shape r vs' us'
def CellsOut (B : Nat) (w : World) : List (Sum Value LE) -> List Value -> Prop
 | [], [] => True
 | .inl x :: r, v :: vs => v = x /\ CellsOut B w r vs
 | .inr e :: r, v :: vs => (OwnB B w e v /\ ∀ g, v.ownBlock = some g -> ∀ u ∈ vs, u.ownBlock ≠ some g) /\ CellsOut B w r vs
 | _, _ => False
def OutOk (B : Nat) (w : World) (res : List XV) (vs : List Value) : Prop := ∃ us, Shape res vs us /\ CellsOut B w (flatX res) us
theorem outOk_v {B : Nat} {w : World} {x : Value} {vs : List Value} (h : OutOk B w [.inl x] vs) : vs = [x] := by
 obtain ⟨us, ⟨v, vs', us', rfl, rfl, rfl, rfl⟩, hc⟩ := h
 have : v = x := hc.1
 rw [this]
theorem outOk_l {B : Nat} {w : World} {e : LE} {vs : List Value} (h : OutOk B w [.inr e] vs) : ∃ u, vs = [u] /\ OwnB B w e u := by
 obtain ⟨us, ⟨v, vs', us', rfl, rfl, rfl, rfl⟩, hc⟩ := h
 exact ⟨v, rfl, hc.1.1⟩
def outV (tup : Bool) (vs : List Value) : Value := bif tup then .tuple vs.toArray else vs.headD undef
def LRet (P : Program) (f : FuncId) (vals : List Value) (tup : Bool) (res : List XV) (w : World) : Prop :=
 Calls P f vals.toArray w fun e w' => ∃ vs, e = .returned (outV tup vs) /\ OutOk w.heap.size w' res vs /\ Below w.heap.size w w'
def BldOk (P : Program) (T e : TypeId) (op : BOp) (f : FuncId) : Prop := ∀ acc args v add, bopR op acc args = some (v, add, true) -> ∀ B b w, Lib.IsBuilderF T e B b (Lib.strCells acc) w -> fitB acc add = true -> B <= w.heap.size ->
 Calls P f ((Value.pointer (some ⟨b, 0, none⟩) :: args).toArray) w fun r w' => r = .returned v /\ Lib.IsBuilderF T e B b (Lib.strCells (accB true acc add)) w' /\ Below B w w' /\ Lib.OthersKept e (some b) w w'
def IsL (ν : Nu) : List SV -> List Value -> Prop
 | [], [] => True
 | x :: r, v :: vs => Is ν x v /\ IsL ν r vs
 | _, _ => False
def SemF (P : Program) (gl : Nat -> Option (List Value)) (f : FuncId) (args : List SV) (own : Mem) (x : SV) (own' : Mem) : Prop := ∀ (w0 : Base), GlobW gl w0.toWorld -> ∀ ν w vs, IsL ν args vs -> WR w0 ν own true w ->
 Calls P f vs.toArray w fun e w' => ∃ ν' v, Ag own ν ν' /\ e = .returned v /\ Is ν' x v /\ WR w0 ν' own' true w'
def EffOk (P : Program) (gl : Nat -> Option (List Value)) (eff : FuncId -> Option (List SV -> Mem -> Option Eff)) : Prop := ∀ f g args own r, eff f = some g -> g args own = some r -> r.ok = true -> SemF P gl f args own r.x (applyE own r)
theorem EffOk.none {P : Program} {gl : Nat -> Option (List Value)} : EffOk P gl fun _ => none := fun _ _ _ _ _ h => by cases h
def CallOk (E : Env) : Prop := (∀ f args v, E.call f args = some v -> ∀ w, Glob E w -> Calls E.P f args w fun e w' => e = .returned v /\ Below w.heap.size w w') /\
 (∀ f args v, E.pcall f args = some (v, true) -> ∀ w, Glob E w -> Calls E.P f args.toArray w fun e w' => e = .returned v /\ Below w.heap.size w w') /\
 (∀ f args tup res, E.lcall f args = some (tup, res, true) -> ∀ w vals, Glob E w -> ArgsOk w args vals -> LRet E.P f vals tup res w) /\
 (∀ f op T e, E.bop f = some op -> E.bt = some (T, e) -> BldOk E.P T e op f) /\
 (∀ f args v, E.acall f args = some (v, true) -> ∀ w, Glob E w -> Calls E.P f args.toArray w fun e w' => (∃ u, e = .returned (.tuple #[v, u])) /\ Below w.heap.size w w') /\
 EffOk E.P E.glob E.eff
theorem grownBy_of {w w' : World} (h : Below w.heap.size w w') (row : Option Nat) : w.grownBy w' row := ⟨h.os, h.tape, h.output, h.size, fun k hk _ => h.block k hk⟩
theorem LOk.kept {B : Nat} {w w' : World} {e : LE} {v : Value} {row : Option Nat} (h : LOk B w e v) (hg : w.grownBy w' row) (hB : B <= w.heap.size) (hr : ∀ g, row = some g -> B <= g) (hne : e.own = true -> v.ownBlock = none \/ v.ownBlock ≠ row) : LOk B w' e v := by
 unfold LOk at *
 cases ho : e.own
 . rw [ho] at h
   exact InB.kept h fun b hb => hg.block b (by omega) fun e => by have := hr b e.symm; omega
 . rw [ho] at h
   exact OwnB.kept h hg (hne ho)
theorem WR.grown {w0 : Base} {ν : Nu} {own : Mem} {mem : Bool} {w w' : World} (h : WR w0 ν own mem w) (hb : Below w.heap.size w w') : WR w0 ν own true w' :=
 ⟨h.below.trans (hb.mono h.below.size), fun i b hi => by
   obtain ⟨h1, h2⟩ := h.blk i b hi
   exact ⟨h1.turn (grownBy_of hb none) (fun e => by cases e) (fun _ _ _ _ _ _ _ e => by cases e), h2⟩, h.okb, h.inj, fun k e hk hd => (h.lst k e hk hd).kept (grownBy_of hb none) h.below.size (fun _ e => by cases e) (fun _ => by cases (ν.v k).ownBlock <;> simp), h.sep, (fun h => by cases h), h.fr.below hb⟩
theorem WR.mem {w0 : Base} {ν : Nu} {own : Mem} {mem : Bool} {w : World} (h : WR w0 ν own mem w) : WR w0 ν own true w := ⟨h.below, h.blk, h.okb, h.inj, h.lst, h.sep, (fun h => by cases h), h.fr⟩
theorem WR.restrict {w0 : Base} {ν ν' : Nu} {own own' : Mem} {mem : Bool} {w : World} (h : WR w0 ν' own' mem w) (hok : OkB own.b.length own.l.length own.b) (ha : Ag own ν ν') (hl : own.b.length <= own'.b.length) (hk : ∀ i, i < own.b.length -> own'.b[i]? = own.b[i]?) (hk' : ∀ i, i < own.l.length -> own'.l[i]? = own.l[i]?) : WR w0 ν own true w :=
 ⟨h.below, fun i b hi => by
   have hlt := lt_of_some_list hi
   rw [ha.1 i hlt]
   obtain ⟨h1, h2⟩ := h.blk i b (by rw [hk i hlt]; exact hi)
   exact ⟨h1.congr (hok i b hi) ⟨fun i hi => (ha.1 i hi).symm, fun i hi => (ha.2 i hi).symm⟩, h2⟩, hok, fun i j hi hj he => h.inj i j (by omega) (by omega) (by rw [<- ha.1 i hi, <- ha.1 j hj]; exact he),
  fun k e he hd => by
   have hlt := lt_of_some_list he
   rw [ha.2 k hlt]
   exact h.lst k e (by rw [hk' k hlt]; exact he) hd,
  fun k e he hd ho g hg => by
   have hlt := lt_of_some_list he
   rw [ha.2 k hlt] at hg
   obtain ⟨s1, s2⟩ := h.sep k e (by rw [hk' k hlt]; exact he) hd ho g hg
   refine ⟨fun i hi => by rw [ha.1 i hi]; exact s1 i (by omega), fun k' e' he' hd' ho' hne => ?_⟩
   have hlt' := lt_of_some_list he'
   rw [ha.2 k' hlt']
   exact s2 k' e' (by rw [hk' k' hlt']; exact he') hd' ho' hne, (fun h => by cases h), ⟨h.fr.here, fun i hi => by rw [ha.1 i hi]; exact h.fr.offb i (by omega), fun k e he hd ho g hg => by
   have hlt := lt_of_some_list he
   rw [ha.2 k hlt] at hg
   exact h.fr.offl k e (by rw [hk' k hlt]; exact he) hd ho g hg⟩⟩
theorem WR.drew {w0 : Base} {ν : Nu} {own : Mem} {mem : Bool} {w : World} (h : WR w0 ν own mem w) : WR w0 ν own true { w with drawn := w.drawn + 1 } :=
 h.grown ⟨rfl, rfl, rfl, Nat.le_refl _, fun _ _ => rfl⟩
theorem getL_some {s : St} {k : Nat} {e : LE} (h : getL s k = some e) : s.own.l[k]? = some e /\ e.dead = false := by
 unfold getL at h
 split at h
 . rename_i e' he
   cases hd : e'.dead
   . rw [hd] at h; simp only [cond_false, qS] at h; subst h; exact ⟨he, hd⟩
   . rw [hd] at h; cases h
 . cases h
theorem WR.inB {w0 : Base} {ν : Nu} {own : Mem} {mem : Bool} {w : World} (h : WR w0 ν own mem w) {k : Nat} {e : LE} (he : own.l[k]? = some e) (hd : e.dead = false) : InB w.heap.size w e (ν.v k) := by
 have := h.lst k e he hd
 unfold LOk at this
 cases ho : e.own
 . rw [ho] at this; exact InB.more this h.below.size
 . rw [ho] at this; exact OwnB.inB this
theorem eval_is {n : Nat} {ν : Nu} {s : St} {a : Act} (h : TR n ν s a) (x : Operand) : Is ν (ev s x) (a.eval x) := by
 cases x with
 | tmp t => exact h.tm t
 | const v => rfl
 | global g => rfl
 | func f => rfl
theorem eval_ev {n : Nat} {ν : Nu} {s : St} {a : Act} (h : TR n ν s a) {x : Operand} {y : SV} (hx : ev s x = y) (hy : y ≠ .any) : a.eval x = conc ν y := by
 have := eval_is h x
 rw [hx] at this
 cases y <;> first | exact this | exact absurd rfl hy
theorem eval_v {n : Nat} {ν : Nu} {s : St} {a : Act} (h : TR n ν s a) {x : Operand} {fl : List Bool} {y : Value} (hx : ev s x = .inl (fl, y)) : a.eval x = y := eval_ev h hx (by simp)
theorem eval_own {n : Nat} {ν : Nu} {s : St} {a : Act} (h : TR n ν s a) {x : Operand} {i off : Nat} (hx : ev s x = .inr (i, off, none)) : a.eval x = .pointer (some ⟨ν.l i, off, none⟩) := eval_ev h hx (by simp)
theorem eval_sl {n : Nat} {ν : Nu} {s : St} {a : Act} (h : TR n ν s a) {x : Operand} {i off len cap : Nat} (hx : ev s x = .inr (i, off, some (len, cap))) : a.eval x = .slice (some ⟨ν.l i, off, none⟩) len cap := eval_ev h hx (by simp)
theorem eval_c {n : Nat} {ν : Nu} {s : St} {a : Act} (h : TR n ν s a) {x : Operand} {k : Nat} (hx : ev s x = .c k) : a.eval x = ν.v k := eval_ev h hx (by simp)
theorem eval_lp {n : Nat} {ν : Nu} {s : St} {a : Act} (h : TR n ν s a) {x : Operand} {k j o sz : Nat} (hx : ev s x = .lp k j o sz) : a.eval x = placeOf (ν.v k) (j * sz + o) := eval_ev h hx (by simp)
theorem eval_tp {n : Nat} {ν : Nu} {s : St} {a : Act} (h : TR n ν s a) {x : Operand} {l : List TV} (hx : ev s x = .tp l) : a.eval x = .tuple (l.map (concT ν)).toArray := eval_ev h hx (by simp)
theorem eval_ia {n : Nat} {ν : Nu} {s : St} {a : Act} (h : TR n ν s a) {x : Operand} {i off len : Nat} {m : Int} (hx : ev s x = .ia i off len m) : a.eval x = .pointer (some ⟨ν.l i, off + m.toNat, none⟩) := eval_ev h hx (by simp)
theorem eval_rp {n : Nat} {ν : Nu} {s : St} {a : Act} (h : TR n ν s a) {x : Operand} {v : Value} {e : LE} {j o : Nat} (hx : ev s x = .rp v e j o) : a.eval x = placeOf v (j * e.size + o) := eval_ev h hx (by simp)
theorem eval_mp {n : Nat} {ν : Nu} {s : St} {a : Act} (h : TR n ν s a) {x : Operand} {i : Nat} (hx : ev s x = .mp i) : a.eval x = .map (some (ν.l i)) := eval_ev h hx (by simp)
theorem eval_fn {n : Nat} {ν : Nu} {s : St} {a : Act} (h : TR n ν s a) {x : Operand} {f : FuncId} {fs cs : List CV} (hx : ev s x = .fn f fs cs) : a.eval x = .func (.func f) (fs.map (concC ν)).toArray (cs.map (concC ν)).toArray := eval_ev h hx (by simp)
theorem eval_rho {n : Nat} {ν : Nu} {s : St} {a : Act} (h : TR n ν s a) {x : Operand} (hx : isV (ev s x) = true) : a.eval x = rho s x := by
 unfold rho
 cases he : ev s x with
 | inl p => exact eval_v h he
 | _ => rw [he] at hx; cases hx
theorem ev_ok {s : St} (h : Good s) (x : Operand) : okV s.own.b.length s.own.l.length (ev s x) := by
 cases x with
 | tmp t => exact look_ok h.ok
 | _ => exact trivial
end Go.Proofs.Ytmaffamhjmlonaa.S2
