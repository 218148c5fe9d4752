/- The evaluator of Sim with lists: a slot may hold a slice that came in (its elements are known, their number may be open), a slice that the call makes by append, or the address of an element; loops with an open number of rounds by an invariant. No word of the program. -/
import Derived.Test.YtmaffamhjmlonaaK01
import Derived.Test.YtmaffamhjmlonaaMapL
import Derived.Laws.BytesArg
set_option linter.unusedVariables false
set_option linter.unusedSimpArgs false
namespace Go.Proofs.Ytmaffamhjmlonaa.S2
open Go Go.RowKit Sim
structure LE where
 elT : TypeId
 size : Nat
 n : Nat
 el : Nat -> List Value
 own : Bool
 dead : Bool
 opn : Bool
inductive CV where
 | v (fl : List Bool) (x : Value)
 | a (i off : Nat)
 | l (k : Nat)
inductive TV where
 | inl (p : List Bool × Value)
 | inr (k : Nat)
 | st (cs : List CV)
inductive SV where
 | inl (p : List Bool × Value)
 | inr (p : Nat × Nat × Option (Nat × Nat))
 | c (k : Nat)
 | lp (k j o sz : Nat)
 | tp (l : List TV)
 | fn (f : FuncId) (fs cs : List CV)
 /-- A list's part: so many elements from one on. -/
 | sub (k lo n sz : Nat)
 /-- A struct's cells. -/
 | st (cs : List CV)
 /-- A map of the call's own: its block. -/
 | mp (i : Nat)
 /-- The address of a cell of an array of the call's own, at an open index. -/
 | ia (i off len : Nat) (n : Int)
 /-- The address of a cell of a row that is only read: the slice, what it reads as, the element, the cell. -/
 | rp (v : Value) (e : LE) (j o : Nat)
 | any
structure Nu where
 l : Nat -> Nat
 v : Nat -> Value
def placeOf : Value -> Nat -> Value
 | .slice (some ⟨b, off, none⟩) _ _, n => .pointer (some ⟨b, off + n, none⟩)
 | _, _ => undef
def subOf : Value -> Nat -> Nat -> Nat -> Value
 | .slice a _ cap, lo, n, sz => .slice (if cap = lo then a else a.map (·.add (lo * sz))) n (cap - lo)
 | _, _, _, _ => undef
def concC (ν : Nu) : CV -> Value
 | .v _ x => x
 | .a i off => .pointer (some ⟨ν.l i, off, none⟩)
 | .l k => ν.v k
def concT (ν : Nu) : TV -> Value
 | .inl (_, x) => x
 | .inr k => ν.v k
 | .st cs => .agg (cs.map (concC ν)).toArray
def conc (ν : Nu) : SV -> Value
 | .inl (_, x) => x
 | .inr (i, off, none) => .pointer (some ⟨ν.l i, off, none⟩)
 | .inr (i, off, some (len, cap)) => .slice (some ⟨ν.l i, off, none⟩) len cap
 | .c k => ν.v k
 | .lp k j o sz => placeOf (ν.v k) (j * sz + o)
 | .tp l => .tuple (l.map (concT ν)).toArray
 | .fn f fs cs => .func (.func f) (fs.map (concC ν)).toArray (cs.map (concC ν)).toArray
 | .sub k lo n sz => subOf (ν.v k) lo n sz
 | .st cs => .agg (cs.map (concC ν)).toArray
 | .mp i => .map (some (ν.l i))
 | .ia i off _ n => .pointer (some ⟨ν.l i, off + n.toNat, none⟩)
 | .rp v e j o => placeOf v (j * e.size + o)
 | .any => undef
def Is (ν : Nu) : SV -> Value -> Prop
 | .any, _ => True
 | x, v => v = conc ν x
def okC (n m : Nat) : CV -> Prop
 | .v _ _ => True
 | .a i _ => i < n
 | .l k => k < m
def okT (n m : Nat) : TV -> Prop
 | .inl _ => True
 | .inr k => k < m
 | .st cs => ∀ x ∈ cs, okC n m x
def okV (n m : Nat) : SV -> Prop
 | .inl (_, _) => True
 | .inr (i, _, none) => i < n
 | .inr (i, _, some (_, _)) => i < n
 | .c k => k < m
 | .lp k _ _ _ => k < m
 | .tp l => ∀ x ∈ l, okT n m x
 | .fn _ fs cs => (∀ x ∈ fs, okC n m x) /\ ∀ x ∈ cs, okC n m x
 | .sub k _ _ _ => k < m
 | .st cs => ∀ x ∈ cs, okC n m x
 | .mp i => i < n
 | .ia i _ _ _ => i < n
 | .rp _ _ _ _ => True
 | .any => True
inductive Kd where
 | cells
 | iter (fl : List Bool) (s : ByteArray) (pos : Nat)
 | bld (fl : List Bool) (T e : TypeId) (acc : ByteArray)
 /-- Cells that a conversion has marked: nobody writes them. -/
 | shut
 /-- A map with int keys: its type, its stores. -/
 | map (T : TypeId) (l : List (Int × Value))
 /-- A map with keys of any kind. -/
 | mapV (T : TypeId) (l : List (Value × Value))
structure Blk where
 cells : List SV
 elem : TypeId
 kd : Kd
def isC (b : Blk) : Bool := match b.kd with
 | .cells => true
 | _ => false
inductive BOp where
 | wstr
 | wbyte
 | wrune
 | str
 | len
structure Mem where
 b : List Blk
 l : List LE
structure St where
 tmps : List (Nat × SV)
 own : Mem
 lo : Nat
 llo : Nat
 mem : Bool
 orc : List Bool
 obl : List (Bool × Bool)
inductive XV where
 | inl (x : Value)
 | inr (e : LE)
 | st (cs : List (Sum Value LE))
structure Eff where
 x : SV
 sb : List (Nat × Blk) := []
 sl : List (Nat × LE) := []
 ab : List Blk := []
 al : List LE := []
 ok : Bool := true
structure Env where
 P : Program
 glob : Nat -> Option (List Value)
 call : FuncId -> Array Value -> Option Value
 pcall : FuncId -> List Value -> Option (Value × Bool) := fun _ _ => none
 lcall : FuncId -> List XV -> Option (Bool × List XV × Bool) := fun _ _ => none
 nowrap : Bool := true
 /-- Arithmetic on something open gives an atom (arZ). -/
 opq : Bool := false
 /-- The type strings.Builder and its bytes' type; its methods. -/
 bt : Option (TypeId × TypeId) := none
 bop : FuncId -> Option BOp := fun _ => none
 /-- Callees that answer a pair whose second part nobody tells. -/
 acall : FuncId -> List Value -> Option (Value × Bool) := fun _ _ => none
 /-- Callees whose answers are taken for closed. -/
 shut : FuncId -> Bool := fun _ => false
 /-- Callees that change the call's own memory: their arguments and what these reach, numbered as it is reached. -/
 eff : FuncId -> Option (List SV -> Mem -> Option Eff) := fun _ => none
 /-- A part of a list that came in is a list of its own. -/
 cut : Bool := false
 /-- A slice literal of plain values is a list of the call's own. -/
 lit : Bool := false
 /-- A slice literal's cells are open where one of its parts is. -/
 mks : Bool := false
 /-- Appends (by the slot of their result) that append nothing. -/
 non : List Nat := []
 /-- What reads a slice that is to be a list (by the slot of its result): which list the value is. -/
 rowE : Nat -> Option (Value -> LE) := fun _ => none
 /-- What slices of a type read as that are only read (nested lists). -/
 rowT : TypeId -> Option (Value -> LE) := fun _ => none
def look : List (Nat × SV) -> Nat -> SV
 | [], _ => .any
 | (d, x) :: r, t => bif Nat.beq d t then x else look r t
def ev (s : St) : Operand -> SV
 | .tmp t => look s.tmps t
 | .const c => .inl ([], c)
 | .global g => .inl ([], (.pointer (some ⟨g, 0, none⟩)))
 | .func f => .inl ([], (.func (.func f) #[] #[]))
def rho (s : St) (x : Operand) : Value := match ev s x with | .inl (_, y) => y | _ => undef
def isV : SV -> Bool
 | .inl (_, _) => true
 | _ => false
def flS : SV -> List Bool
 | .inl (fl, _) => fl
 | _ => []
def openS (s : St) : List Operand -> Bool
 | [] => false
 | x :: r => anyF (flS (ev s x)) || openS s r
def svC : CV -> SV
 | .v fl x => .inl (fl, x)
 | .a i off => .inr (i, off, none)
 | .l k => .c k
def cvOf : SV -> Option CV
 | .inl (fl, x) => some (.v fl x)
 | .inr (i, off, none) => some (.a i off)
 | .c k => some (.l k)
 | _ => none
def cvL : List SV -> Option (List CV)
 | [] => some []
 | x :: r => match cvOf x, cvL r with
   | some y, some l => some (y :: l)
   | _, _ => none
def mkFn (f : FuncId) : List CV -> List CV -> SV
 | [], [] => .inl ([], .func (.func f) #[] #[])
 | fs, cs => .fn f fs cs
def fnOf : SV -> Option (FuncId × List SV × List SV)
 | .fn f fs cs => some (f, fs.map svC, cs.map svC)
 | .inl (_, .func (.func f) ⟨[]⟩ ⟨[]⟩) => some (f, [], [])
 | _ => none
def getL (s : St) (k : Nat) : Option LE := match s.own.l[k]? with
 | some e => bif e.dead then none else some e
 | none => none
def getB (s : St) (i : Nat) : Option Blk := match s.own.b[i]? with
 | some b => bif isC b then some b else none
 | none => none
abbrev RO := SV × Bool × List (Bool × Bool)
def mkCells : List Value -> List Bool -> List SV
 | [], _ => []
 | v :: r, [] => .inl ([false], v) :: mkCells r []
 | v :: r, b :: fl => .inl ([b], v) :: mkCells r fl
def blk (cs : List Value) (t : TypeId) (fl : List Bool) : Blk := ⟨mkCells cs fl, t, .cells⟩
def valsS : List SV -> Option (List Value)
 | [] => some []
 | .inl (_, v) :: r => match valsS r with
   | some l => some (v :: l)
   | none => none
 | _ :: _ => none
def flsS : List SV -> List Bool
 | [] => []
 | x :: r => anyF (flS x) :: flsS r
def loadS (P : Program) (t : TypeId) (cs : List SV) (off : Nat) : Option SV :=
 match P.underlying t, P.info? t with
 | some d, some i =>
   bif aggD d then (bif Nat.ble (off + i.size) cs.length then (match valsS ((cs.drop off).take i.size) with
     | some vs => some (.inl (flsS ((cs.drop off).take i.size), .agg vs.toArray))
     | none => match cvL ((cs.drop off).take i.size) with
       | some l => some (.st l)
       | none => none) else none)
   else (match cs[off]? with
     | some .any => none
     | r => r)
 | _, _ => none
def oneC (s : St) : CV -> Bool
 | .v _ x => x.oneCell'
 | .a _ _ => true
 | .l k => match getL s k with
   | some _ => true
   | none => false
def cellsS (s : St) : SV -> Option (List SV)
 | .inl (fl, v) => bif v.cells.toList.all Value.oneCell' then some (mkCells v.cells.toList fl) else none
 | .inr p => some [.inr p]
 | .c k => match getL s k with
   | some _ => some [.c k]
   | none => none
 | .fn f fs cs => some [.fn f fs cs]
 | .st cs => bif cs.all (oneC s) then some (cs.map svC) else none
 | _ => none
def putLS : List SV -> Nat -> List SV -> List SV
 | c, _, [] => c
 | c, o, v :: r => putLS (c.set o v) (o + 1) r
def putQS (c : List SV) (o : Nat) (vs : List SV) : List SV := bif Nat.beq o 0 && Nat.beq vs.length c.length then vs else putLS c o vs
def storeS (P : Program) (t : TypeId) (cs : List SV) (off : Nat) (vs : List SV) : Option (List SV) :=
 match P.info? t with
 | some i => bif Nat.beq vs.length i.size && Nat.ble (off + i.size) cs.length then some (putQS cs off vs) else none
 | none => none
def seqB : Nat -> List (Nat × SV) -> Bool
 | _, [] => true
 | k, (i, _) :: r => Nat.beq i k && seqB (k + 1) r
def oneS (s : St) : SV -> Bool
 | .inl (_, v) => v.oneCell'
 | .inr _ => true
 | .c k => match getL s k with
   | some _ => true
   | none => false
 | .fn _ _ _ => true
 | _ => false
def litT (s : St) (size len : Nat) (parts : List (Nat × SV)) : Option (List SV) := match parts with
 | [(0, .st cs)] => bif Nat.beq len 1 && Nat.beq cs.length size && Nat.blt 0 size && Nat.ble size (2 ^ 24) then cellsS s (.st cs) else none
 | _ => none
def litS (P : Program) (s : St) (t : TypeId) (len : Nat) (parts : List (Nat × SV)) : Option (List SV × TypeId) :=
 match P.underlying t with
 | some (.slice e) => match P.info? e with
   | some i => match i.zero with
     | some z => bif Nat.beq i.size 1 && Nat.beq parts.length len && Nat.blt 0 len && Nat.ble len (2 ^ 24) && seqB 0 parts && parts.all (fun p => oneS s p.2) then some (parts.map (·.2), e) else (match litT s i.size len parts with
       | some us => some (us, e)
       | none => none)
     | none => none
   | none => none
 | _ => none
def isMkO : Op -> Bool
 | .makeSlice _ _ _ => true
 | _ => false
def generic (E : Env) (o : Oper) (s : St) : Option RO :=
 bif notSel o.op && o.op.operands.toList.all (fun x => isV (ev s x)) then
   bif isMkO o.op then none else match evalPure E.P (execOp (rho s) o) with
   | some (.value v) => some (.inl ([openS s o.op.operands.toList], v), false, [])
   | some (.enter f args) => match E.call f args with
     | some v => some (.inl ((List.replicate v.cells.size (openS s o.op.operands.toList)), v), true, [])
     | none => none
   | _ => none
 else none
def arith : BinOp -> Int -> Int -> Option Int
 | .add, a, b => some (a + b)
 | .sub, a, b => some (a - b)
 | .mul, a, b => some (a * b)
 | _, _, _ => none
def inI (x : Int) : Bool := decide (-9223372036854775808 <= x /\ x <= 9223372036854775807)
def idxB (n : Int) (len : Nat) : Bool := decide (0 <= n /\ n < len)
def arF (op : BinOp) (k : IntKind) (a b : Int) : Int := match op with
 | .add => k.wrap (a + b)
 | .sub => k.wrap (a - b)
 | .mul => k.wrap (a * b)
 | .shl => k.wrap (a * 2 ^ (min b.toNat k.bits))
 | .shr => a.fdiv (2 ^ (min b.toNat k.bits))
 | .and => bits .and k a b
 | .or => bits .or k a b
 | .xor => bits .xor k a b
 | .andNot => bits .andNot k a b
 | .quo => k.wrap (a.tdiv b)
 | .rem => a.tmod b
 | _ => 0
theorem arZ_ex : ∃ f : BinOp -> IntKind -> Int -> Int -> Int, ∀ op k a b, f op k a b = arF op k a b := ⟨_, fun _ _ _ _ => rfl⟩
noncomputable def arZ : BinOp -> IntKind -> Int -> Int -> Int := Classical.choose arZ_ex
theorem arZ_eq (op : BinOp) (k : IntKind) (a b : Int) : arZ op k a b = arF op k a b := Classical.choose_spec arZ_ex op k a b
theorem catZ_ex : ∃ f : ByteArray -> ByteArray -> ByteArray, ∀ a b, f a b = a ++ b := ⟨_, fun _ _ => rfl⟩
noncomputable def catZ : ByteArray -> ByteArray -> ByteArray := Classical.choose catZ_ex
theorem catZ_eq (a b : ByteArray) : catZ a b = a ++ b := Classical.choose_spec catZ_ex a b
theorem extZ_ex : ∃ f : ByteArray -> Int -> Int -> ByteArray, ∀ s l h, f s l h = s.extract l.toNat h.toNat := ⟨_, fun _ _ _ => rfl⟩
noncomputable def extZ : ByteArray -> Int -> Int -> ByteArray := Classical.choose extZ_ex
theorem extZ_eq (s : ByteArray) (l h : Int) : extZ s l h = s.extract l.toNat h.toNat := Classical.choose_spec extZ_ex s l h
theorem chrZ_ex : ∃ f : ByteArray -> Int -> Int, ∀ s i, f s i = (((s[i.toNat]?).getD 0).toNat : Int) := ⟨_, fun _ _ => rfl⟩
noncomputable def chrZ : ByteArray -> Int -> Int := Classical.choose chrZ_ex
theorem chrZ_eq (s : ByteArray) (i : Int) : chrZ s i = (((s[i.toNat]?).getD 0).toNat : Int) := Classical.choose_spec chrZ_ex s i
def fitS (a b : ByteArray) : Bool := decide (a.size + b.size <= 9223372036854775807)
def shOp : BinOp -> Bool
 | .shl => true
 | .shr => true
 | _ => false
def bitOp : BinOp -> Bool
 | .add => true
 | .sub => true
 | .mul => true
 | .and => true
 | .or => true
 | .xor => true
 | .andNot => true
 | _ => false
def divOp : BinOp -> Bool
 | .quo => true
 | .rem => true
 | _ => false
def isAdd : BinOp -> Bool
 | .add => true
 | _ => false
noncomputable def arS (E : Env) (o : Oper) (s : St) (op : BinOp) (g : List Bool) (k j : IntKind) (a b : Int) : Option RO :=
 bif shOp op then (bif anyF g then some (.inl ([true], (.int k (arZ op k a b))), false, [(pre (decide (0 <= b)), true)])
   else bif decide (0 <= b) then some (.inl ([true], (.int k (arZ op k a b))), false, []) else none)
 else bif bitOp op && decide (k = j) then some (.inl ([true], (.int k (arZ op k a b))), false, [])
 else bif divOp op && decide (k = j) then (bif anyF g then some (.inl ([true], (.int k (arZ op k a b))), false, [(pre (decide (b ≠ 0)), true)])
   else bif decide (b ≠ 0) then some (.inl ([true], (.int k (arZ op k a b))), false, []) else none)
 else generic E o s
def nilFS (E : Env) (op : BinOp) (t : TypeId) : Option RO :=
 match op, E.P.underlying t with
 | .eql, some (.func _ _ _) => some (.inl ([], .bool false), false, [])
 | .neq, some (.func _ _ _) => some (.inl ([], .bool true), false, [])
 | _, _ => none
noncomputable def binS (E : Env) (o : Oper) (s : St) (op : BinOp) (t : TypeId) (x y : Operand) : Option RO :=
 match ev s x, ev s y with
 | .inl (f, (.int k a)), .inl (g, (.int j b)) => match decide (k = j), cmpI op a b with
   | true, some r => some (.inl ([anyF f || anyF g], (.bool r)), false, [])
   | _, _ => match E.nowrap && (anyF f || anyF g) && decide (k = .i64) && decide (j = .i64), arith op a b with
     | true, some r => some (.inl ([true], (.int .i64 r)), false, [(pre (inI r), true)])
     | _, _ => bif E.opq && (anyF f || anyF g) then arS E o s op g k j a b else generic E o s
 | .inl (f, (.agg a)), .inl (g, (.agg b)) => match eqTop E.P op t (.agg a) (.agg b) with
   | some r => some (.inl ([anyF f || anyF g], (.bool r)), false, [])
   | none => generic E o s
 | .inl (f, (.string a)), .inl (g, (.string b)) => bif isAdd op && (anyF f || anyF g) then some (.inl ([true], (.string (catZ a b))), false, [(pre (fitS a b), true)]) else generic E o s
 | .fn _ _ _, .inl (_, .nilFunc) => nilFS E op t
 | _, _ => generic E o s
def plC : List CV -> Option (List Bool × List Value)
 | [] => some ([], [])
 | .v fl x :: r => match plC r with
   | some (g, l) => some (anyF fl :: g, x :: l)
   | none => none
 | _ :: _ => none
def cutC (cs : List CV) : SV := match plC cs with
 | some (g, l) => .inl (g, .agg l.toArray)
 | none => .st cs
def fieldS (P : Program) (t : TypeId) (f : Nat) (cs : List CV) : Option SV :=
 match P.underlying t with
 | some (.struct fs) => match fs[f]? with
   | some fl => match P.underlying fl.type, P.info? fl.type with
     | some d, some i => bif aggD d then (bif Nat.ble (fl.offset + i.size) cs.length then some (cutC ((cs.drop fl.offset).take i.size)) else none)
       else (match cs[fl.offset]? with
         | some c => some (svC c)
         | none => none)
     | _, _ => none
   | none => none
 | _ => none
def mkCV : List Value -> List Bool -> List CV
 | [], _ => []
 | v :: r, [] => .v [false] v :: mkCV r []
 | v :: r, b :: fl => .v [b] v :: mkCV r fl
def partC (s : St) : SV -> Option (List CV)
 | .inl (fl, v) => some (mkCV v.cells.toList fl)
 | .inr (i, off, none) => some [.a i off]
 | .c k => match getL s k with
   | some _ => some [.l k]
   | none => none
 | .st cs => some cs
 | _ => none
def putC : List CV -> Nat -> List CV -> List CV
 | c, _, [] => c
 | c, o, v :: r => putC (c.set o v) (o + 1) r
def fillC (place : Nat -> Option (Nat × Nat)) : List CV -> List (Nat × List CV) -> Option (List CV)
 | cs, [] => some cs
 | cs, (i, v) :: r => match place i with
   | some (off, size) => bif Nat.beq v.length size && Nat.ble (off + v.length) cs.length then fillC place (putC cs off v) r else none
   | none => none
def partsC (s : St) : List (Nat × SV) -> Option (List (Nat × List CV))
 | [] => some []
 | (i, x) :: r => match partC s x, partsC s r with
   | some c, some l => some ((i, c) :: l)
   | _, _ => none
def placesB (P : Program) (fs : List Field) : Option (List (Nat × Nat)) := match fs with
 | [] => some []
 | f :: r => match P.info? f.type, placesB P r with
   | some i, some l => some ((f.offset, i.size) :: l)
   | _, _ => none
def buildS (P : Program) (s : St) (t : TypeId) (parts : List (Nat × SV)) : Option SV :=
 match P.underlying t, P.info? t with
 | some (.struct fs), some i => match i.zero, placesB P fs.toList, partsC s parts with
   | some z, some pl, some l => match fillC (fun k => pl[k]?) (mkCV z.cells.toList []) l with
     | some cs => some (.st cs)
     | none => none
   | _, _, _ => none
 | _, _ => none
def boundS (s : St) (d : Nat) : Option Operand -> Option Int
 | none => some d
 | some x => match ev s x with
   | .inl (_, .int _ n) => some n
   | _ => none
theorem minZ_ex : ∃ f : Int -> Int -> Int, ∀ m n, f m n = if n < m then n else m := ⟨_, fun _ _ => rfl⟩
noncomputable def minZ : Int -> Int -> Int := Classical.choose minZ_ex
theorem minZ_eq (m n : Int) : minZ m n = if n < m then n else m := Classical.choose_spec minZ_ex m n
noncomputable def simRO0 (E : Env) (o : Oper) (s : St) : Option RO :=
 match o.op with
 | .move x => some (ev s x, false, [])
 | .assign x => some (ev s x, false, [])
 | .nilCheck x => match ev s x with
   | .inr (i, off, none) => some (.inr (i, off, none), false, [])
   | .inl (_, _) => generic E o s
   | _ => none
 | .load t x => match ev s x with
   | .inr (i, off, none) => match getB s i with
     | some b => match loadS E.P t b.cells off with
       | some v => some (v, false, [])
       | none => none
     | none => none
   | .inl (_, (.pointer (some ⟨g, off, none⟩))) => match E.glob g with
     | some cs => match loadB E.P t cs off with
       | some v => some (.inl ([], v), false, [])
       | none => none
     | none => none
   | .lp k j o sz => match getL s k with
     | some e => match loadB E.P t (e.el j) o with
       | some v => bif Nat.beq sz e.size then some (.inl (List.replicate v.cells.size true, v), false, [(pre (decide (j < e.n)), true)]) else none
       | none => none
     | none => none
   | _ => none
 | .fieldAddr t x f => match ev s x with
   | .inr (i, off, none) => match fieldB E.P t f off with
     | some off' => some (.inr (i, off', none), false, [])
     | none => none
   | .lp k j o sz => match getL s k, fieldB E.P t f o with
     | some e, some o' => bif Nat.beq sz e.size then some (.lp k j o' sz, false, [(pre (decide (j < e.n)), true)]) else none
     | _, _ => none
   | .inl (_, _) => generic E o s
   | _ => none
 | .indexAddr t x ix => match ev s x, ev s ix with
   | .inr (i, off, none), .inl (_, (.int k n)) => match E.P.underlying t with
     | some (.array len e) => match elemB E.P e len off n with
       | some off' => some (.inr (i, off', none), false, [])
       | none => none
     | _ => none
   | .inr (i, off, some (len, cap)), .inl (_, (.int k n)) => match E.P.underlying t with
     | some (.slice e) => match elemB E.P e len off n with
       | some off' => some (.inr (i, off', none), false, [])
       | none => none
     | _ => none
   | .c k, .inl (_, (.int _ n)) => match getL s k, E.P.underlying t with
     | some e, some (.slice et) => match E.P.info? et with
       | some i => bif Nat.beq i.size e.size then some (.lp k n.toNat 0 e.size, false, [(pre (idxB n e.n), true)]) else none
       | none => none
     | _, _ => none
   | _, _ => generic E o s
 | .binOp op t x y _ => binS E o s op t x y
 | .build t parts => match generic E o s with
   | some (.inl (fl, v), c) => some (.inl ((List.replicate v.cells.size (anyF fl)), v), c)
   | some r => some r
   | none => match buildS E.P s t (parts.toList.map fun p => (p.1, ev s p.2)) with
     | some x => some (x, false, [])
     | none => none
 | .field t x f => match ev s x with
   | .st cs => match fieldS E.P t f cs with
     | some y => some (y, false, [])
     | none => none
   | _ => match generic E o s with
     | some (.inl (_, v), c) => some (.inl ((fieldF E.P t f (flS (ev s x))), v), c)
     | r => r
 | .extract x i => match ev s x with
   | .tp l => match l[i]? with
     | some (.inl p) => some (.inl p, false, [])
     | some (.inr k) => some (.c k, false, [])
     | some (.st cs) => some (.st cs, false, [])
     | none => none
   | _ => generic E o s
 | .slice t x lo hi none => match ev s x with
   | .c k => match getL s k, E.P.underlying t with
     | some e, some (.slice et) => match E.P.info? et, boundS s 0 lo, boundS s e.n hi with
       | some i, some l, some h => bif Nat.beq i.size e.size && Nat.beq (E.P.elem t) et then some (.sub k l.toNat (h.toNat - l.toNat) e.size, false, [(pre (decide (0 <= l /\ l <= h /\ h <= e.n)), true)]) else none
       | _, _, _ => none
     | _, _ => none
   | .inl (f, .string a) => bif openS s o.op.operands.toList then (match E.P.underlying t, boundS s 0 lo, boundS s a.size hi with
     | some .string, some l, some h => some (.inl ([true], (.string (extZ a l h))), false, [(pre (decide (0 <= l /\ l <= h /\ h <= a.size)), true)])
     | _, _, _ => none) else generic E o s
   | _ => generic E o s
 | .index t x ix => match ev s x, ev s ix with
   | .inl (f, .string a), .inl (g, .int _ n) => bif anyF f || anyF g then (match E.P.underlying t with
     | some .string => some (.inl ([true], (.int .u8 (chrZ a n))), false, [(pre (idxB n a.size), true)])
     | _ => none) else generic E o s
   | _, _ => generic E o s
 | .makeFunc (.func f) first captured => match cvL (first.toList.map (ev s)), cvL (captured.toList.map (ev s)) with
   | some fs, some cs => some (mkFn f fs cs, false, [])
   | _, _ => none
 | .call { callee := .builtin .len, args := az, argTypes := ats } => match az.toList, ats.toList with
   | [x], [t] => match ev s x, E.P.underlying t with
     | .inr (i, off, some (len, cap)), some (.slice _) => some (.inl ([], (.int .i64 len)), false, [])
     | .c k, some (.slice _) => match getL s k with
       | some e => some (.inl ([e.opn], (.int .i64 e.n)), false, [])
       | none => none
     | _, _ => generic E o s
   | _, _ => generic E o s
 | .call { callee := .builtin .min, args := az, argTypes := ats } => match az.toList with
   | [x, y] => match ev s x, ev s y with
     | .inl (f, .int k m), .inl (g, .int _ n) => bif anyF f || anyF g then some (.inl ([true], (.int k (minZ m n))), false, []) else generic E o s
     | _, _ => generic E o s
   | _ => generic E o s
 | _ => generic E o s
def intOf : List Value -> Int
 | [.int _ x] => x
 | _ => 0
def strOf (n : Nat) (el : Nat -> List Value) : ByteArray := strOfNums ((List.range n).map fun j => intOf (el j))
theorem strZ_ex : ∃ f : Nat -> (Nat -> List Value) -> ByteArray, ∀ n el, f n el = strOf n el := ⟨_, fun _ _ => rfl⟩
noncomputable def strZ : Nat -> (Nat -> List Value) -> ByteArray := Classical.choose strZ_ex
theorem strZ_eq (n : Nat) (el : Nat -> List Value) : strZ n el = strOf n el := Classical.choose_spec strZ_ex n el
def areBytes (n : Nat) (el : Nat -> List Value) : Prop := ∀ j, j < n -> el j = [.int .u8 (intOf (el j))]
noncomputable def bytesB (n : Nat) (el : Nat -> List Value) : Bool := @decide (areBytes n el) (Classical.propDecidable _)
noncomputable def simCV (E : Env) (o : Oper) (s : St) : Option RO :=
 match o.op with
 | .convert t t' x => match ev s x with
   | .c k => match getL s k, E.P.underlying t, E.P.underlying t' with
     | some e, some (.slice et), some .string => match E.P.underlying et with
       | some (.int .u8) => bif Nat.beq e.size 1 then some (.inl ([true], .string (strZ e.n e.el)), false, [(pre (bytesB e.n e.el), true)]) else none
       | _ => none
     | _, _, _ => none
   | _ => none
 | _ => none
theorem lokZ_ex : ∃ f : List (Int × Value) -> Int -> Value -> Value, ∀ l a z, f l a z = (logL l a).getD z := ⟨_, fun _ _ _ => rfl⟩
noncomputable def lokZ : List (Int × Value) -> Int -> Value -> Value := Classical.choose lokZ_ex
theorem lokZ_eq (l : List (Int × Value)) (a : Int) (z : Value) : lokZ l a z = (logL l a).getD z := Classical.choose_spec lokZ_ex l a z
theorem hasZ_ex : ∃ f : List (Int × Value) -> Int -> Bool, ∀ l a, f l a = (logL l a).isSome := ⟨_, fun _ _ => rfl⟩
noncomputable def hasZ : List (Int × Value) -> Int -> Bool := Classical.choose hasZ_ex
theorem hasZ_eq (l : List (Int × Value)) (a : Int) : hasZ l a = (logL l a).isSome := Classical.choose_spec hasZ_ex l a
def numV : Value -> Int
 | .int _ x => x
 | _ => 0
def booV : Value -> Bool
 | .bool b => b
 | _ => false
def txtV : Value -> ByteArray
 | .string s => s
 | _ => ByteArray.empty
def formV : Value -> Value -> Option Value
 | .agg ⟨[]⟩, _ => some (.agg #[])
 | .int k _, v => some (.int k (numV v))
 | .bool _, v => some (.bool (booV v))
 | .string _, v => some (.string (txtV v))
 | _, _ => none
def FmtL (l : List (Int × Value)) (z : Value) : Prop := ∀ p ∈ l, formV z p.2 = some p.2
noncomputable def fmtB (l : List (Int × Value)) (z : Value) : Bool := @decide (FmtL l z) (Classical.propDecidable _)
theorem fmtB_ok {l : List (Int × Value)} {z : Value} : pre (fmtB l z) = true ↔ FmtL l z := by unfold pre fmtB; exact @decide_eq_true_iff _ (Classical.propDecidable _)
theorem formV_self {z v v' : Value} (h : formV z v = some v') : formV z z = some z := by
 unfold formV at h
 split at h <;> first | rfl | cases h
theorem formV_look {l : List (Int × Value)} {z v' : Value} {a : Int} (hf : FmtL l z) (h : formV z (lokZ l a z) = some v') : v' = (logL l a).getD z := by
 rw [lokZ_eq] at h
 have key : ∀ l, FmtL l z -> formV z ((logL l a).getD z) = some ((logL l a).getD z) := fun l => by
   induction l with
   | nil => exact fun _ => formV_self h
   | cons p r ih =>
     intro hl
     obtain ⟨k, v⟩ := p
     unfold logL
     cases hk : (k == a)
     . exact ih fun p hp => hl p (List.mem_cons_of_mem _ hp)
     . exact hl (k, v) List.mem_cons_self
 rw [key l hf] at h
 exact (Option.some.inj h).symm
noncomputable def simMV (E : Env) (o : Oper) (s : St) : Option RO :=
 match o.op with
 | .lookup t x ix ok => match ev s x, ev s ix with
   | .mp i, .inl (_, .int .i64 a) => match s.own.b[i]?, E.P.underlying t with
     | some b, some (.map kt et) => match b.kd, E.P.underlying kt, E.P.info? et with
       | .map T l, some (.int .i64), some ti => match ti.zero with
         | some z => match formV z (lokZ l a z) with
           | some u => bif ok then some (.tp [.inl (List.replicate z.cells.size true, u), .inl ([true], .bool (hasZ l a))], false, [(pre (fmtB l z), true), (pre (inI a), true)])
             else some (.inl (List.replicate z.cells.size true, u), false, [(pre (fmtB l z), true), (pre (inI a), true)])
           | none => none
         | none => none
       | _, _, _ => none
     | _, _ => none
   | _, _ => none
 | _ => none
theorem lokV_ex : ∃ f : List (Value × Value) -> Value -> Value -> Value, ∀ l a z, f l a z = (logV l a).getD z := ⟨_, fun _ _ _ => rfl⟩
noncomputable def lokV : List (Value × Value) -> Value -> Value -> Value := Classical.choose lokV_ex
theorem lokV_eq (l : List (Value × Value)) (a z : Value) : lokV l a z = (logV l a).getD z := Classical.choose_spec lokV_ex l a z
theorem hasV_ex : ∃ f : List (Value × Value) -> Value -> Bool, ∀ l a, f l a = (logV l a).isSome := ⟨_, fun _ _ => rfl⟩
noncomputable def hasV : List (Value × Value) -> Value -> Bool := Classical.choose hasV_ex
theorem hasV_eq (l : List (Value × Value)) (a : Value) : hasV l a = (logV l a).isSome := Classical.choose_spec hasV_ex l a
def FmtV (l : List (Value × Value)) (z : Value) : Prop := ∀ p ∈ l, formV z p.2 = some p.2
noncomputable def fmtVB (l : List (Value × Value)) (z : Value) : Bool := @decide (FmtV l z) (Classical.propDecidable _)
theorem fmtVB_ok {l : List (Value × Value)} {z : Value} : pre (fmtVB l z) = true ↔ FmtV l z := by unfold pre fmtVB; exact @decide_eq_true_iff _ (Classical.propDecidable _)
noncomputable def keysB (P : Program) (k : TypeId) (a : Value) (l : List (Value × Value)) : Bool := @decide (KeysIn P k (a :: l.map Prod.fst)) (Classical.propDecidable _)
theorem keysB_ok {P : Program} {k : TypeId} {a : Value} {l : List (Value × Value)} : pre (keysB P k a l) = true ↔ KeysIn P k (a :: l.map Prod.fst) := by unfold pre keysB; exact @decide_eq_true_iff _ (Classical.propDecidable _)
theorem formV_lookV {l : List (Value × Value)} {z v' a : Value} (hf : FmtV l z) (h : formV z (lokV l a z) = some v') : v' = (logV l a).getD z := by
 rw [lokV_eq] at h
 have key : ∀ l, FmtV l z -> formV z ((logV l a).getD z) = some ((logV l a).getD z) := fun l => by
   induction l with
   | nil => exact fun _ => formV_self h
   | cons p r ih =>
     intro hl
     obtain ⟨k, v⟩ := p
     by_cases hk : k = a
     . rw [logV_put, if_pos hk]
       exact hl (k, v) List.mem_cons_self
     . rw [logV_put, if_neg hk]
       exact ih fun p hp => hl p (List.mem_cons_of_mem _ hp)
 rw [key l hf] at h
 exact (Option.some.inj h).symm
noncomputable def simMW (E : Env) (o : Oper) (s : St) : Option RO :=
 match o.op with
 | .lookup t x ix ok => match ev s x, ev s ix with
   | .mp i, .inl (_, a) => match s.own.b[i]?, E.P.underlying t with
     | some b, some (.map kt et) => match b.kd, E.P.info? et with
       | .mapV T l, some ti => match ti.zero with
         | some z => match formV z (lokV l a z) with
           | some u => bif ok then some (.tp [.inl (List.replicate z.cells.size true, u), .inl ([true], .bool (hasV l a))], false, [(pre (fmtVB l z), true), (pre (keysB E.P kt a l), true)])
             else some (.inl (List.replicate z.cells.size true, u), false, [(pre (fmtVB l z), true), (pre (keysB E.P kt a l), true)])
           | none => none
         | none => none
       | _, _ => none
     | _, _ => none
   | _, _ => none
 | _ => none
def intsAt (k : IntKind) : List SV -> Option (List Int)
 | [] => some []
 | .inl (_, .int j x) :: r => bif decide (j = k) then (match intsAt k r with
   | some l => some (x :: l)
   | none => none) else none
 | _ :: _ => none
def intsV (k : IntKind) : List Value -> Option (List Int)
 | [] => some []
 | .int j x :: r => bif decide (j = k) then (match intsV k r with
   | some l => some (x :: l)
   | none => none) else none
 | _ :: _ => none
theorem pickZ_ex : ∃ f : List Int -> Int -> Int, ∀ xs n, f xs n = (xs[n.toNat]?).getD 0 := ⟨_, fun _ _ => rfl⟩
noncomputable def pickZ : List Int -> Int -> Int := Classical.choose pickZ_ex
theorem pickZ_eq (xs : List Int) (n : Int) : pickZ xs n = (xs[n.toNat]?).getD 0 := Classical.choose_spec pickZ_ex xs n
theorem eqLZ_ex : ∃ f : List Int -> List Int -> Bool, ∀ xs ys, f xs ys = (xs == ys) := ⟨_, fun _ _ => rfl⟩
noncomputable def eqLZ : List Int -> List Int -> Bool := Classical.choose eqLZ_ex
theorem eqLZ_eq (xs ys : List Int) : eqLZ xs ys = (xs == ys) := Classical.choose_spec eqLZ_ex xs ys
theorem selZ_ex : ∃ f : Int -> Nat -> Int -> Int -> Int, ∀ n j v x, f n j v x = bif n == (j : Int) then v else x := ⟨_, fun _ _ _ _ => rfl⟩
noncomputable def selZ : Int -> Nat -> Int -> Int -> Int := Classical.choose selZ_ex
theorem selZ_eq (n : Int) (j : Nat) (v x : Int) : selZ n j v x = bif n == (j : Int) then v else x := Classical.choose_spec selZ_ex n j v x
noncomputable def selL (k : IntKind) (n v : Int) : Nat -> List Int -> List SV
 | _, [] => []
 | j, x :: r => .inl ([true], .int k (selZ n j v x)) :: selL k n v (j + 1) r
noncomputable def simIV (E : Env) (o : Oper) (s : St) : Option RO :=
 match o.op with
 | .indexAddr t x ix => bif E.mks then (match ev s x, ev s ix, E.P.underlying t with
   | .inr (i, off, none), .inl (g, .int k n), some (.array len e) => bif anyF g then (match E.P.info? e with
     | some ti => bif Nat.beq ti.size 1 then some (.ia i off len n, false, [(pre (idxB n len), true)]) else none
     | none => none) else none
   | .inl (_, .pointer (some ⟨gl, off, none⟩)), .inl (g, .int k n), some (.array len e) => bif anyF g then (match E.P.info? e with
     | some ti => bif Nat.beq ti.size 1 then some (.inl ([true], .pointer (some ⟨gl, off + n.toNat, none⟩)), false, [(pre (idxB n len), true)]) else none
     | none => none) else none
   | _, _, _ => none) else none
 | .load t x => match ev s x with
   | .ia i off len n => match getB s i, E.P.underlying t, E.P.info? t with
     | some b, some (.int k), some _ => match intsAt k ((b.cells.drop off).take len) with
       | some xs => bif Nat.beq xs.length len then some (.inl ([true], .int k (pickZ xs n)), false, [(pre (idxB n len), true)]) else none
       | none => none
     | _, _, _ => none
   | .inl (f, .pointer (some ⟨g, o, none⟩)) => bif E.mks && anyF f then (match E.glob g, E.P.underlying t, E.P.info? t with
     | some cs, some (.int k), some _ => match intsV k cs with
       | some xs => some (.inl ([true], .int k (pickZ xs (o : Nat))), false, [(pre (decide (o < xs.length)), true)])
       | none => none
     | _, _, _ => none) else none
   | _ => none
 | .binOp .eql t x y _ => bif E.mks then (match ev s x, ev s y, E.P.underlying t with
   | .inl (_, .agg a), .inl (_, .agg b), some (.array len e) => match E.P.underlying e, E.P.info? e with
     | some (.int k), some ti => match intsV k a.toList, intsV k b.toList with
       | some xs, some ys => bif Nat.beq xs.length len && Nat.beq ys.length len && Nat.beq ti.size 1 && !E.P.eqGuardType E.P.depth t then some (.inl ([true], .bool (eqLZ xs ys)), false, []) else none
       | _, _ => none
     | _, _ => none
   | _, _, _ => none) else none
 | _ => none
def rowG (gl : Nat -> Option (List Value)) (v : Value) (e : LE) : Prop := (0 < e.size /\ ∀ j, j < e.n -> (e.el j).length = e.size /\ (e.el j).all Value.oneCell' = true) /\
 ∃ a cap, v = .slice a e.n cap /\ e.n <= cap /\ (0 < e.n -> ∃ b off cs, a = some ⟨b, off, none⟩ /\ gl b = some cs /\ ∀ j, j < e.n -> ∀ (o : Nat) c, (e.el j)[o]? = some c -> cs[off + j * e.size + o]? = some c)
noncomputable def rowB (gl : Nat -> Option (List Value)) (v : Value) (e : LE) : Bool := @decide (rowG gl v e) (Classical.propDecidable _)
theorem rowB_ok {gl : Nat -> Option (List Value)} {v : Value} {e : LE} : pre (rowB gl v e) = true ↔ rowG gl v e := by unfold pre rowB; exact @decide_eq_true_iff _ (Classical.propDecidable _)
noncomputable def simRP (E : Env) (o : Oper) (s : St) : Option RO :=
 match o.op with
 | .indexAddr t x ix => match E.rowT t, ev s x, ev s ix with
   | some R, .inl (_, v), .inl (_, .int _ n) => match E.P.underlying t with
     | some (.slice et) => match E.P.info? et with
       | some i => bif Nat.beq i.size (R v).size then some (.rp v (R v) n.toNat 0, false, [(pre (rowB E.glob v (R v)), true), (pre (idxB n (R v).n), true)]) else none
       | none => none
     | _ => none
   | _, _, _ => none
 | .fieldAddr t x f => match ev s x with
   | .rp v e j p => match fieldB E.P t f p with
     | some p' => some (.rp v e j p', false, [(pre (rowB E.glob v e), true), (pre (decide (j < e.n)), true)])
     | none => none
   | _ => none
 | .load t x => match ev s x with
   | .rp v e j p => match loadB E.P t (e.el j) p with
     | some u => some (.inl (List.replicate u.cells.size true, u), false, [(pre (rowB E.glob v e), true), (pre (decide (j < e.n)), true)])
     | none => none
   | _ => none
 | .call { callee := .builtin .len, args := az, argTypes := ats } => match az.toList, ats.toList with
   | [x], [t] => match E.rowT t, ev s x, E.P.underlying t with
     | some R, .inl (_, v), some (.slice _) => some (.inl ([true], .int .i64 (R v).n), false, [(pre (rowB E.glob v (R v)), true)])
     | _, _, _ => none
   | _, _ => none
 | _ => none
noncomputable def simRO1 (E : Env) (o : Oper) (s : St) : Option RO := match simCV E o s with
 | some r => some r
 | none => match simMV E o s with
   | some r => some r
   | none => match simIV E o s with
     | some r => some r
     | none => match simRP E o s with
       | some r => some r
       | none => simRO0 E o s
noncomputable def simRO (E : Env) (o : Oper) (s : St) : Option RO := match simMW E o s with
 | some r => some r
 | none => simRO1 E o s
def chunks (size : Nat) : Nat -> List Value -> List (List Value)
 | 0, _ => []
 | m + 1, cs => cs.take size :: chunks size m (cs.drop size)
def tabE (l : List (List Value)) : Nat -> List Value := fun j => (l[j]?).getD []
def newsOf (s : St) (size : Nat) : SV -> Option (Nat × (Nat -> List Value) × Bool)
 | .c k => match getL s k with
   | some e => bif Nat.beq e.size size then some (e.n, e.el, e.opn) else none
   | none => none
 | .inr (i, off, some (len, cap)) => match getB s i with
   | some b => match valsS ((b.cells.drop off).take (len * size)) with
     | some vs => bif Nat.ble (off + len * size) b.cells.length && vs.all Value.oneCell' then some (len, tabE (chunks size len vs), false) else none
     | none => none
   | none => none
 | _ => none
def baseOf (s : St) (t : TypeId) (size : Nat) : SV -> Option (Nat × (Nat -> List Value) × Bool × Option Nat)
 | .c k => match getL s k with
   | some e => bif e.own && Nat.beq e.elT t && Nat.beq e.size size && Nat.ble s.llo k then some (e.n, e.el, e.opn, some k) else none
   | none => none
 | .inl (_, .slice none 0 0) => some (0, fun _ => [], false, none)
 | _ => none
def baseB (s : St) (t : TypeId) (size : Nat) : SV -> Option (Nat × (Nat -> List Value))
 | .inr (i, 0, some (len, cap)) => match getB s i with
   | some b => match valsS b.cells with
     | some vs => bif Nat.beq b.elem t && Nat.beq len cap && Nat.beq vs.length (len * size) && vs.all Value.oneCell' && Nat.ble len (2 ^ 24) then some (len, tabE (chunks size len vs)) else none
     | none => none
   | none => none
 | _ => none
def killL (l : List LE) : Option Nat -> List LE
 | none => l
 | some k => match l[k]? with
   | some e => l.set k { e with dead := true }
   | none => l
def joinE (n : Nat) (f g : Nat -> List Value) : Nat -> List Value := fun i => bif Nat.blt i n then f i else g (i - n)
def bldFree (s : St) (t : TypeId) : Bool := s.own.b.all fun b => match b.kd with
 | .bld _ _ e _ => !Nat.beq e t
 | _ => true
def zeroBld : List Value -> Bool
 | [.pointer none, .slice none 0 0] => true
 | _ => false
def bldOf (E : Env) (t : TypeId) (zs : List Value) : Option TypeId := match E.bt with
 | some (T, e) => bif Nat.beq T t && zeroBld zs && !Nat.beq T e then some e else none
 | none => none
def setE (f : Nat -> List Value) (j : Nat) (cs : List Value) : Nat -> List Value := fun i => bif Nat.beq i j then cs else f i
def stoL (E : Env) (s : St) (t : TypeId) (k j o sz : Nat) (v : Value) : Option (LE × List (Bool × Bool)) := match getL s k, E.P.info? t with
 | some e, some i => bif e.own && Nat.ble s.llo k && Nat.beq sz e.size && bldFree s e.elT && Nat.beq v.cells.toList.length i.size && Nat.ble (o + i.size) e.size && v.cells.toList.all Value.oneCell' then
     some ({ e with el := setE e.el j (putL (e.el j) o v.cells.toList) }, [(pre (decide (j < e.n)), true)]) else none
 | _, _ => none
def simFX0 (E : Env) (o : Oper) (s : St) : Option (SV × Mem × List (Bool × Bool)) :=
 match o.op with
 | .alloc t => match E.P.info? t with
   | some i => match i.zero with
     | some z => match bldOf E t z.cells.toList with
       | some e => some (.inr (s.own.b.length, 0, none), { s.own with b := s.own.b ++ [⟨[], 0, .bld [] t e ByteArray.empty⟩] }, [])
       | none => some (.inr (s.own.b.length, 0, none), { s.own with b := s.own.b ++ [blk z.cells.toList t []] }, [])
     | none => none
   | none => none
 | .range t x => match ev s x, E.P.underlying t with
   | .inl (fl, .string str), some .string => some (.inr (s.own.b.length, 0, none), { s.own with b := s.own.b ++ [⟨[], 0, .iter fl str 0⟩] }, [])
   | _, _ => none
 | .box t x => match ev s x with
   | .inl (fl, y) => some (.inr (s.own.b.length, 0, none), { s.own with b := s.own.b ++ [blk y.cells.toList t fl] }, [])
   | y => match cellsS s y with
     | some cs => some (.inr (s.own.b.length, 0, none), { s.own with b := s.own.b ++ [⟨cs, t, .cells⟩] }, [])
     | none => none
 | .store t x y => match ev s x, cellsS s (ev s y) with
   | .inr (i, off, none), some us => bif Nat.ble s.lo i then (match getB s i with
     | some b => bif bldFree s b.elem then (match storeS E.P t b.cells off us with
       | some cs => some (.inl ([], undef), { s.own with b := s.own.b.set i ⟨cs, b.elem, .cells⟩ }, [])
       | none => none) else none
     | none => none) else none
   | .lp k j o' sz, _ => match ev s y with
     | .inl (_, v) => match stoL E s t k j o' sz v with
       | some (e, q) => some (.inl ([], undef), { s.own with l := s.own.l.set k e }, q)
       | none => none
     | _ => none
   | _, _ => none
 | .makeSlice t l c => match ev s l, ev s c, E.P.underlying t with
   | .inl (f, .int _ n), .inl (_, .int _ m), some (.slice e) => match E.P.info? e with
     | some i => match i.zero with
       | some z => bif Nat.beq z.cells.size i.size && Nat.blt 0 i.size && z.cells.toList.all Value.oneCell' then
           some (.c s.own.l.length, { s.own with l := s.own.l ++ [⟨e, i.size, n.toNat, fun _ => z.cells.toList, true, false, anyF f⟩] }, [(pre (decide (n = m /\ 0 <= n /\ i.bytes * n.toNat <= 281474976710656 /\ n.toNat <= maxLen)), true)]) else none
       | none => none
     | none => none
   | _, _, _ => none
 | .buildSlice t len parts => bif parts.toList.all (fun p => isV (ev s p.2)) then
     (match litB E.P t len (parts.toList.map fun p => (p.1, rho s p.2)) with
     | some (cells, e) => some (.inr (s.own.b.length, 0, some (len, len)), { s.own with b := s.own.b ++ [blk cells e (bif E.mks then List.replicate cells.length (openS s (parts.toList.map (·.2))) else [])] }, [])
     | none => none)
   else (match litS E.P s t len (parts.toList.map fun p => (p.1, ev s p.2)) with
     | some (cells, e) => some (.inr (s.own.b.length, 0, some (len, len)), { s.own with b := s.own.b ++ [⟨cells, e, .cells⟩] }, [])
     | none => none)
 | .call { callee := .builtin .append, args := az, argTypes := ats } => match az.toList, ats.toList with
   | [x, y], [t, t'] => bif Nat.beq t t' then (match E.P.underlying t with
     | some (.slice e) => match E.P.info? e with
       | some i => match i.zero with
         | some z => bif Nat.beq z.cells.size i.size && Nat.blt 0 i.size && bldFree s e then (match baseOf s e i.size (ev s x), newsOf s i.size (ev s y) with
           | some (n, f, o1, k?), some (m, g, o2) =>
             some (.c s.own.l.length, { s.own with l := killL s.own.l k? ++ [⟨e, i.size, n + m, joinE n f g, true, false, o1 || o2⟩] }, [(pre (decide (n + m <= maxLen /\ (n + m) * i.bytes <= 140737488355328 /\ 0 < m)), true)])
           | _, _ => match baseB s e i.size (ev s x), newsOf s i.size (ev s y) with
             | some (n, f), some (m, g, o2) =>
               some (.c s.own.l.length, { s.own with l := s.own.l ++ [⟨e, i.size, n + m, joinE n f g, true, false, o2⟩] }, [(pre (decide (n + m <= maxLen /\ (n + m) * i.bytes <= 140737488355328 /\ 0 < m)), true)])
             | _, _ => none) else none
         | none => none
       | none => none
     | _ => none) else none
   | _, _ => none
 | _ => none
def baseF (s : St) (size : Nat) : SV -> Option (Nat × (Nat -> List Value))
 | .inr (i, 0, some (len, cap)) => match s.own.b[i]? with
   | some b => match b.kd, valsS b.cells with
     | .shut, some vs => bif Nat.beq len cap && Nat.beq vs.length (len * size) && vs.all Value.oneCell' && Nat.ble len (2 ^ 24) then some (len, tabE (chunks size len vs)) else none
     | _, _ => none
   | none => none
 | _ => none
def simGX (E : Env) (o : Oper) (s : St) : Option (SV × Mem × List (Bool × Bool)) :=
 match o.op with
 | .slice t x lo hi none => bif E.cut then (match ev s x with
   | .c k => match getL s k, E.P.underlying t with
     | some e, some (.slice et) => match E.P.info? et, boundS s 0 lo, boundS s e.n hi with
       | some i, some l, some h => bif Nat.beq i.size e.size && Nat.beq (E.P.elem t) et && !e.own then
           some (.c s.own.l.length, { s.own with l := s.own.l ++ [⟨e.elT, e.size, h.toNat - l.toNat, fun j => e.el (l.toNat + j), false, false, true⟩] }, [(pre (decide (0 <= l /\ l <= h /\ h <= e.n)), true)]) else none
       | _, _, _ => none
     | _, _ => none
   | _ => none) else none
 | .convert t t' x => match ev s x with
   | .inr (i, 0, some (len, cap)) => bif Nat.ble s.lo i && Nat.beq t t' then (match getB s i, E.P.underlying t with
     | some b, some (.slice et) => match E.P.underlying et with
       | some (.int .u8) => bif bldFree s b.elem then some (.inr (i, 0, some (len, cap)), { s.own with b := s.own.b.set i ⟨b.cells, b.elem, .shut⟩ }, []) else none
       | _ => none
     | _, _ => none) else none
   | _ => none
 | .call { callee := .builtin .append, args := az, argTypes := ats } => match az.toList, ats.toList with
   | [x, y], [t, t'] => bif Nat.beq t t' then (match E.P.underlying t with
     | some (.slice e) => match E.P.info? e with
       | some i => match i.zero with
         | some z => bif Nat.beq z.cells.size i.size && Nat.blt 0 i.size then (match baseF s i.size (ev s x), newsOf s i.size (ev s y) with
           | some (n, f), some (m, g, o2) =>
             some (.c s.own.l.length, { s.own with l := s.own.l ++ [⟨e, i.size, n + m, joinE n f g, true, false, o2⟩] }, [(pre (decide (n + m <= maxLen /\ (n + m) * i.bytes <= 140737488355328 /\ 0 < m)), true)])
           | _, _ => none) else none
         | none => none
       | none => none
     | _ => none) else none
   | _, _ => none
 | _ => none
def simLX (E : Env) (o : Oper) (s : St) : Option (SV × Mem × List (Bool × Bool)) :=
 match o.op with
 | .buildSlice t len parts => bif E.lit && parts.toList.all (fun p => isV (ev s p.2)) then (match litB E.P t len (parts.toList.map fun p => (p.1, rho s p.2)) with
   | some (cells, e) => match E.P.info? e with
     | some i => bif Nat.blt 0 i.size && Nat.beq cells.length (len * i.size) && cells.all Value.oneCell' && Nat.ble len (2 ^ 24) then
         some (.c s.own.l.length, { s.own with l := s.own.l ++ [⟨e, i.size, len, tabE (chunks i.size len cells), true, false, true⟩] }, []) else none
     | none => none
   | none => none) else none
 | _ => none
def simMK (E : Env) (o : Oper) (s : St) : Option (LE × List (Bool × Bool)) :=
 match o.op with
 | .makeSlice t l c => match ev s l, ev s c, E.P.underlying t with
   | .inl (f, .int _ n), .inl (_, .int _ m), some (.slice e) => match E.P.info? e with
     | some i => match i.zero with
       | some z => bif Nat.beq z.cells.size i.size && Nat.blt 0 i.size && z.cells.toList.all Value.oneCell' then
           some (⟨e, i.size, n.toNat, fun _ => z.cells.toList, true, false, anyF f⟩, [(pre (decide (n = m /\ 0 <= n /\ i.bytes * n.toNat <= 281474976710656 /\ n.toNat <= maxLen)), true)]) else none
       | none => none
     | none => none
   | _, _, _ => none
 | _ => none
noncomputable def simIX (E : Env) (o : Oper) (s : St) : Option (SV × Mem × List (Bool × Bool)) :=
 match o.op with
 | .store t x y => match ev s x, ev s y with
   | .ia i off len n, .inl (_, .int k v) => bif Nat.ble s.lo i then (match getB s i, E.P.info? t with
     | some b, some ti => bif bldFree s b.elem && Nat.beq ti.size 1 then (match intsAt k ((b.cells.drop off).take len) with
       | some xs => bif Nat.beq xs.length len then some (.inl ([], undef), { s.own with b := s.own.b.set i ⟨b.cells.take off ++ (selL k n v 0 xs ++ b.cells.drop (off + len)), b.elem, .cells⟩ }, [(pre (idxB n len), true)]) else none
       | none => none) else none
     | _, _ => none) else none
   | _, _ => none
 | _ => none
def simMX (E : Env) (o : Oper) (s : St) : Option (SV × Mem × List (Bool × Bool)) :=
 match o.op with
 | .makeMap t none => some (.mp s.own.b.length, { s.own with b := s.own.b ++ [⟨[], 0, .map t []⟩] }, [])
 | .mapUpdate t m ix y => match ev s m, ev s ix, ev s y with
   | .mp i, .inl (_, .int .i64 a), .inl (_, v) => bif Nat.ble s.lo i then (match s.own.b[i]?, E.P.underlying t with
     | some b, some (.map kt et) => match b.kd, E.P.underlying kt with
       | .map T l, some (.int .i64) => some (.inl ([], undef), { s.own with b := s.own.b.set i ⟨[], 0, .map T ((a, v) :: l)⟩ }, [(pre (decide (inI a = true /\ l.length < maxLen)), true)])
       | _, _ => none
     | _, _ => none) else none
   | _, _, _ => none
 | _ => none
noncomputable def simMY (E : Env) (o : Oper) (s : St) : Option (SV × Mem × List (Bool × Bool)) :=
 match o.op with
 | .makeMap t none => match E.P.underlying t with
   | some (.map kt _) => match E.P.underlying kt with
     | some (.int .i64) => none
     | _ => some (.mp s.own.b.length, { s.own with b := s.own.b ++ [⟨[], 0, .mapV t []⟩] }, [])
   | _ => none
 | .mapUpdate t m ix y => match ev s m, ev s ix, ev s y with
   | .mp i, .inl (_, a), .inl (_, v) => bif Nat.ble s.lo i then (match s.own.b[i]?, E.P.underlying t with
     | some b, some (.map kt et) => match b.kd with
       | .mapV T l => some (.inl ([], undef), { s.own with b := s.own.b.set i ⟨[], 0, .mapV T ((a, v) :: l)⟩ }, [(pre (decide (l.length < maxLen)), true), (pre (keysB E.P kt a l), true)])
       | _ => none
     | _, _ => none) else none
   | _, _, _ => none
 | _ => none
def simNA (E : Env) (o : Oper) (s : St) : Option (SV × Mem × List (Bool × Bool)) :=
 match o.op, o.dst with
 | .call { callee := .builtin .append, args := az, argTypes := ats }, some d => bif E.non.any (Nat.beq d) then (match az.toList, ats.toList with
   | [x, y], [t, t'] => bif Nat.beq t t' then (match E.P.underlying t, ev s x, ev s y with
     | some (.slice e), .c k, .c k2 => match E.P.info? e, getL s k, getL s k2 with
       | some _, some _, some e2 => some (.c k, s.own, [(pre (decide (e2.n = 0)), true)])
       | _, _, _ => none
     | _, _, _ => none) else none
   | _, _ => none) else none
 | _, _ => none
def simNB (E : Env) (o : Oper) (s : St) : Option (SV × Mem × List (Bool × Bool)) :=
 match o.op, o.dst with
 | .call { callee := .builtin .append, args := az, argTypes := ats }, some d => match az.toList, ats.toList with
   | [x, y], [t, t'] => bif Nat.beq t t' then (match E.P.underlying t, ev s x, ev s y with
     | some (.slice e), .inl (_, .slice none 0 0), .c k2 => bif E.non.any (Nat.beq d) then (match E.P.info? e, getL s k2 with
       | some _, some e2 => some (.inl ([], .slice none 0 0), s.own, [(pre (decide (e2.n = 0)), true)])
       | _, _ => none) else none
     | some (.slice e), .inl (_, .slice none 0 0), .inl (_, .slice none 0 0) => match E.P.info? e with
       | some _ => some (.inl ([], .slice none 0 0), s.own, [])
       | none => none
     | _, _, _ => none) else none
   | _, _ => none
 | _, _ => none
def simAG (E : Env) (o : Oper) (s : St) : Option (SV × Mem × List (Bool × Bool)) :=
 match o.op with
 | .call { callee := .builtin .append, args := az, argTypes := ats } => match az.toList, ats.toList with
   | [x, y], [t, t'] => match E.P.underlying t, E.P.underlying t', ev s y with
     | some (.slice e), some (.int .i64), .inl (fl, .int .i64 m) => match E.P.info? e with
       | some i => match i.zero with
         | some z => bif Nat.beq z.cells.size i.size && Nat.blt 0 i.size && bldFree s e && z.cells.toList.all Value.oneCell' then (match baseOf s e i.size (ev s x) with
           | some (n, f, o1, k?) => some (.c s.own.l.length, { s.own with l := killL s.own.l k? ++ [⟨e, i.size, n + m.toNat, joinE n f (fun _ => z.cells.toList), true, false, o1 || anyF fl⟩] }, [(pre (decide (0 <= m /\ n + m.toNat <= maxLen /\ (n + m.toNat) * i.bytes <= 140737488355328)), true)])
           | none => none) else none
         | none => none
       | none => none
     | _, _, _ => none
   | _, _ => none
 | _ => none
noncomputable def simFX1 (E : Env) (o : Oper) (s : St) : Option (SV × Mem × List (Bool × Bool)) := match simLX E o s with
 | some r => some r
 | none => match simMX E o s with
   | some r => some r
   | none => match simIX E o s with
     | some r => some r
     | none => match simFX0 E o s with
       | some r => some r
       | none => simGX E o s
noncomputable def simFX3 (E : Env) (o : Oper) (s : St) : Option (SV × Mem × List (Bool × Bool)) := match simNA E o s with
 | some r => some r
 | none => simFX1 E o s
noncomputable def simFX4 (E : Env) (o : Oper) (s : St) : Option (SV × Mem × List (Bool × Bool)) := match simNB E o s with
 | some r => some r
 | none => simFX3 E o s
noncomputable def simFX6 (E : Env) (o : Oper) (s : St) : Option (SV × Mem × List (Bool × Bool)) := match simAG E o s with
 | some r => some r
 | none => simFX4 E o s
noncomputable def simFX2 (E : Env) (o : Oper) (s : St) : Option (SV × Mem × List (Bool × Bool)) := match simMY E o s with
 | some r => some r
 | none => simFX6 E o s
def getIn (e : LE) : LE := { e with own := false, dead := false }
noncomputable def simRW (E : Env) (o : Oper) (s : St) : Option (SV × Mem × List (Bool × Bool)) :=
 match o.dst with
 | some d => match E.rowE d with
   | some R => match simRO E o s with
     | some (.inl (_, v), false, qs) => some (.c s.own.l.length, { s.own with l := s.own.l ++ [getIn (R v)] }, (pre (rowB E.glob v (getIn (R v))), true) :: qs)
     | _ => none
   | none => none
 | none => none
noncomputable def simRS (E : Env) (o : Oper) (s : St) : Option (SV × Mem × List (Bool × Bool)) :=
 match o.dst with
 | some d => match E.rowE d with
   | some R => match simRO E o s with
     | some (.inl (_, .agg cs), false, qs) => match cs.toList with
       | v :: r => some (.st (.l s.own.l.length :: r.map (.v [true])), { s.own with l := s.own.l ++ [getIn (R v)] }, (pre (rowB E.glob v (getIn (R v))), true) :: qs)
       | [] => none
     | _ => none
   | none => none
 | none => none
noncomputable def simFX (E : Env) (o : Oper) (s : St) : Option (SV × Mem × List (Bool × Bool)) := match simRS E o s with
 | some r => some r
 | none => match simRW E o s with
   | some r => some r
   | none => simFX2 E o s
def putS (n : Nat) (dst : Option Tmp) (x : SV) (s : St) : Option St :=
 match dst with
 | none => some s
 | some d => bif Nat.blt d n then some { s with tmps := (d, x) :: s.tmps } else none
def ask (s : St) (fl : List Bool) (b : Bool) : Bool × St :=
 bif anyF fl then (match s.orc with
   | [] => (b, s)
   | t :: r => (t, { s with orc := r, obl := (b, t) :: s.obl }))
 else (b, s)
def know (s : St) (d : Nat) (b : Bool) : St := { s with tmps := (d, .inl ([], (.bool b))) :: s.tmps }
def askC (s : St) (c : Operand) (fl : List Bool) (b : Bool) : Bool × St :=
 match c with
 | .tmp d => ((ask s fl b).1, know (ask s fl b).2 d (ask s fl b).1)
 | _ => ask s fl b
def wantS (n : Nat) (ops : Array Oper) (o : Oper) (s : St) : Option (Bool × St) :=
 match o.guard with
 | none => some (true, s)
 | some (j, want) => match (ops[j]?).bind (·.dst) with
   | some d => bif Nat.blt d n then (match look s.tmps d with
     | .inl (fl, (.bool b)) => some ((ask s fl b).1 == want, know (ask s fl b).2 d (ask s fl b).1)
     | .inl (_, (.tuple _)) => some (false, s)
     | _ => none) else none
   | none => none
def callArgs (s : St) (o : Oper) : Option (FuncId × List SV) :=
 match o.op with
 | .call { callee := .value x, args := az, argTypes := _ } => match fnOf (ev s x) with
   | some (f, fs, cs) => some (f, fs ++ (az.toList.map (ev s) ++ cs))
   | none => none
 | _ => none
noncomputable def simNX (o : Oper) (s : St) : Option (SV × St) := none
abbrev Callee := FuncId -> List SV -> St -> Option (SV × St)
def more (s : St) (l : List (Bool × Bool)) : List (Bool × Bool) := l ++ s.obl
noncomputable def simOps (E : Env) (cl : Callee) (n : Nat) (ops : Array Oper) (ro : Bool) : List Oper -> St -> Option St
 | [], s => some s
 | o :: rest, s => match wantS n ops o s with
   | none => none
   | some (false, s1) => match putS n o.dst (.inl ([], undef)) s1 with
     | some s2 => simOps E cl n ops ro rest s2
     | none => none
   | some (true, s1) => match (bif ro then none else simNX o s1) with
     | some (x, s1') => match putS n o.dst x s1' with
       | some s2 => simOps E cl n ops ro rest s2
       | none => none
     | none => match (bif ro then none else simFX E o s1) with
     | some (x, own, q) => match putS n o.dst x { s1 with own := own, mem := true, obl := more s1 q } with
       | some s2 => simOps E cl n ops ro rest s2
       | none => none
     | none => match simRO E o s1 with
       | some (x, c, q) => match putS n o.dst x { s1 with mem := s1.mem || c, obl := more s1 q } with
         | some s2 => simOps E cl n ops ro rest s2
         | none => none
       | none => match callArgs s1 o with
         | none => none
         | some (f, args) => bif ro then
             (match cl f args { s1 with lo := s1.own.b.length, llo := s1.own.l.length } with
             | some (.inl (fl, x), s2) => match putS n o.dst (.inl (fl, x)) { s1 with mem := true, orc := s2.orc, obl := s2.obl } with
               | some s3 => simOps E cl n ops ro rest s3
               | none => none
             | _ => none)
           else (match cl f args s1 with
             | some (x, s2) => match putS n o.dst x { s1 with own := s2.own, mem := s2.mem, orc := s2.orc, obl := s2.obl } with
               | some s3 => simOps E cl n ops ro rest s3
               | none => none
             | none => none)
def resV (P : Program) (s : St) : ResultVar -> Option SV
 | .tmp t => match look s.tmps t with
   | .any => none
   | x => some x
 | .cell a t => match look s.tmps a with
   | .inr (i, off, none) => match getB s i with
     | some b => loadS P t b.cells off
     | none => none
   | _ => none
def tupOf : SV -> Option TV
 | .inl p => some (.inl p)
 | .c k => some (.inr k)
 | .st cs => some (.st cs)
 | _ => none
def tupL : List (Option SV) -> Option (List TV)
 | [] => some []
 | some x :: r => match tupOf x, tupL r with
   | some y, some l => some (y :: l)
   | _, _ => none
 | none :: _ => none
def plainL : List TV -> Option (List Bool × List Value)
 | [] => some ([], [])
 | .inl (f, x) :: r => match plainL r with
   | some (g, l) => some ([anyF f || anyF g], x :: l)
   | none => none
 | .inr _ :: _ => none
 | .st _ :: _ => none
def mkTup (l : List TV) : SV := match plainL l with
 | some (f, vs) => .inl (f, .tuple vs.toArray)
 | none => .tp l
def simRes (P : Program) (fn : Func) (s : St) : Option SV :=
 match fn.results.toList with
 | [r] => resV P s r
 | rs => match tupL (rs.map (resV P s)) with
   | some l => some (mkTup l)
   | none => none
def initS : Nat -> List SV -> List (Nat × SV)
 | _, [] => []
 | i, x :: r => (i, x) :: initS (i + 1) r
abbrev Runner := Nat -> Code -> St -> Option (X × St)
def argsV : List SV -> Option (List Value)
 | [] => some []
 | .inl (_, v) :: r => match argsV r with
   | some l => some (v :: l)
   | none => none
 | _ :: _ => none
def pcallS (E : Env) : Callee := fun f args s =>
 match argsV args with
 | some l => match E.pcall f l with
   | some (v, b) => match E.P.funcs[f]? with
     | some fn => bif fn.name == "runtime.NumGoroutine" || fn.body.isNone then none else
       some (.inl (List.replicate v.cells.size (!E.shut f && args.any fun x => anyF (flS x)), v), { s with mem := true, obl := (b, true) :: s.obl })
     | none => none
   | none => none
 | none => none
def cellX (s : St) : List CV -> Option (List (Sum Value LE))
 | [] => some []
 | .v _ x :: r => match cellX s r with
   | some l => some (.inl x :: l)
   | none => none
 | .l k :: r => match getL s k, cellX s r with
   | some e, some l => some (.inr e :: l)
   | _, _ => none
 | _ :: _ => none
def argsX (s : St) : List SV -> Option (List XV)
 | [] => some []
 | .inl (_, v) :: r => match argsX s r with
   | some l => some (.inl v :: l)
   | none => none
 | .c k :: r => match getL s k, argsX s r with
   | some e, some l => some (.inr e :: l)
   | _, _ => none
 | .sub k lo n sz :: r => match getL s k, argsX s r with
   | some e, some l => bif Nat.beq sz e.size then some (.inr ⟨e.elT, e.size, n, fun j => e.el (lo + j), false, false, true⟩ :: l) else none
   | _, _ => none
 | .st cs :: r => match cellX s cs, argsX s r with
   | some c, some l => some (.st c :: l)
   | _, _ => none
 | _ :: _ => none
def subsO (s : St) : List SV -> List (Bool × Bool)
 | [] => []
 | .sub k lo n _ :: r => match getL s k with
   | some e => (pre (decide (lo + n <= e.n)), true) :: subsO s r
   | none => subsO s r
 | _ :: r => subsO s r
def outC (m : Nat) : List (Sum Value LE) -> List CV × List LE
 | [] => ([], [])
 | .inl v :: r => (.v [true] v :: (outC m r).1, (outC m r).2)
 | .inr e :: r => (.l m :: (outC (m + 1) r).1, { e with own := true, dead := false } :: (outC (m + 1) r).2)
def outX (m : Nat) : List XV -> List TV × List LE
 | [] => ([], [])
 | .inl v :: r => (.inl ([true], v) :: (outX m r).1, (outX m r).2)
 | .inr e :: r => (.inr m :: (outX (m + 1) r).1, { e with own := true, dead := false } :: (outX (m + 1) r).2)
 | .st cs :: r => (.st (outC m cs).1 :: (outX (m + (outC m cs).2.length) r).1, (outC m cs).2 ++ (outX (m + (outC m cs).2.length) r).2)
def lcallS (E : Env) : Callee := fun f args s =>
 match argsX s args with
 | some l => match E.lcall f l with
   | some (tup, res, b) => match E.P.funcs[f]? with
     | some fn => bif fn.name == "runtime.NumGoroutine" || fn.body.isNone then none else
       (match tup, outX s.own.l.length res with
       | true, (r, es) => some (.tp r, { s with own := { s.own with l := s.own.l ++ es }, mem := true, obl := (b, true) :: (subsO s args ++ s.obl) })
       | false, ([.inl p], es) => some (.inl p, { s with own := { s.own with l := s.own.l ++ es }, mem := true, obl := (b, true) :: (subsO s args ++ s.obl) })
       | false, ([.st cs], es) => some (.st cs, { s with own := { s.own with l := s.own.l ++ es }, mem := true, obl := (b, true) :: (subsO s args ++ s.obl) })
       | false, ([.inr k], es) => some (.c k, { s with own := { s.own with l := s.own.l ++ es }, mem := true, obl := (b, true) :: (subsO s args ++ s.obl) })
       | false, _ => none)
     | none => none
   | none => none
 | none => none
def enterO (E : Env) (ih : Runner) : Callee := fun f args s =>
 match E.P.funcs[f]? with
 | some fn => bif fn.name == "runtime.NumGoroutine" then none else (match fn.body with
   | some c => match ih (args.length + (fn.ntmps - args.length)) c { s with tmps := initS 0 args } with
     | some (none, s') => match simRes E.P fn s' with
       | some x => some (x, s')
       | none => none
     | some (some none, s') => match simRes E.P fn s' with
       | some x => some (x, s')
       | none => none
     | _ => none
   | none => none)
 | none => none
def oneB (c : Int) : ByteArray := ⟨#[UInt8.ofNat c.toNat]⟩
def bopR : BOp -> ByteArray -> List Value -> Option (Value × Option ByteArray × Bool)
 | .wstr, _, [.string s] => some (.tuple #[.int .i64 s.size, .nilIface], some s, true)
 | .wbyte, _, [.int .u8 c] => some (.nilIface, some (oneB c), decide (0 <= c /\ c < 256))
 | .wrune, _, [.int .i32 c] => some (.tuple #[.int .i64 1, .nilIface], some (oneB c), decide (0 <= c /\ c < 128))
 | .str, acc, [] => some (.string acc, none, true)
 | .len, acc, [] => some (.int .i64 acc.size, none, true)
 | _, _, _ => none
def fitB (acc : ByteArray) (add : Option ByteArray) : Bool := match add with
 | some s => decide (acc.size + s.size + 4 <= 140737488355328)
 | none => true
noncomputable def accB (op : Bool) (acc : ByteArray) : Option ByteArray -> ByteArray
 | some s => bif op then catZ acc s else acc ++ s
 | none => acc
def quietB (s : St) (i : Nat) (e : TypeId) : Bool :=
 ((List.range s.own.b.length).all fun j => Nat.beq i j || (match s.own.b[j]? with
   | some b => (match b.kd with
     | .cells => !Nat.beq b.elem e
     | .iter _ _ _ => true
     | .bld _ _ _ _ => false
     | .shut => false
     | .map _ _ => false
     | .mapV _ _ => false)
   | none => true)) && s.own.l.all fun l => l.dead || !l.own || !Nat.beq l.elT e
noncomputable def bcallS (E : Env) : Callee := fun f args s =>
 match E.bop f, args with
 | some op, .inr (i, 0, none) :: r => bif Nat.ble s.lo i then (match s.own.b[i]?, argsV r with
   | some b, some vs => match b.kd with
     | .bld fl T e acc => match E.bt, bopR op acc vs, E.P.funcs[f]? with
       | some (T', e'), some (v, add, c), some fn =>
         bif fn.name == "runtime.NumGoroutine" || fn.body.isNone || !Nat.beq T T' || !Nat.beq e e' || !quietB s i e then none else
         (bif anyF fl || r.any (fun x => anyF (flS x)) then
           some (.inl (List.replicate v.cells.size true, v), { s with mem := true, own := { s.own with b := s.own.b.set i ⟨[], 0, .bld [true] T e (accB true acc add)⟩ }, obl := (pre (c && fitB acc add), true) :: s.obl })
         else bif c && fitB acc add then some (.inl ([], v), { s with mem := true, own := { s.own with b := s.own.b.set i ⟨[], 0, .bld [] T e (accB false acc add)⟩ } }) else none)
       | _, _, _ => none
     | _ => none
   | _, _ => none) else none
 | _, _ => none
def deadE : LE := ⟨0, 0, 0, fun _ => [], false, true, true⟩
noncomputable def acallS (E : Env) : Callee := fun _ _ _ => none
structure Pick where
 ts : List Nat
 bs : List Nat
 ls : List Nat
 nil : List (Nat × TypeId × Nat × (Nat -> List Value)) := []
 opn : List Nat := []
 opb : List Nat := []
 mv : List Nat := []
 cp : List Nat := []
 nib : List (Nat × Nat × TypeId × Nat × (Nat -> List Value)) := []
def posN : List Nat -> Nat -> Option Nat
 | [], _ => none
 | x :: r, i => bif Nat.beq x i then some 0 else (match posN r i with
   | some k => some (k + 1)
   | none => none)
def pickC (p : Pick) : CV -> Option CV
 | .v fl x => some (.v fl x)
 | .a i off => match posN p.bs i with
   | some i' => some (.a i' off)
   | none => none
 | .l k => match posN p.ls k with
   | some k' => some (.l k')
   | none => none
def pickCL (p : Pick) : List CV -> Option (List CV)
 | [] => some []
 | x :: r => match pickC p x, pickCL p r with
   | some y, some l => some (y :: l)
   | _, _ => none
def pickV (p : Pick) : SV -> SV
 | .inl q => .inl q
 | .inr (i, off, r) => match posN p.bs i with
   | some i' => .inr (i', off, r)
   | none => .any
 | .c k => match posN p.ls k with
   | some k' => .c k'
   | none => .any
 | .lp k j o sz => match posN p.ls k with
   | some k' => .lp k' j o sz
   | none => .any
 | .tp _ => .any
 | .fn f fs cs => match pickCL p fs, pickCL p cs with
   | some fs', some cs' => .fn f fs' cs'
   | _, _ => .any
 | .sub k lo n sz => match posN p.ls k with
   | some k' => .sub k' lo n sz
   | none => .any
 | .st cs => match pickCL p cs with
   | some cs' => .st cs'
   | none => .any
 | .mp i => match posN p.bs i with
   | some i' => .mp i'
   | none => .any
 | .ia i off len n => match posN p.bs i with
   | some i' => .ia i' off len n
   | none => .any
 | .rp v e j o => .rp v e j o
 | .any => .any
def openV (b : Bool) : SV -> SV
 | .inl (fl, v) => bif b then .inl (List.replicate v.cells.size true, v) else .inl (fl, v)
 | x => x
def takeL {α : Type} (l : List α) : List Nat -> Option (List α)
 | [] => some []
 | i :: r => match l[i]?, takeL l r with
   | some x, some t => some (x :: t)
   | _, _ => none
def nodupB : List Nat -> Bool
 | [] => true
 | x :: r => !(r.any fun y => Nat.beq x y) && nodupB r
def pickCells (p : Pick) (o : Bool) : List SV -> Option (List SV)
 | [] => some []
 | x :: r => match pickV p x with
   | .any => none
   | y => match pickCells p o r with
     | some l => some (openV o y :: l)
     | none => none
def openK (o : Bool) : Kd -> Kd
 | .cells => .cells
 | .iter fl s p => .iter (bif o then [true] else fl) s p
 | .bld fl T e a => .bld (bif o then [true] else fl) T e a
 | .shut => .shut
 | .map T l => .map T l
 | .mapV T l => .mapV T l
def pickBs (p : Pick) : Nat -> List Blk -> Option (List Blk)
 | _, [] => some []
 | n, b :: r => match pickCells p (p.opb.any fun y => Nat.beq y n) b.cells, pickBs p (n + 1) r with
   | some cs, some l => some (⟨cs, b.elem, openK (p.opb.any fun y => Nat.beq y n) b.kd⟩ :: l)
   | _, _ => none
def takeB (p : Pick) (bs : List Blk) : Option (List Blk) := match takeL bs p.bs with
 | some b => pickBs p 0 b
 | none => none
def pickM (p : Pick) (own : Mem) : Option Mem := match takeB p own.b, takeL own.l p.ls with
 | some b, some l => bif nodupB p.bs && nodupB p.ls then some ⟨b, l⟩ else none
 | _, _ => none
def okCB (n m : Nat) : CV -> Bool
 | .v _ _ => true
 | .a i _ => Nat.blt i n
 | .l k => Nat.blt k m
def okTB (n m : Nat) : TV -> Bool
 | .inl _ => true
 | .inr k => Nat.blt k m
 | .st cs => cs.all (okCB n m)
def okVB (n m : Nat) : SV -> Bool
 | .inl _ => true
 | .inr (i, _, _) => Nat.blt i n
 | .c k => Nat.blt k m
 | .lp k _ _ _ => Nat.blt k m
 | .tp l => l.all (okTB n m)
 | .fn _ fs cs => fs.all (okCB n m) && cs.all (okCB n m)
 | .sub k _ _ _ => Nat.blt k m
 | .st cs => cs.all (okCB n m)
 | .mp i => Nat.blt i n
 | .ia i _ _ _ => Nat.blt i n
 | .rp _ _ _ _ => true
 | .any => true
def refsC : List CV -> List Nat × List Nat
 | [] => ([], [])
 | .v _ _ :: r => refsC r
 | .a i _ :: r => (i :: (refsC r).1, (refsC r).2)
 | .l k :: r => ((refsC r).1, k :: (refsC r).2)
def refsV : SV -> List Nat × List Nat
 | .inr (i, _, _) => ([i], [])
 | .mp i => ([i], [])
 | .ia i _ _ _ => ([i], [])
 | .c k => ([], [k])
 | .lp k _ _ _ => ([], [k])
 | .sub k _ _ _ => ([], [k])
 | .fn _ fs cs => refsC (fs ++ cs)
 | .st cs => refsC cs
 | _ => ([], [])
def refsL : List SV -> List Nat × List Nat
 | [] => ([], [])
 | x :: r => ((refsV x).1 ++ (refsL r).1, (refsV x).2 ++ (refsL r).2)
def addN (l : List Nat) : List Nat -> List Nat
 | [] => l
 | k :: r => bif l.any (Nat.beq k) then addN l r else addN (l ++ [k]) r
def reach (m : Mem) : Nat -> List Nat -> List Nat -> List Nat -> List Nat × List Nat
 | 0, _, bs, ls => (bs, ls)
 | _ + 1, [], bs, ls => (bs, ls)
 | n + 1, i :: q, bs, ls => bif bs.any (Nat.beq i) then reach m n q bs ls else (match m.b[i]? with
   | some b => reach m n (q ++ (refsL b.cells).1) (bs ++ [i]) (addN ls (refsL b.cells).2)
   | none => reach m n q bs ls)
def reachP (m : Mem) (args : List SV) : Pick := { ts := [], bs := (reach m 100 (refsL args).1 [] (addN [] (refsL args).2)).1, ls := (reach m 100 (refsL args).1 [] (addN [] (refsL args).2)).2 }
def setN {α : Type} : List α -> List (Nat × α) -> List α
 | l, [] => l
 | l, (i, x) :: r => setN (l.set i x) r
def applyE (m : Mem) (r : Eff) : Mem := ⟨setN m.b r.sb ++ r.ab, setN m.l r.sl ++ r.al⟩
def renN (ps : List Nat) (n i : Nat) : Nat := match ps[i]? with
 | some k => k
 | none => n + (i - ps.length)
def renC (fb fl : Nat -> Nat) : CV -> CV
 | .v g x => .v g x
 | .a i off => .a (fb i) off
 | .l k => .l (fl k)
def renT (fb fl : Nat -> Nat) : TV -> TV
 | .inl p => .inl p
 | .inr k => .inr (fl k)
 | .st cs => .st (cs.map (renC fb fl))
def renV (fb fl : Nat -> Nat) : SV -> SV
 | .inl p => .inl p
 | .inr (i, off, r) => .inr (fb i, off, r)
 | .c k => .c (fl k)
 | .lp k j o sz => .lp (fl k) j o sz
 | .tp l => .tp (l.map (renT fb fl))
 | .fn f fs cs => .fn f (fs.map (renC fb fl)) (cs.map (renC fb fl))
 | .sub k lo n sz => .sub (fl k) lo n sz
 | .st cs => .st (cs.map (renC fb fl))
 | .mp i => .mp (fb i)
 | .ia i off len n => .ia (fb i) off len n
 | .rp v e j o => .rp v e j o
 | .any => .any
def renB (fb fl : Nat -> Nat) (b : Blk) : Blk := ⟨b.cells.map (renV fb fl), b.elem, b.kd⟩
def applyR (own : Mem) (p : Pick) (r : Eff) : Mem :=
 ⟨setN own.b (r.sb.map fun q => (renN p.bs own.b.length q.1, renB (renN p.bs own.b.length) (renN p.ls own.l.length) q.2)) ++ r.ab.map (renB (renN p.bs own.b.length) (renN p.ls own.l.length)),
  setN own.l (r.sl.map fun q => (renN p.ls own.l.length q.1, q.2)) ++ r.al⟩
def okRB (n m : Nat) : SV -> Bool
 | .tp l => l.all (okTB n m)
 | x => okVB n m x
def fitE (s : St) (p : Pick) (r : Eff) : Bool :=
 (r.sb.all fun q => match p.bs[q.1]? with
   | some i => Nat.ble s.lo i
   | none => false) &&
 (r.sl.all fun q => match p.ls[q.1]? with
   | some k => Nat.ble s.llo k
   | none => false) &&
 okRB (p.bs.length + r.ab.length) (p.ls.length + r.al.length) r.x &&
 (r.sb.all fun q => q.2.cells.all (okVB (p.bs.length + r.ab.length) (p.ls.length + r.al.length))) &&
 (r.ab.all fun b => b.cells.all (okVB (p.bs.length + r.ab.length) (p.ls.length + r.al.length))) &&
 s.own.b.all fun b => match b.kd with
   | .bld _ _ _ _ => false
   | _ => true
noncomputable def effS (E : Env) : Callee := fun f args s => match E.eff f with
 | none => none
 | some g => match pickCells (reachP s.own args) false args, pickM (reachP s.own args) s.own with
   | some args', some m => match g args' m, E.P.funcs[f]? with
     | some r, some fn => bif fn.name == "runtime.NumGoroutine" || fn.body.isNone || !fitE s (reachP s.own args) r then none else
       some (renV (renN (reachP s.own args).bs s.own.b.length) (renN (reachP s.own args).ls s.own.l.length) r.x, { s with own := applyR s.own (reachP s.own args) r, mem := true, obl := (r.ok, true) :: s.obl })
     | _, _ => none
   | _, _ => none
noncomputable def effP (E : Env) (f : FuncId) (args : List SV) (own : Mem) : Option ((List Bool × Value) × Bool) := match E.eff f with
 | none => none
 | some g => match pickCells (reachP own args) false args, pickM (reachP own args) own with
   | some args', some m => match g args' m, E.P.funcs[f]? with
     | some r, some fn => bif fn.name == "runtime.NumGoroutine" || fn.body.isNone || !(r.sb.isEmpty && r.sl.isEmpty && r.ab.isEmpty && r.al.isEmpty) || !(own.b.all fun b => match b.kd with
         | .bld _ _ _ _ => false
         | _ => true) then none else (match r.x with
       | .inl p => some (p, r.ok)
       | _ => none)
     | _, _ => none
   | _, _ => none
noncomputable def enterS (E : Env) (ih : Runner) : Callee := fun f args s => match pcallS E f args s with
 | some r => some r
 | none => match lcallS E f args s with
   | some r => some r
   | none => match bcallS E f args s with
     | some r => some r
     | none => match acallS E f args s with
       | some r => some r
       | none => match effS E f args s with
         | some r => some r
         | none => enterO E ih f args s
structure Dn where
 x : SV
 e : Option LE
def newsL (L : Nat -> Bool) : Nat -> List Dn -> List LE
 | _, [] => []
 | i, d :: r => match d.e with
   | some e => { e with dead := !L i } :: newsL L (i + 1) r
   | none => newsL L (i + 1) r
def dstIs (o : Oper) (t : Nat) : Bool := match o.dst with
 | some u => Nat.beq u t
 | none => false
def looksB (ops : Array Oper) (o : Oper) (j : Nat) : Bool := match ops[j]? with
 | some oj => (o.looksAt ops).any (dstIs oj)
 | none => false
def depB (ops : Array Oper) : Bool := (List.range ops.size).all fun i => match ops[i]? with
 | some o => notSel o.op && o.after.toList.all (fun e => !Region.binds .any e || Nat.blt e.on i) &&
     (List.range ops.size).all (fun j => !looksB ops o j || (Nat.blt j i && o.after.toList.any fun e => Region.binds .any e && Nat.beq e.on j)) &&
     (List.range ops.size).all (fun j => Nat.beq i j || (match o.dst, ops[j]? with
       | some t, some oj => !dstIs oj t
       | _, _ => true))
 | none => false
def focus (ops : Array Oper) (o : Oper) (pre : List Dn) (s : St) : St := { s with own := { s.own with l := s.own.l ++ newsL (looksB ops o) 0 pre } }
noncomputable def stepD (E : Env) (n : Nat) (ops : Array Oper) (o : Oper) (pre : List Dn) (s : St) : Option (Dn × St) :=
 match wantS n ops o s with
 | none => none
 | some (false, s1) => some (⟨.inl ([], undef), none⟩, s1)
 | some (true, s1) => match simMK E o (focus ops o pre s1) with
   | some (e, q) => some (⟨.c (s1.own.l.length + (newsL (fun _ => true) 0 pre).length), some e⟩, { s1 with obl := more s1 q })
   | none => match simRO E o (focus ops o pre s1) with
   | some (x, c, q) => bif okVB s1.own.b.length s1.own.l.length x then some (⟨x, none⟩, { s1 with obl := more s1 q }) else none
   | none => match simLX E o (focus ops o pre s1) with
   | some (_, m, _) => match m.l.getLast? with
     | some e => some (⟨.c (s1.own.l.length + (newsL (fun _ => true) 0 pre).length), some e⟩, s1)
     | none => none
   | none => match callArgs (focus ops o pre s1) o with
     | none => none
     | some (f, args) => match effP E f args s1.own with
       | some (p, b) => some (⟨.inl p, none⟩, { s1 with obl := (b, true) :: s1.obl })
       | none => match pcallS E f args (focus ops o pre s1) with
       | some (.inl p, s2) => some (⟨.inl p, none⟩, { s1 with obl := s2.obl })
       | some _ => none
       | none => match argsX (focus ops o pre s1) args, E.P.funcs[f]? with
         | some l, some fn => bif fn.name == "runtime.NumGoroutine" || fn.body.isNone then none else (match E.lcall f l with
           | some (false, [.inl v], b) => some (⟨.inl ([true], v), none⟩, { s1 with obl := (b, true) :: (subsO (focus ops o pre s1) args ++ s1.obl) })
           | some (false, [.inr e], b) => some (⟨.c (s1.own.l.length + (newsL (fun _ => true) 0 pre).length), some { e with own := true, dead := false }⟩, { s1 with obl := (b, true) :: (subsO (focus ops o pre s1) args ++ s1.obl) })
           | _ => none)
         | _, _ => none
noncomputable def simD (E : Env) (n : Nat) (ops : Array Oper) : List Oper -> List Dn -> St -> Option (List Dn × St)
 | [], pre, s => some (pre, s)
 | o :: rest, pre, s => match stepD E n ops o pre s with
   | some (d, s1) => match putS n o.dst d.x s1 with
     | some s2 => simD E n ops rest (pre ++ [d]) s2
     | none => none
   | none => none
noncomputable def regionD (E : Env) (n : Nat) (ops : Array Oper) (s : St) : Option St := bif depB ops then (match simD E n ops ops.toList [] s with
 | some (ds, s1) => some { s1 with own := { s1.own with l := s1.own.l ++ newsL (fun _ => true) 0 ds } }
 | none => none) else none
def unsnoc : List Oper -> Option (List Oper × Oper)
 | [] => none
 | x :: r => match unsnoc r with
   | some (a, o) => some (x :: a, o)
   | none => some ([], x)
def noopOf (o : Oper) : Oper := { o with op := .move (.const undef) }
noncomputable def lastD (E : Env) (n : Nat) (ops : Array Oper) (s : St) : Option St := match unsnoc ops.toList with
 | some (l, o) => bif o.dst.isNone && o.guard.isNone && (List.range l.length).all (fun i => o.after.toList.any fun e => Region.binds .any e && Nat.beq e.on i) && depB (l ++ [noopOf o]).toArray then
     (match regionD E n (l ++ [noopOf o]).toArray s with
     | some s2 => match simFX E o s2 with
       | some (x, own, q) => some { s2 with own := own, mem := true, obl := more s2 q }
       | none => none
     | none => none) else none
 | none => none
def noopT (o : Oper) : Oper := { o with op := .move (.const undef), dst := none }
def aftA (o : Oper) : List Nat := (o.after.toList.filter (Region.binds .any)).map (·.on)
def ancA (ops : Array Oper) : Nat -> List Nat -> List Nat
 | 0, xs => xs
 | k + 1, xs => ancA ops k (addN xs (xs.flatMap fun i => match ops[i]? with
   | some o => aftA o
   | none => []))
noncomputable def stepT (E : Env) (cl : Callee) (n : Nat) (o : Oper) (s : St) : Option St := match simFX E o s with
 | some (x, own, q) => putS n o.dst x { s with own := own, mem := true, obl := more s q }
 | none => match simRO E o s with
   | some (x, c, q) => putS n o.dst x { s with mem := s.mem || c, obl := more s q }
   | none => match callArgs s o with
     | some (f, args) => match cl f args s with
       | some (x, s2) => putS n o.dst x { s with own := s2.own, mem := true, orc := s2.orc, obl := s2.obl }
       | none => none
     | none => none
noncomputable def tailS (E : Env) (cl : Callee) (n : Nat) : List Oper -> St -> Option St
 | [], s => some s
 | o :: r, s => match stepT E cl n o s with
   | some s1 => tailS E cl n r s1
   | none => none
noncomputable def tailN (E : Env) (cl : Callee) (n k : Nat) (ops : Array Oper) (s : St) : Option St :=
 bif ops.toList.all (fun o => o.guard.isNone) && Nat.ble k ops.size && Nat.blt 0 k && (List.range k).all (fun m => (List.range (ops.size - k + m)).all fun j => (ancA ops ops.size (match ops[ops.size - k + m]? with
     | some o => aftA o
     | none => [])).any (Nat.beq j)) then
   (match regionD E n (ops.toList.take (ops.size - k) ++ (ops.toList.drop (ops.size - k)).map noopT).toArray s with
   | some s2 => tailS E cl n (ops.toList.drop (ops.size - k)) s2
   | none => none) else none
def junkOf (P : Program) (o : Oper) : Option (Nat × TypeId × Nat) := match o.op, o.dst, o.guard with
 | .alloc t, some d, none => match P.info? t with
   | some i => match i.zero with
     | some z => bif Nat.beq z.cells.size i.size then some (d, t, i.size) else none
     | none => none
   | none => none
 | _, _, _ => none
def findJ (P : Program) : List Oper -> Nat -> Option (Nat × Nat × TypeId × Nat)
 | [], _ => none
 | o :: r, k => match junkOf P o with
   | some (d, t, sz) => some (k, d, t, sz)
   | none => findJ P r (k + 1)
noncomputable def stepJ (E : Env) (n : Nat) (ops : Array Oper) (dd : Nat) (t : TypeId) (sz : Nat) (o : Oper) (pre : List Dn) (s : St) : Option (Dn × St) :=
 match junkOf E.P o with
 | some (d', t', sz') => bif Nat.beq dd d' && Nat.beq t t' && Nat.beq sz sz' then some (⟨.any, none⟩, s) else none
 | none => match o.op with
   | .store t' (.tmp d') y => bif Nat.beq dd d' && Nat.beq t t' && o.guard.isNone && o.dst.isNone then
       (match ev (focus ops o pre s) y with
       | .inl (_, v) => bif Nat.beq v.cells.size sz && v.cells.toList.all Value.oneCell' then some (⟨.inl ([], undef), none⟩, s) else none
       | _ => none)
     else stepD E n ops o pre s
   | _ => stepD E n ops o pre s
noncomputable def simJ (E : Env) (n : Nat) (ops : Array Oper) (dd : Nat) (t : TypeId) (sz : Nat) : List Oper -> List Dn -> St -> Option (List Dn × St)
 | [], pre, s => some (pre, s)
 | o :: rest, pre, s => match stepJ E n ops dd t sz o pre s with
   | some (d, s1) => match putS n o.dst d.x s1 with
     | some s2 => simJ E n ops dd t sz rest (pre ++ [d]) s2
     | none => none
   | none => none
def noBld (m : Mem) : Bool := m.b.all fun b => match b.kd with
 | .bld _ _ _ _ => false
 | _ => true
noncomputable def pivR (E : Env) (cl : Callee) (n c : Nat) (fr : List Nat) (ops : Array Oper) (s : St) : Option (St × St) :=
 match ops[c]? with
 | none => none
 | some o => bif ops.toList.all (fun o => o.guard.isNone) && (List.range c).all (fun j => (ancA ops ops.size (aftA o)).any (Nat.beq j)) && (List.range ops.size).all (fun i => Nat.ble i c || fr.any (Nat.beq i) || (match ops[i]? with
     | some o' => (ancA ops ops.size (aftA o')).any (Nat.beq c)
     | none => true)) && fr.all (Nat.blt c) then
   (match regionD E n (ops.toList.take c ++ (ops.toList.drop c).map noopT).toArray s with
   | some s2 => match stepT E cl n o s2 with
     | some s3 => match regionD E n ((ops.toList.take (c + 1)).map noopT ++ ops.toList.drop (c + 1)).toArray s3 with
       | some s4 => some (s3, s4)
       | none => none
     | none => none
   | none => none) else none
noncomputable def pivE (E : Env) (cl : Callee) (n c : Nat) (ops : Array Oper) (s : St) : Option St := match pivR E cl n c [] ops s with
 | some (_, s4) => some s4
 | none => none
def isCallO (o : Oper) : Bool := match o.op with
 | .call { callee := .value _, args := _, argTypes := _ } => true
 | _ => false
def pivI (ops : Array Oper) : Nat -> Option Nat
 | 0 => none
 | i + 1 => match ops[i]? with
   | some o => bif isCallO o then some i else pivI ops i
   | none => pivI ops i
noncomputable def pivD (E : Env) (cl : Callee) (n : Nat) (ops : Array Oper) (s : St) : Option St := match pivI ops ops.size with
 | some c => pivE E cl n c ops s
 | none => none
def blankL (ja js : Nat) : Nat -> List Oper -> List Oper
 | _, [] => []
 | i, o :: r => (bif Nat.beq i ja || Nat.beq i js then noopT o else o) :: blankL ja js (i + 1) r
def storeOf (dd : Nat) (t : TypeId) (o : Oper) : Option Nat := match o.op with
 | .store t' (.tmp d) (.tmp y) => bif Nat.beq d dd && Nat.beq t' t && o.dst.isNone && !Nat.beq y dd then some y else none
 | _ => none
def findS (dd : Nat) (t : TypeId) : List Oper -> Nat -> Option (Nat × Nat)
 | [], _ => none
 | o :: r, k => match storeOf dd t o with
   | some y => some (k, y)
   | none => findS dd t r (k + 1)
def aloneJ (ops : Array Oper) (ja js : Nat) : Bool := (List.range ops.size).all fun i => Nat.beq i js || (match ops[i]? with
 | some o => !looksB ops o ja
 | none => true)
def ancB (ops : Array Oper) (c js : Nat) : Bool := match ops[js]? with
 | some o => (ancA ops ops.size (aftA o)).any (Nat.beq c)
 | none => false
noncomputable def pivJ (E : Env) (n : Nat) (ops : Array Oper) (s : St) : Option St := match pivI ops ops.size, findJ E.P ops.toList 0 with
 | some c, some (ja, dd, t, sz) => match findS dd t ops.toList 0 with
   | some (js, ty) => bif E.bt.isNone && noBld s.own && depB ops && ops.toList.all (fun o => o.guard.isNone) && Nat.blt c ja && aloneJ ops ja js && ancB ops c js then
       (match pivR E (lcallS E) n c [ja, js] (blankL ja js 0 ops.toList).toArray s with
       | some (s3, s4) => match cellsS s3 (look s4.tmps ty), cellsS s4 (look s4.tmps ty) with
         | some us0, some us => bif noBld s3.own && Nat.beq us0.length sz && Nat.blt dd n then some { s4 with tmps := (dd, .inr (s4.own.b.length, 0, none)) :: s4.tmps, own := { s4.own with b := s4.own.b ++ [⟨us, t, .cells⟩] }, mem := true } else none
         | _, _ => none
       | none => none) else none
   | none => none
 | _, _ => none
noncomputable def tailD (E : Env) (cl : Callee) (n : Nat) (ops : Array Oper) (s : St) : Option St := match tailN E cl n 2 ops s with
 | some r => some r
 | none => match tailN E cl n 3 ops s with
   | some r => some r
   | none => match pivD E cl n ops s with
     | some r => some r
     | none => pivJ E n ops s
noncomputable def regionJ (E : Env) (n : Nat) (ops : Array Oper) (s : St) : Option St := match findJ E.P ops.toList 0 with
 | some (_, dd, t, sz) => bif E.bt.isNone && noBld s.own && depB ops then (match simJ E n ops dd t sz ops.toList [] s with
   | some (ds, s1) => some { s1 with own := { s1.own with l := s1.own.l ++ newsL (fun _ => true) 0 ds } }
   | none => none) else none
 | none => none
noncomputable def stepC (E : Env) (ih : Runner) (n : Nat) : Code -> St -> Option (X × St)
 | .skip, s => some (none, s)
 | .label _, s => some (none, s)
 | .scope x, s => ih n x s
 | .region _ ops false, s => match simOps E (enterS E ih) n ops false ops.toList s with
   | some s' => some (none, s')
   | none => none
 | .region _ ops true, s => bif E.P.follows .mixedOrders && Region.lexB .any ops then (match simOps E (enterS E ih) n ops true ops.toList { s with mem := true } with
   | some s' => some (none, s')
   | none => match regionD E n ops { s with mem := true } with
     | some s' => some (none, s')
     | none => match lastD E n ops { s with mem := true } with
       | some s' => some (none, s')
       | none => match regionJ E n ops { s with mem := true } with
         | some s' => some (none, s')
         | none => match tailD E (enterS E ih) n ops { s with mem := true } with
           | some s' => some (none, s')
           | none => none) else none
 | .seq x y, s => match ih n x s with
   | some (none, s') => ih n y s'
   | r => r
 | .cond c x y, s => match ev s c with
   | .inl (fl, (.bool b)) => match askC s c fl b with
     | (true, s') => ih n x s'
     | (false, s') => ih n y s'
   | _ => none
 | .block id x, s => match ih n x s with
   | some (some (some i), s') => bif Nat.beq i id then some (none, s') else some (some (some i), s')
   | r => r
 | .loop x, s => match ih n x s with
   | some (none, s') => ih n (.loop x) s'
   | r => r
 | .exit id, s => some (some (some id), s)
 | .ret, s => some (some none, s)
 | _, _ => none
noncomputable def simC (E : Env) (fuel : Nat) : Runner :=
 Nat.rec (fun _ _ _ => none) (fun _ ih n c s => stepC E ih n c s) fuel
end Go.Proofs.Ytmaffamhjmlonaa.S2
