/- Sim, SimOk, SimCalls, MapL. -/
import Derived.WalkKit
import Derived.Below
import Derived.LoopN
import Derived.Laws.Rows
import Derived.Deep.Quiet
import Derived.Laws.StructEq
import Derived.Maps.Own
import Derived.Maps.OwnOps
set_option linter.unusedVariables false
set_option linter.unusedSimpArgs false
namespace Go.Proofs.Ytmaffamhjmlonaa
theorem qS {α : Type _} (a b : α) : (some a = some b) = (a = b) := Option.some.injEq a b
theorem qP {α : Type _} {β : Type _} (a : α) (b : β) (c : α) (d : β) : ((a, b) = (c, d)) = (a = c /\ b = d) := Prod.mk.injEq a b c d
theorem qN (n : Nat) : (n : Int).toNat = n := Int.toNat_natCast n
theorem qB {n m : Nat} (h : Nat.beq n m = true) : n = m := Nat.eq_of_beq_eq_true h
end Go.Proofs.Ytmaffamhjmlonaa
namespace Go.Proofs.Ytmaffamhjmlonaa.Sim
open Go Go.RowKit
def evalPure {α : Type} (P : Program) : Sem α -> Option α
 | .pure a => some a
 | .program k => evalPure P (k P)
 | .mark _ k => evalPure P k
 | _ => none
theorem evalPure_run {α : Type} {P : Program} (s : Sem α) : ∀ {a : α}, evalPure P s = some a -> ∀ w, s.run P w = .ok a w := by
 induction s with
 | pure a => intro b h w; simp [evalPure] at h; subst h; rfl
 | program k ih => intro b h w; exact ih P h w
 | mark m k ih => intro b h w; exact ih h w
 | _ => intro b h; simp [evalPure] at h
abbrev SV := Sum (List Bool × Value) (Nat × Nat × Option (Nat × Nat))
structure Blk where
 cells : List Value
 elem : TypeId
 fl : List Bool
def cut (fl : List Bool) (off : Nat) : Nat -> List Bool
 | 0 => []
 | n + 1 => (fl[off]?).getD false :: cut fl (off + 1) n
def anyF : List Bool -> Bool
 | [] => false
 | b :: r => b || anyF r
structure St where
 tmps : List (Nat × SV)
 own : List Blk
 lo : Nat
 mem : Bool
 orc : List Bool
 obl : List (Bool × Bool)
structure Env where
 P : Program
 glob : Nat -> Option (List Value)
 call : FuncId -> Array Value -> Option Value
 /-- Calls that answer so under a condition: the condition is asked of the user. -/
 pcall : FuncId -> List Value -> Option (Value × Bool) := fun _ _ => none
def look : List (Nat × SV) -> Nat -> SV
 | [], _ => .inl ([], undef)
 | (d, x) :: r, t => bif Nat.beq d t then x else look r t
def aggD : TypeDesc -> Bool
 | .struct _ | .array _ _ => true
 | _ => false
def loadB (P : Program) (t : TypeId) (cs : List Value) (off : Nat) : Option Value :=
 match P.underlying t, P.info? t with
 | some d, some i =>
   bif aggD d then (bif Nat.ble (off + i.size) cs.length then some (.agg ((cs.drop off).take i.size).toArray) else none)
   else cs[off]?
 | _, _ => none
def putL : List Value -> Nat -> List Value -> List Value
 | c, _, [] => c
 | c, o, v :: r => putL (c.set o v) (o + 1) r
def putQ (c : List Value) (o : Nat) (vs : List Value) : List Value := bif Nat.beq o 0 && Nat.beq vs.length c.length then vs else putL c o vs
def storeB (P : Program) (t : TypeId) (cs : List Value) (off : Nat) (v : Value) : Option (List Value) :=
 match P.info? t with
 | some i => bif Nat.beq v.cells.toList.length i.size && Nat.ble (off + i.size) cs.length && v.cells.toList.all Value.oneCell' then some (putQ cs off v.cells.toList) else none
 | none => none
def fieldB (P : Program) (t : TypeId) (f off : Nat) : Option Nat :=
 match P.underlying t with
 | some (.struct fs) => match fs[f]? with
   | some fl => match P.info? fl.type with
     | some i => bif Nat.beq i.size 0 then none else some (off + fl.offset)
     | none => none
   | none => none
 | _ => none
def elemB (P : Program) (e : TypeId) (len off : Nat) (n : Int) : Option Nat :=
 match P.info? e with
 | some i => bif decide (0 <= n /\ n < (len : Int)) then some (off + n.toNat * i.size) else none
 | none => none
def litB (P : Program) (t : TypeId) (len : Nat) (parts : List (Nat × Value)) : Option (List Value × TypeId) :=
 match P.underlying t with
 | some (.slice e) => match P.info? e with
   | some i => match i.zero with
     | some z => bif Nat.beq (len * i.size) 0 || Nat.blt (2 ^ 24) (len * i.size) then (match len, parts with
       | 0, [] => some ([], e)
       | _, _ => none) else
       (match Instr.fill (fun k => some (k * i.size, i.size)) ((Array.range (len * i.size)).map fun k => z.cells[k % z.cells.size]!) parts with
       | some cells => some (cells.toList, e)
       | none => none)
     | none => none
   | none => none
 | _ => none
def notSel : Op -> Bool
 | .select _ _ => false
 | _ => true
def fieldF (P : Program) (t : TypeId) (f : Nat) (fl : List Bool) : List Bool :=
 match P.underlying t with
 | some (.struct fs) => match fs[f]? with
   | some fl' => cut fl fl'.offset (P.cellsOf fl'.type)
   | none => []
 | _ => []
def cmpI : BinOp -> Int -> Int -> Option Bool
 | .eql, a, b => some (a == b)
 | .neq, a, b => some (a != b)
 | .lss, a, b => some (decide (a < b))
 | .leq, a, b => some (decide (a <= b))
 | .gtr, a, b => some (decide (a > b))
 | .geq, a, b => some (decide (a >= b))
 | _, _, _ => none
def eqFs (P : Program) (rec : TypeId -> Value -> Value -> Option Bool) (xs ys : Array Value) : List Field -> Option Bool
 | [] => some true
 | f :: r => bif f.name == "_" then none else (match evalPure P (part f.type xs f.offset), evalPure P (part f.type ys f.offset) with
   | some a, some b => match rec f.type a b with
     | some e => match eqFs P rec xs ys r with
       | some q => some (e && q)
       | none => none
     | none => none
   | _, _ => none)
def eqB (P : Program) : Nat -> TypeId -> Value -> Value -> Option Bool
 | 0, _, _, _ => none
 | n + 1, t, x, y => match P.underlying t, x, y with
   | some .bool, .bool a, .bool b => some (a == b)
   | some (.int _), .int k a, .int j b => bif decide (k = j) then some (a == b) else none
   | some .string, .string a, .string b => some (a.toList == b.toList)
   | some (.struct fs), .agg xs, .agg ys => bif P.stoodInHeld t then none else eqFs P (eqB P n) xs ys fs.toList
   | _, _, _ => none
def eqTop (P : Program) (op : BinOp) (t : TypeId) (x y : Value) : Option Bool :=
 bif P.eqGuardType P.depth t then none else match op with
   | .eql => eqB P 20 t x y
   | .neq => (match eqB P 20 t x y with
     | some b => some (!b)
     | none => none)
   | _ => none
def ask (s : St) (fl : List Bool) (b : Bool) : Bool × St :=
 bif anyF fl then (match s.orc with
   | [] => (b, s)
   | t :: r => (t, { s with orc := r, obl := (b, t) :: s.obl }))
 else (b, s)
abbrev X := Option (Option Nat)
def X.toExit : X -> Exit
 | none => .normal
 | some none => .ret
 | some (some i) => .exit i
end Go.Proofs.Ytmaffamhjmlonaa.Sim
namespace Go.Proofs.Ytmaffamhjmlonaa.Sim
open Go Go.RowKit
def Agree (n : Nat) (loc loc' : Nat -> Nat) : Prop := ∀ i, i < n -> loc i = loc' i
theorem Agree.refl (n : Nat) (loc : Nat -> Nat) : Agree n loc loc := fun _ _ => rfl
theorem Agree.trans {n m : Nat} {a b c : Nat -> Nat} (h : Agree n a b) (k : Agree m b c) (hl : n <= m) : Agree n a c := fun i hi => (h i hi).trans (k i (by omega))
structure WR (w0 : World) (loc : Nat -> Nat) (own : List Blk) (mem : Bool) (w : World) : Prop where
 below : Below w0.heap.size w0 w
 blk : ∀ i b, own[i]? = some b -> w.heap[loc i]? = some (.cells b.cells.toArray b.elem (0, 0)) /\ w0.heap.size <= loc i
 inj : ∀ i j, i < own.length -> j < own.length -> loc i = loc j -> i = j
 same : mem = false -> w = w0
def exactL : List Value -> Bool
 | .int .u64 _ :: _ => true
 | _ => false
def GlobW (gl : Nat -> Option (List Value)) (w : World) : Prop := ∀ g cs, gl g = some cs -> (∀ (i : Nat) v, cs[i]? = some v -> w.cell? ⟨g, i, none⟩ = some v) /\ (exactL cs = true -> ∀ i : Nat, w.cell? ⟨g, i, none⟩ = cs[i]?)
abbrev Glob (E : Env) (w : World) : Prop := GlobW E.glob w
def CallOk (E : Env) : Prop := (∀ f args v, E.call f args = some v -> ∀ w, Glob E w -> Calls E.P f args w fun e w' => e = .returned v /\ Below w.heap.size w w') /\
 ∀ f args v, E.pcall f args = some (v, true) -> ∀ w, Glob E w -> Calls E.P f args.toArray w fun e w' => e = .returned v /\ Below w.heap.size w w'
theorem lt_of_some {α : Type} {a : Array α} {i : Nat} {x : α} (h : a[i]? = some x) : i < a.size := by
 rcases Nat.lt_or_ge i a.size with h' | h'
 . exact h'
 . rw [Array.getElem?_eq_none h'] at h; cases h
theorem lt_of_some_list {α : Type} {a : List α} {i : Nat} {x : α} (h : a[i]? = some x) : i < a.length := by
 rcases Nat.lt_or_ge i a.length with h' | h'
 . exact h'
 . rw [List.getElem?_eq_none h'] at h; cases h
theorem GlobW.below {gl : Nat -> Option (List Value)} {w w' : World} (h : GlobW gl w) (hb : Below w.heap.size w w') : GlobW gl w' := fun g cs hg => by
 obtain ⟨k1, k2⟩ := h g cs hg
 refine ⟨fun i v hv => ?_, fun he i => ?_⟩
 . have h0 := k1 i v hv
   rw [hb.cell (p := ⟨g, i, none⟩) (block_lt_of_cell h0)]; exact h0
 . cases cs with
   | nil => cases he
   | cons v r =>
     have h0 := k1 0 v rfl
     rw [hb.cell (p := ⟨g, i, none⟩) (show g < w.heap.size from block_lt_of_cell h0)]; exact k2 he i
theorem WR.mem {w0 : World} {loc : Nat -> Nat} {own : List Blk} {mem : Bool} {w : World} (h : WR w0 loc own mem w) : WR w0 loc own true w :=
 ⟨h.below, h.blk, h.inj, fun h => by cases h⟩
theorem WR.restrict {w0 : World} {loc loc' : Nat -> Nat} {own own' : List Blk} {mem : Bool} {w : World} (h : WR w0 loc' own' mem w) (ha : Agree own.length loc loc') (hl : own.length <= own'.length) (hk : ∀ i, i < own.length -> own'[i]? = own[i]?) : WR w0 loc own true w :=
 ⟨h.below, fun i b hi => by
   have hlt := lt_of_some_list hi
   rw [ha i hlt]
   exact h.blk i b (by rw [hk i hlt]; exact hi), fun i j hi hj he => h.inj i j (by omega) (by omega) (by rw [<- ha i hi, <- ha j hj]; exact he), fun h => by cases h⟩
theorem add_plain (g off n : Nat) : (⟨g, off, none⟩ : Addr).add n = ⟨g, off + n, none⟩ := by
 unfold Addr.add
 by_cases h : n = 0
 . subst h; simp
 . simp [h]
theorem run_loadB {P : Program} {t : TypeId} {cs : List Value} {off g : Nat} {v : Value} (h : loadB P t cs off = some v) (w : World)
   (hc : ∀ (i : Nat) u, cs[i]? = some u -> w.cell? ⟨g, i, none⟩ = some u) : (loadVar t ⟨g, off, none⟩).run P w = .ok v w := by
 unfold loadB at h
 cases hu : P.underlying t with
 | none => simp [hu] at h
 | some d =>
   cases hi : P.info? t with
   | none => simp [hu, hi] at h
   | some i =>
     simp only [hu, hi] at h
     have hagg : (isAgg t).run P w = .ok (aggD d) w := by
       unfold isAgg
       rw [Sem.run_bind, run_underlying hu w]
       cases d <;> rfl
     cases hd : aggD d
     . rw [hd] at h
       simp only [cond_false] at h
       have h0 := hc off v h
       simp only [loadVar, Sem.run_bind, hagg, hd, Result.andThen_ok, Bool.false_eq_true, if_false, run_load, h0]
     . rw [hd] at h
       simp only [cond_true] at h
       cases hb : Nat.ble (off + i.size) cs.length
       . rw [hb] at h; cases h
       . rw [hb] at h
         simp only [cond_true, qS] at h
         have hle : off + i.size <= cs.length := Nat.le_of_ble_eq_true hb
         have hl : ((cs.drop off).take i.size).length = i.size := by simp; omega
         have hrun := run_loadCells_list (P := P) w ⟨g, off, none⟩ ((cs.drop off).take i.size) (fun j u hj => by
           rw [add_plain]
           refine hc _ _ ?_
           rw [List.getElem?_take] at hj
           split at hj
           . rw [List.getElem?_drop] at hj; exact hj
           . cases hj)
         rw [hl] at hrun
         simp only [loadVar, Sem.run_bind, hagg, hd, Result.andThen_ok, if_true, sizeOf, typeInfo, run_program, hi, Sem.run_pure, hrun, h]
theorem cells_of_blk {w : World} {g : Nat} {cs : List Value} {e : TypeId} (h : w.heap[g]? = some (.cells cs.toArray e (0, 0))) : ∀ (i : Nat) u, cs[i]? = some u -> w.cell? ⟨g, i, none⟩ = some u := fun i u hu => by
 rw [cell_of_row w g i _ _ _ h]; simpa using hu
theorem putL_len : ∀ (vs : List Value) (c : List Value) (o : Nat), (putL c o vs).length = c.length
 | [], _, _ => rfl
 | v :: r, c, o => by unfold putL; rw [putL_len r]; simp
theorem putL_at : ∀ (vs c d : List Value), vs.length = d.length -> putL (c ++ d) c.length vs = c ++ vs
 | [], c, [], _ => rfl
 | v :: r, c, [], h => by simp at h
 | [], c, _ :: _, h => by simp at h
 | v :: r, c, x :: d, h => by
   unfold putL
   have e : (c ++ x :: d).set c.length v = (c ++ [v]) ++ d := by simp
   rw [e]
   have := putL_at r (c ++ [v]) d (by simpa using h)
   rw [List.length_append] at this
   rw [show c.length + 1 = c.length + [v].length from rfl, this]; simp
theorem putQ_eq (c : List Value) (o : Nat) (vs : List Value) : putQ c o vs = putL c o vs := by
 unfold putQ
 cases hb : (Nat.beq o 0 && Nat.beq vs.length c.length)
 . rfl
 . simp only [Bool.and_eq_true] at hb
   have h0 := qB hb.1
   subst h0
   exact (putL_at vs [] c (qB hb.2)).symm
theorem run_storeCells {P : Program} {g : Nat} {e : TypeId} (off : Nat) : ∀ (vs : List Value) (i : Nat) (c : List Value) (w : World), w.heap[g]? = some (.cells c.toArray e (0, 0)) -> off + i + vs.length <= c.length -> vs.all Value.oneCell' = true ->
   ∃ w', (storeCells ⟨g, off, none⟩ vs i).run P w = .ok () w' /\ w'.heap[g]? = some (.cells (putL c (off + i) vs).toArray e (0, 0)) /\ (∀ k, k ≠ g -> w'.heap[k]? = w.heap[k]?) /\ w'.heap.size = w.heap.size /\ w'.os = w.os /\ w'.tape = w.tape /\ w'.output = w.output
 | [], i, c, w, hg, _, _ => ⟨w, rfl, hg, fun _ _ => rfl, rfl, rfl, rfl, rfl⟩
 | v :: r, i, c, w, hg, hl, hv => by
   simp only [List.all_cons, Bool.and_eq_true] at hv
   simp only [List.length_cons] at hl
   have hlt : off + i < c.length := by omega
   have hc : w.cell? ⟨g, off + i, none⟩ = some c[off + i] := by
     rw [cell_of_row w g _ _ _ _ hg]; simp [hlt]
   have hf : w.frozen? ⟨g, off + i, none⟩ = false := frozen_of_row w g _ _ _ hg
   have hg1 : (w.setCell ⟨g, off + i, none⟩ v).heap[g]? = some (.cells (c.set (off + i) v).toArray e (0, 0)) := by
     rw [heap_setCell_same w g _ _ _ v hg]; simp
   obtain ⟨w', h1, h2, h3, h4, h5, h6, h7⟩ := run_storeCells (P := P) off r (i + 1) (c.set (off + i) v) (w.setCell ⟨g, off + i, none⟩ v) hg1 (by simp; omega) hv.2
   refine ⟨w', ?_, h2, fun k hk => (h3 k hk).trans (heap_setCell_other w _ k v hk), h4.trans (World.size_setCell ..), h5, h6, h7⟩
   unfold storeCells
   rw [Sem.run_bind, add_plain, run_store P w _ v .plain hv.1]
   simp only [hc, hf, Bool.false_eq_true, if_false, Result.andThen_ok]
   exact h1
theorem run_storeB {P : Program} {t : TypeId} {cs cs' : List Value} {off g : Nat} {e : TypeId} {v : Value} (h : storeB P t cs off v = some cs') (w : World) (hg : w.heap[g]? = some (.cells cs.toArray e (0, 0))) :
   ∃ w', (storeVar t ⟨g, off, none⟩ v).run P w = .ok () w' /\ w'.heap[g]? = some (.cells cs'.toArray e (0, 0)) /\ (∀ k, k ≠ g -> w'.heap[k]? = w.heap[k]?) /\ w'.heap.size = w.heap.size /\ w'.os = w.os /\ w'.tape = w.tape /\ w'.output = w.output := by
 unfold storeB at h
 cases hi : P.info? t with
 | none => simp [hi] at h
 | some i =>
   simp only [hi] at h
   cases hb : (Nat.beq v.cells.toList.length i.size && Nat.ble (off + i.size) cs.length && v.cells.toList.all Value.oneCell')
   . rw [hb] at h; cases h
   . rw [hb] at h
     simp only [cond_true, qS] at h
     simp only [Bool.and_eq_true] at hb
     obtain ⟨⟨h1, h2⟩, h3⟩ := hb
     have h1 : v.cells.toList.length = i.size := qB h1
     have h2 := Nat.le_of_ble_eq_true h2
     have hs : v.cells.size = i.size := by simpa using h1
     obtain ⟨w', r1, r2, r3⟩ := run_storeCells (P := P) off v.cells.toList 0 cs w hg (by rw [h1]; omega) h3
     rw [Nat.add_zero, <- putQ_eq, h] at r2
     refine ⟨w', ?_, r2, r3⟩
     simp only [storeVar, Sem.run_bind, sizeOf, typeInfo, run_program, hi, Sem.run_pure, Result.andThen_ok, hs, ne_eq, not_true_eq_false, if_false]
     exact r1
theorem run_fieldB {P : Program} {t : TypeId} {f off off' g : Nat} (h : fieldB P t f off = some off') (w : World) : (Instr.fieldAt t (.pointer (some ⟨g, off, none⟩)) f).run P w = .ok (.pointer (some ⟨g, off', none⟩)) w := by
 unfold fieldB at h
 split at h
 . rename_i fs hu
   split at h
   . rename_i fl hf
     split at h
     . rename_i i hi
       cases hb : Nat.beq i.size 0
       . rw [hb] at h
         simp only [cond_false, qS] at h
         have hne : ¬ i.size = 0 := fun e => by rw [e] at hb; cases hb
         simp only [Instr.fieldAt, Sem.run_bind, run_underlying hu, Result.andThen_ok, hf, Instr.sureAddr, Sem.run_pure, fieldPlace, sizeOf, typeInfo, run_program, hi, hne, if_false, add_plain, h]
       . rw [hb] at h; cases h
     . cases h
   . cases h
 . cases h
theorem run_elemB {P : Program} {t e : TypeId} {len off off' g : Nat} {k : IntKind} {n : Int} (h : elemB P e len off n = some off') (w : World) :
   (P.underlying t = some (.array len e) -> (Instr.indexAt t (.pointer (some ⟨g, off, none⟩)) (.int k n)).run P w = .ok (.pointer (some ⟨g, off', none⟩)) w) /\
   (P.underlying t = some (.slice e) -> ∀ cap, (Instr.indexAt t (.slice (some ⟨g, off, none⟩) len cap) (.int k n)).run P w = .ok (.pointer (some ⟨g, off', none⟩)) w) := by
 unfold elemB at h
 split at h
 . rename_i i hi
   cases hb : decide (0 <= n /\ n < (len : Int))
   . rw [hb] at h; cases h
   . rw [hb] at h
     simp only [cond_true, qS] at h
     have hb := of_decide_eq_true hb
     have hs : (sizeOf e).run P w = .ok i.size w := by simp [sizeOf, typeInfo, hi]
     refine ⟨fun hu => ?_, fun hu cap => ?_⟩
     . simp only [Instr.indexAt, asIntOf, Sem.run_bind, Sem.run_pure, Result.andThen_ok, run_underlying hu, Instr.sureAddr, hb, and_self, if_true, hs, add_plain, h]
     . simp only [Instr.indexAt, asIntOf, Sem.run_bind, Sem.run_pure, Result.andThen_ok, run_underlying hu, hb, and_self, if_true, hs, add_plain, h]
 . cases h
theorem run_litB {P : Program} {t e : TypeId} {len : Nat} {parts : List (Nat × Value)} {cells : List Value} (h : litB P t len parts = some (cells, e)) (w : World) :
   (Instr.buildSlice t len parts.toArray).run P w = .ok (.slice (some ⟨w.heap.size, 0, none⟩) len len) (w.alloc (.cells cells.toArray e)) := by
 unfold litB at h
 split at h
 . rename_i e' hu
   split at h
   . rename_i i hi
     split at h
     . rename_i z hz
       cases hb : (Nat.beq (len * i.size) 0 || Nat.blt (2 ^ 24) (len * i.size))
       . rw [hb] at h
         simp only [cond_false] at h
         split at h
         . rename_i cs hf
           simp only [qS, qP] at h
           obtain ⟨rfl, rfl⟩ := h
           simp only [Bool.or_eq_false_iff] at hb
           have h0 : ¬ len * i.size = 0 := fun e => by rw [e] at hb; exact absurd hb.1 (by decide)
           have h1 : ¬ len * i.size > 2 ^ 24 := fun e => by
             have := hb.2
             rw [Nat.blt_eq.mpr e] at this
             cases this
           simp only [Instr.buildSlice, Sem.run_bind, run_underlying hu, Result.andThen_ok, sizeOf, typeInfo, run_program, hi, Sem.run_pure, h1, if_false, h0, zeroValue, hz, hf, newRow, run_newObj, World.alloc_eq, Array.toArray_toList]
         . cases h
       . rw [hb] at h
         simp only [cond_true] at h
         split at h
         . simp only [qS, qP] at h
           obtain ⟨rfl, rfl⟩ := h
           simp [Instr.buildSlice, run_underlying hu, Result.andThen_ok, sizeOf, typeInfo, run_program, hi, newRow, Instr.fill]
           rw [show (Array.map (fun _ : Nat => (default : Value)) (Array.range 0)) = #[] from Array.eq_empty_of_size_eq_zero (by rw [Array.size_map, Array.size_range])]
         . cases h
     . cases h
   . cases h
 . cases h
theorem eqFs_ok {P : Program} {rec : TypeId -> Value -> Value -> Option Bool} {D : Nat} (hrec : ∀ t x y b, rec t x y = some b -> ∀ w, (Op.equalIn D t x y).run P w = .ok b w) (xs ys : Array Value) : ∀ (fs : List Field) (b : Bool), eqFs P rec xs ys fs = some b -> ∀ w, (Op.eqFields D xs ys fs).run P w = .ok b w
 | [], b, h, w => by simp [eqFs] at h; subst h; simp [Op.eqFields]
 | f :: r, b, h, w => by
   unfold eqFs at h
   cases hn : (f.name == "_")
   . rw [hn] at h
     simp only [cond_false] at h
     have hn' : ¬ f.name = "_" := by intro e; rw [e] at hn; simp at hn
     split at h
     . rename_i a b' ha hb
       split at h
       . rename_i e he
         split at h
         . rename_i q hq
           simp only [qS] at h
           subst h
           have h1 := hrec _ _ _ _ he w
           have h2 := eqFs_ok hrec xs ys r q hq w
           simp only [Op.eqFields, hn', ne_eq, not_false_eq_true, if_true, Sem.run_bind, evalPure_run _ ha w, evalPure_run _ hb w, h1, Result.andThen_ok]
           cases e <;> simp [h2]
         . cases h
       . cases h
     . cases h
   . rw [hn] at h; cases h
theorem eqB_ok {P : Program} : ∀ (n : Nat) (t : TypeId) (x y : Value) (b : Bool), eqB P n t x y = some b -> ∀ (D : Nat), n <= D -> ∀ w, (Op.equalIn D t x y).run P w = .ok b w
 | 0, _, _, _, _, h, _, _, _ => by simp [eqB] at h
 | n + 1, t, x, y, b, h, D, hD, w => by
   obtain ⟨d, rfl⟩ : ∃ d, D = d + 1 := ⟨D - 1, by omega⟩
   unfold eqB at h
   split at h
   . rename_i a c hu
     simp only [qS] at h
     subst h
     exact run_equalIn_bool w d t a c hu
   . rename_i k' k a j c hu
     cases hk : decide (k = j)
     . rw [hk] at h; cases h
     . rw [hk] at h
       simp only [cond_true, qS] at h
       have := of_decide_eq_true hk
       subst this h
       exact run_equalIn_int w d t k k' a c hu
   . rename_i a c hu
     simp only [qS] at h
     subst h
     exact run_equalIn_string w d t a c hu
   . rename_i fs xs ys hu
     cases hs : P.stoodInHeld t
     . rw [hs] at h
       simp only [cond_false] at h
       have hf : P.fieldsOf t = fs := by simp [Program.fieldsOf, hu]
       rw [run_equalIn_struct w d t xs ys (by rw [hf]; exact hu) hs, hf]
       exact eqFs_ok (fun t x y b hb w => eqB_ok n t x y b hb d (by omega) w) xs ys fs.toList b h w
     . rw [hs] at h; cases h
   . cases h
theorem eqTop_ok {P : Program} {op : BinOp} {t : TypeId} {xs ys : Array Value} {r : Bool} (h : eqTop P op t (.agg xs) (.agg ys) = some r) (x y : Operand) (w : World) :
   (do eqGuard op t x y (.agg xs) (.agg ys); binOp op t (.agg xs) (.agg ys)).run P w = .ok (.bool r) w := by
 unfold eqTop at h
 cases hg : P.eqGuardType P.depth t
 . rw [hg] at h
   simp only [cond_false] at h
   split at h
   . have he := eqB_ok 20 t _ _ _ h Op.maxDepth (by decide) w
     simp [eqGuard, binOp, Op.equal, he, hg]
   . split at h
     . rename_i b hb
       simp only [qS] at h
       subst h
       have he := eqB_ok 20 t _ _ _ hb Op.maxDepth (by decide) w
       simp [eqGuard, binOp, Op.equal, he, hg]
     . cases h
   . cases h
 . rw [hg] at h; cases h
def ext (loc : Nat -> Nat) (n b : Nat) : Nat -> Nat := fun i => if i = n then b else loc i
theorem ext_old (loc : Nat -> Nat) (n b : Nat) : Agree n loc (ext loc n b) := fun i h => by unfold ext; rw [if_neg (by omega)]
theorem ext_new (loc : Nat -> Nat) (n b : Nat) : ext loc n b n = b := by unfold ext; rw [if_pos rfl]
theorem WR.grow {w0 : World} {loc : Nat -> Nat} {own : List Blk} {mem : Bool} {w : World} (h : WR w0 loc own mem w) (cs : List Value) (t : TypeId) (fl : List Bool) :
   WR w0 (ext loc own.length w.heap.size) (own ++ [⟨cs, t, fl⟩]) true (w.alloc (.cells cs.toArray t)) := by
 have hsz := h.below.size
 refine ⟨h.below.alloc hsz _, fun i b hi => ?_, fun i j hi hj he => ?_, fun h => by cases h⟩
 . rcases Nat.lt_trichotomy i own.length with hl | hl | hl
   . rw [List.getElem?_append_left hl] at hi
     obtain ⟨h1, h2⟩ := h.blk i b hi
     rw [<- ext_old loc _ _ i hl]
     exact ⟨by rw [Below.heap_alloc w _ (loc i) (lt_of_some h1)]; exact h1, h2⟩
   . subst hl
     simp at hi
     subst hi
     rw [ext_new]
     exact ⟨by rw [heap_alloc_new], hsz⟩
   . rw [List.getElem?_eq_none (by simp; omega)] at hi; cases hi
 . have key : ∀ i, i < own.length -> loc i < w.heap.size := fun i hi => by
     obtain ⟨h1, _⟩ := h.blk i own[i] (by simp [hi])
     exact lt_of_some h1
   simp only [List.length_append, List.length_cons, List.length_nil] at hi hj
   unfold ext at he
   by_cases h1 : i = own.length <;> by_cases h2 : j = own.length
   . omega
   . rw [if_pos h1, if_neg h2] at he; have := key j (by omega); omega
   . rw [if_neg h1, if_pos h2] at he; have := key i (by omega); omega
   . rw [if_neg h1, if_neg h2] at he; exact h.inj i j (by omega) (by omega) he
theorem WR.store {w0 : World} {loc : Nat -> Nat} {own : List Blk} {mem : Bool} {w w' : World} (h : WR w0 loc own mem w) {i : Nat} {b : Blk} (hi : own[i]? = some b) {cs : List Value}
   (h1 : w'.heap[loc i]? = some (.cells cs.toArray b.elem (0, 0))) (h2 : ∀ k, k ≠ loc i -> w'.heap[k]? = w.heap[k]?) (h3 : w'.heap.size = w.heap.size) (h4 : w'.os = w.os) (h5 : w'.tape = w.tape) (h6 : w'.output = w.output) (fl : List Bool) :
   WR w0 loc (own.set i ⟨cs, b.elem, fl⟩) true w' := by
 have hil := lt_of_some_list hi
 obtain ⟨_, hge⟩ := h.blk i b hi
 refine ⟨h.below.trans ⟨h4, h5, h6, by omega, fun k hk => h2 k (by omega)⟩, fun j c hj => ?_, fun j k hj hk he => h.inj j k (by simpa using hj) (by simpa using hk) he, fun h => by cases h⟩
 by_cases hij : i = j
 . subst hij
   rw [List.getElem?_set_self hil] at hj
   simp only [qS] at hj
   subst hj
   exact ⟨h1, hge⟩
 . rw [List.getElem?_set_ne hij] at hj
   obtain ⟨k1, k2⟩ := h.blk j c hj
   have hjl := lt_of_some_list hj
   exact ⟨by rw [h2 _ (fun e => hij (h.inj j i hjl hil e).symm)]; exact k1, k2⟩
theorem WR.drew {w0 : World} {loc : Nat -> Nat} {own : List Blk} {mem : Bool} {w : World} (h : WR w0 loc own mem w) : WR w0 loc own true { w with drawn := w.drawn + 1 } :=
 ⟨h.below.drew, h.blk, h.inj, fun h => by cases h⟩
def Piece (P : Program) (fuel : Nat) (Q : Exit -> Act -> World -> Prop) (a : Act) (w : World) : Code -> Prop
 | .loop c => Code.rounds P c Q fuel a w
 | c => c.wp P Q a w
theorem Piece.wp {P : Program} {fuel : Nat} {Q : Exit -> Act -> World -> Prop} {a : Act} {w : World} {c : Code} (h : Piece P fuel Q a w c) : c.wp P Q a w := by
 cases c <;> first | exact h | exact wp_loop_rounds fuel h
def resM (tmps : Array Value) : ResultVar -> Sem Value
 | .tmp t => pure (tmps.getD t undef)
 | .cell p t => do loadVar t (<- asAddr (tmps.getD p undef))
theorem results_resM (fn : Func) (tmps : Array Value) : results fn tmps = (do let vs <- fn.results.mapM (resM tmps); pure (if h : vs.size = 1 then vs[0] else .tuple vs)) := rfl
end Go.Proofs.Ytmaffamhjmlonaa.Sim
namespace Go.Proofs.Ytmaffamhjmlonaa.Sim
open Go Go.RowKit
abbrev Tab := FuncId -> Array Value -> Option Value
def row {α : Type} (k : FuncId) (dec : List Value -> Option α) (g : α -> Value) : Tab := fun f args =>
 bif Nat.beq f k then (match dec args.toList with
   | some a => some (g a)
   | none => none) else none
def orT (c1 c2 : Tab) : Tab := fun f args => match c1 f args with
 | some v => some v
 | none => c2 f args
def noT : Tab := fun _ _ => none
def TabOk (P : Program) (gl : Nat -> Option (List Value)) (c : Tab) : Prop := ∀ f args v, c f args = some v -> ∀ w, Glob { P := P, glob := gl, call := c } w -> Calls P f args w fun e w' => e = .returned v /\ Below w.heap.size w w'
abbrev GlobOk (gl : Nat -> Option (List Value)) (w : World) : Prop := GlobW gl w
theorem GlobOk.none (w : World) : GlobOk (fun _ => none) w := fun _ _ h => by cases h
theorem GlobOk.below {gl : Nat -> Option (List Value)} {w w' : World} (h : GlobOk gl w) (hb : Below w.heap.size w w') : GlobOk gl w' := GlobW.below h hb
theorem TabOk.none (P : Program) (gl : Nat -> Option (List Value)) : TabOk P gl noT := fun _ _ _ h => by cases h
theorem TabOk.row {P : Program} {gl : Nat -> Option (List Value)} {α : Type} {k : FuncId} {dec : List Value -> Option α} {g : α -> Value}
   (h : ∀ args a, dec args.toList = some a -> ∀ w, GlobOk gl w -> Calls P k args w fun e w' => e = .returned (g a) /\ Below w.heap.size w w') : TabOk P gl (row k dec g) := fun f args v hv w hG => by
 unfold Sim.row at hv
 cases hb : Nat.beq f k
 . rw [hb] at hv; cases hv
 . rw [hb] at hv
   have he : f = k := qB hb
   subst he
   simp only [cond_true] at hv
   cases hd : dec args.toList with
   | none => rw [hd] at hv; cases hv
   | some a =>
     rw [hd] at hv
     simp only [qS] at hv
     subst hv
     exact h args a hd w hG
theorem TabOk.or {P : Program} {gl : Nat -> Option (List Value)} {c1 c2 : Tab} (h1 : TabOk P gl c1) (h2 : TabOk P gl c2) : TabOk P gl (orT c1 c2) := fun f args v hv w hG => by
 unfold orT at hv
 split at hv
 . rename_i u hu
   simp only [qS] at hv
   subst hv
   exact h1 f args _ hu w hG
 . exact h2 f args v hv w hG
def dec0 : List Value -> Option Unit
 | [] => some ()
 | _ => none
theorem dec0_eq {l : List Value} {x : Unit} (h : dec0 l = some x) : l = [] := by unfold dec0 at h; split at h <;> simp_all
theorem args_eq {args : Array Value} {l : List Value} (h : args.toList = l) : args = l.toArray := by rw [<- h]
def Ret (P : Program) (k : FuncId) (args : Array Value) (v : Value) (w : World) : Prop := Calls P k args w fun e w' => e = .returned v /\ Below w.heap.size w w'
theorem tab0 {P : Program} {gl : Nat -> Option (List Value)} {k : FuncId} {g : Unit -> Value} (h : ∀ w, GlobOk gl w -> Ret P k #[] (g ()) w) : TabOk P gl (row k dec0 g) := .row fun args a hd w hG => by rw [args_eq (dec0_eq hd)]; exact h w hG
abbrev PTab := FuncId -> List Value -> Option (Value × Bool)
def pre (b : Bool) : Bool := b
def prow {α : Type} (k : FuncId) (dec : List Value -> Option α) (g : α -> Value) (c : α -> Bool) : PTab := fun f args =>
 bif Nat.beq f k then (match dec args with
   | some a => some (g a, pre (c a))
   | none => none) else none
def orP (c1 c2 : PTab) : PTab := fun f args => match c1 f args with
 | some v => some v
 | none => c2 f args
def noP : PTab := fun _ _ => none
def PTabOk (P : Program) (gl : Nat -> Option (List Value)) (c : PTab) : Prop := ∀ f args v, c f args = some (v, true) -> ∀ w, GlobOk gl w -> Ret P f args.toArray v w
theorem PTabOk.none (P : Program) (gl : Nat -> Option (List Value)) : PTabOk P gl noP := fun _ _ _ h => by cases h
theorem PTabOk.row {P : Program} {gl : Nat -> Option (List Value)} {α : Type} {k : FuncId} {dec : List Value -> Option α} {enc : α -> List Value} {g : α -> Value} {c : α -> Bool} (hd : ∀ l a, dec l = some a -> l = enc a)
   (h : ∀ a, c a = true -> ∀ w, GlobOk gl w -> Ret P k (enc a).toArray (g a) w) : PTabOk P gl (prow k dec g c) := fun f args v hv w hG => by
 unfold prow at hv
 cases hb : Nat.beq f k
 . rw [hb] at hv; cases hv
 . rw [hb] at hv
   have he : f = k := qB hb
   subst he
   simp only [cond_true] at hv
   split at hv
   . rename_i a ha
     simp only [qS, qP] at hv
     obtain ⟨rfl, hc⟩ := hv
     rw [hd _ _ ha]
     exact h a hc w hG
   . cases hv
def prowD (k : FuncId) (dec : List Value -> Option (Value × Bool)) : PTab := fun f args => bif Nat.beq f k then dec args else none
theorem PTabOk.rowD {P : Program} {gl : Nat -> Option (List Value)} {k : FuncId} {dec : List Value -> Option (Value × Bool)} (h : ∀ args v, dec args = some (v, true) -> ∀ w, GlobOk gl w -> Ret P k args.toArray v w) : PTabOk P gl (prowD k dec) := fun f args v hv w hG => by
 unfold prowD at hv
 cases hb : Nat.beq f k
 . rw [hb] at hv; cases hv
 . rw [hb] at hv
   have he : f = k := qB hb
   subst he
   exact h args v hv w hG
theorem PTabOk.or {P : Program} {gl : Nat -> Option (List Value)} {c1 c2 : PTab} (h1 : PTabOk P gl c1) (h2 : PTabOk P gl c2) : PTabOk P gl (orP c1 c2) := fun f args v hv w hG => by
 unfold orP at hv
 split at hv
 . rename_i u hu
   simp only [qS] at hv
   subst hv
   exact h1 f args _ hu w hG
 . exact h2 f args v hv w hG
end Go.Proofs.Ytmaffamhjmlonaa.Sim
namespace Go.Proofs.Ytmaffamhjmlonaa.S2
open Go
open Go.ChangeMaps (setBlock putKey notKey heap_setBlock_same heap_setBlock_other mem_insert_iff)
open Go.MapKept (Stamped stamped_empty)
open Go.WideElems (Fit rd rg rd_key rg_of)
open Go.Maps (Keyed fit_look fit_store int_keyed keyOf_int_mk notKey_iff)
theorem mem_srt {H : Type} {l : List (Lit × DataW H)} {p : Lit × DataW H} : p ∈ l.foldr DataW.insert [] ↔ p ∈ l := (Go.WideShapes.sorted_perm l).mem_iff
def logL : List (Int × Value) -> Int -> Option Value
 | [], _ => none
 | (k, v) :: r, a => bif k == a then some v else logL r a
def MapL (w : World) (b : Nat) (l : List (Int × Value)) : Prop :=
 ∃ es clock, w.heap[b]? = some (.map es clock) /\ es.size <= l.length /\ es.size <= maxLen /\ Stamped es clock /\ (∀ x ∈ es.toList, ∃ a, x.key = .int .i64 a /\ (Lit.int .i64 a).wf = true /\ logL l a = some x.val) /\
   ∀ a v, logL l a = some v -> ∃ x ∈ es.toList, x.key = .int .i64 a /\ x.val = v
def allR : Value -> Option (DataW Unit × List MemPlace) := fun _ => some (.nil, [])
theorem MapL.of_heap {w w' : World} {b : Nat} {l : List (Int × Value)} (h : MapL w b l) (he : w'.heap[b]? = w.heap[b]?) : MapL w' b l := by
 obtain ⟨es, clock, hb, r⟩ := h
 exact ⟨es, clock, he.trans hb, r⟩
theorem MapL.lt {w : World} {b : Nat} {l : List (Int × Value)} (h : MapL w b l) : b < w.heap.size := by
 obtain ⟨es, clock, hb, _⟩ := h
 exact (Array.getElem?_eq_some_iff.1 hb).1
theorem MapL.not_cells {w : World} {b : Nat} {l : List (Int × Value)} (h : MapL w b l) (cs : Array Value) (e : TypeId) (fz : Nat × Nat) : w.heap[b]? ≠ some (.cells cs e fz) := fun hc => by
 obtain ⟨es, clock, hb, _⟩ := h
 rw [hb] at hc; cases hc
theorem MapL_made (w : World) : MapL (w.alloc (.map #[] 0)) w.heap.size [] :=
 ⟨#[], 0, (MapKept.heap_alloc w _).1, Nat.le_refl _, by simp, stamped_empty 0, by simp, fun a v h => by cases h⟩
theorem MapL.fit {w : World} {P : Program} {k : TypeId} {b : Nat} {l : List (Int × Value)} (hk : P.underlying k = some (.int .i64)) {es : Array MapEntry} {clock : Nat} (h1 : es.size <= maxLen) (h2 : Stamped es clock) (h3 : ∀ x ∈ es.toList, ∃ a, x.key = .int .i64 a /\ (Lit.int .i64 a).wf = true /\ logL l a = some x.val) : Fit P k allR es clock :=
 ⟨h1, h2, fun x hx => by
   obtain ⟨a, ha, hw, _⟩ := h3 x hx
   exact ⟨_, by unfold rd; rw [ha, keyOf_int_mk hk hw]; rfl⟩⟩
theorem MapL.look {w : World} {P : Program} {t k e : TypeId} {b : Nat} {l : List (Int × Value)} (h : MapL w b l) (ht : P.underlying t = some (.map k e)) (hk : P.underlying k = some (.int .i64)) {z : Value} (hz : (zeroValue e).run P w = .ok z w) {a : Int} (ha : (Lit.int .i64 a).wf = true) (c : Bool) :
   (Instr.lookup t (.map (some b)) (.int .i64 a) c).run P w = .ok (if c then .tuple #[(logL l a).getD z, .bool (logL l a).isSome] else (logL l a).getD z) w := by
 obtain ⟨es, clock, hb, hs, hm, hst, h3, h4⟩ := h
 rcases fit_look c (int_keyed hk) ht hz hb (MapL.fit (w := w) (b := b) hk hm hst h3) (keyOf_int_mk hk ha) with ⟨hrun, hno, _⟩ | ⟨e0, y, hm0, hkey, hrun, _⟩
 . have : logL l a = none := by
     cases hl : logL l a with
     | none => rfl
     | some v =>
       obtain ⟨x, hx, hxk, _⟩ := h4 a v hl
       exact absurd hxk (hno x hx)
   rw [hrun, this]; rfl
 . obtain ⟨a', ha', _, hl⟩ := h3 e0 hm0
   rw [hkey] at ha'
   obtain rfl : a = a' := by injection ha'
   rw [hrun, hl]; rfl
theorem logL_put (l : List (Int × Value)) (a : Int) (v : Value) (a' : Int) : logL ((a, v) :: l) a' = if a = a' then some v else logL l a' := by
 rw [logL]
 by_cases h : a = a'
 . subst h; simp
 . have h2 : (a == a') = false := by simp [h]
   rw [h2, if_neg h]; rfl
theorem MapL.store {w : World} {P : Program} {t k e : TypeId} {b : Nat} {l : List (Int × Value)} (h : MapL w b l) (ht : P.underlying t = some (.map k e)) (hk : P.underlying k = some (.int .i64)) (hn : l.length < maxLen) {a : Int} (ha : (Lit.int .i64 a).wf = true) (v : Value) :
   ∃ o, (Instr.mapUpdate t (.map (some b)) (.int .i64 a) v).run P w = .ok () (setBlock w b o) /\ MapL (setBlock w b o) b ((a, v) :: l) := by
 obtain ⟨es, clock, hb, hs, hm, hst, h3, h4⟩ := h
 have F := MapL.fit (w := w) (b := b) hk hm hst h3
 obtain ⟨es', clock', hrun, F', hput, _, _, hold⟩ := fit_store (R' := allR) (int_keyed hk) ht hb F (by omega) (fun _ _ _ _ hz => hz) (keyOf_int_mk hk ha) (show allR v = some (.nil, []) from rfl)
 have hkeys : ∀ x ∈ es'.toList, ∃ a', x.key = .int .i64 a' /\ (Lit.int .i64 a').wf = true /\ logL ((a, v) :: l) a' = some x.val := fun x hx => by
   rcases hold x hx with ⟨h1, h2⟩ | ⟨h1, h2⟩
   . obtain ⟨a', e1, e2, e3⟩ := h3 x h1
     refine ⟨a', e1, e2, ?_⟩
     rw [logL_put, if_neg (fun hc => h2 (by rw [e1, hc]))]
     exact e3
   . exact ⟨a, h1, ha, by rw [logL_put, if_pos rfl, h2]⟩
 have hrg : ∀ x a', x.key = .int .i64 a' -> (Lit.int .i64 a').wf = true -> rg P k allR x = (.int .i64 a', (.nil : DataW Unit)) := fun x a' hx hw => by
   have : rd P k allR x = some (.int .i64 a', (.nil : DataW Unit)) := by unfold rd; rw [hx, keyOf_int_mk hk hw]; rfl
   exact rg_of this
 have hmem : ∀ a', (Lit.int .i64 a').wf = true -> ((.int .i64 a' : Lit), (.nil : DataW Unit)) ∈ putKey (.int .i64 a) .nil ((es.toList.map (rg P k allR)).foldr DataW.insert []) -> ∃ x ∈ es'.toList, x.key = .int .i64 a' := fun a' hw hp => by
   rw [<- hput, mem_srt] at hp
   obtain ⟨x, hx, hxe⟩ := List.mem_map.mp hp
   obtain ⟨c, c1, c2, _⟩ := hkeys x hx
   rw [hrg x c c1 c2] at hxe
   refine ⟨x, hx, ?_⟩
   rw [c1]
   injection hxe with q1 _
   injection q1 with _ q2
   rw [q2]
 refine ⟨_, hrun, es', clock', heap_setBlock_same hb _, ?_, F'.size, F'.stamped, hkeys, fun a' v' hl => ?_⟩
 . have e1 : es'.size = ((es'.toList.map (rg P k allR)).foldr DataW.insert []).length := by rw [length_sorted]; simp
   rw [e1, hput]
   unfold putKey
   rw [length_insert]
   have e2 := List.length_filter_le (notKey (.int .i64 a)) ((es.toList.map (rg P k allR)).foldr DataW.insert [])
   rw [length_sorted] at e2
   simp at e2
   simp
   omega
 . have hx : ∃ x ∈ es'.toList, x.key = .int .i64 a' := by
     rw [logL_put] at hl
     by_cases hc : a = a'
     . subst hc
       exact hmem a ha (mem_insert_iff.mpr (.inl rfl))
     . rw [if_neg hc] at hl
       obtain ⟨x, hx, hxk, _⟩ := h4 a' v' hl
       obtain ⟨c, c1, c2, _⟩ := h3 x hx
       rw [hxk] at c1
       obtain rfl : a' = c := by injection c1
       refine hmem a' c2 (mem_insert_iff.mpr (.inr (List.mem_filter.mpr ⟨mem_srt.mpr (List.mem_map.mpr ⟨x, hx, hrg x a' hxk c2⟩), ?_⟩)))
       rw [notKey_iff (k := .int .i64 a) ((int_keyed hk).key (keyOf_int_mk hk ha))]
       exact fun hq => hc (by injection hq with _ q; exact q.symm)
   obtain ⟨x, hx, hxk⟩ := hx
   obtain ⟨c, c1, _, c3⟩ := hkeys x hx
   rw [hxk] at c1
   obtain rfl : a' = c := by injection c1
   rw [hl] at c3
   exact ⟨x, hx, hxk, by injection c3 with q; exact q.symm⟩
theorem setBlock_other {w : World} {b : Nat} {l : List (Int × Value)} (h : MapL w b l) (o : Obj) (k : Nat) (hk : k ≠ b) : (setBlock w b o).heap[k]? = w.heap[k]? := by
 obtain ⟨es, clock, hb, _⟩ := h
 exact heap_setBlock_other hb o hk
theorem setBlock_size (w : World) (b : Nat) (o : Obj) : (setBlock w b o).heap.size = w.heap.size := by
 unfold setBlock; simp
noncomputable def logV : List (Value × Value) -> Value -> Option Value
 | [], _ => none
 | (k, v) :: r, a => @ite _ (k = a) (Classical.propDecidable _) (some v) (logV r a)
theorem logV_put (l : List (Value × Value)) (a v a' : Value) : logV ((a, v) :: l) a' = @ite _ (a = a') (Classical.propDecidable _) (some v) (logV l a') := rfl
theorem logV_same (l : List (Value × Value)) (a v : Value) : logV ((a, v) :: l) a = some v := by rw [logV_put, if_pos rfl]
theorem logV_ne (l : List (Value × Value)) {a a' : Value} (v : Value) (h : a ≠ a') : logV ((a, v) :: l) a' = logV l a' := by rw [logV_put, if_neg h]
theorem logV_mem {a v : Value} : ∀ {l : List (Value × Value)}, logV l a = some v -> (a, v) ∈ l
 | [], h => by cases h
 | (k, u) :: r, h => by
   rw [logV_put] at h
   by_cases hk : k = a
   . rw [if_pos hk] at h
     obtain rfl := Option.some.inj h
     rw [hk]; exact List.mem_cons_self
   . rw [if_neg hk] at h
     exact List.mem_cons_of_mem _ (logV_mem h)
def KeysIn (P : Program) (k : TypeId) (ks : List Value) : Prop := Keyed P k /\ ∀ a ∈ ks, ∃ l, keyOf P k a = some l
def MapV (w : World) (b : Nat) (l : List (Value × Value)) : Prop :=
 ∃ es clock, w.heap[b]? = some (.map es clock) /\ es.size <= l.length /\ es.size <= maxLen /\ Stamped es clock /\ (∀ x ∈ es.toList, logV l x.key = some x.val) /\
   ∀ a v, logV l a = some v -> ∃ x ∈ es.toList, x.key = a /\ x.val = v
theorem MapV.of_heap {w w' : World} {b : Nat} {l : List (Value × Value)} (h : MapV w b l) (he : w'.heap[b]? = w.heap[b]?) : MapV w' b l := by
 obtain ⟨es, clock, hb, r⟩ := h
 exact ⟨es, clock, he.trans hb, r⟩
theorem MapV.lt {w : World} {b : Nat} {l : List (Value × Value)} (h : MapV w b l) : b < w.heap.size := by
 obtain ⟨es, clock, hb, _⟩ := h
 exact (Array.getElem?_eq_some_iff.1 hb).1
theorem MapV.not_cells {w : World} {b : Nat} {l : List (Value × Value)} (h : MapV w b l) (cs : Array Value) (e : TypeId) (fz : Nat × Nat) : w.heap[b]? ≠ some (.cells cs e fz) := fun hc => by
 obtain ⟨es, clock, hb, _⟩ := h
 rw [hb] at hc; cases hc
theorem MapV_made (w : World) : MapV (w.alloc (.map #[] 0)) w.heap.size [] :=
 ⟨#[], 0, (MapKept.heap_alloc w _).1, Nat.le_refl _, by simp, stamped_empty 0, by simp, fun a v h => by cases h⟩
theorem MapV.fit {P : Program} {k : TypeId} {l : List (Value × Value)} (hk : KeysIn P k (l.map Prod.fst)) {es : Array MapEntry} {clock : Nat} (h1 : es.size <= maxLen) (h2 : Stamped es clock) (h3 : ∀ x ∈ es.toList, logV l x.key = some x.val) : Fit P k allR es clock :=
 ⟨h1, h2, fun x hx => by
   obtain ⟨lt, hl⟩ := hk.2 x.key (List.mem_map.mpr ⟨_, logV_mem (h3 x hx), rfl⟩)
   exact ⟨_, by unfold rd; rw [hl]; rfl⟩⟩
theorem MapV.look {w : World} {P : Program} {t k e : TypeId} {b : Nat} {l : List (Value × Value)} (h : MapV w b l) (ht : P.underlying t = some (.map k e)) {z : Value} (hz : (zeroValue e).run P w = .ok z w) {a : Value} (hk : KeysIn P k (a :: l.map Prod.fst)) (c : Bool) :
   (Instr.lookup t (.map (some b)) a c).run P w = .ok (if c then .tuple #[(logV l a).getD z, .bool (logV l a).isSome] else (logV l a).getD z) w := by
 obtain ⟨es, clock, hb, hs, hm, hst, h3, h4⟩ := h
 obtain ⟨la, hla⟩ := hk.2 a List.mem_cons_self
 have hk' : KeysIn P k (l.map Prod.fst) := ⟨hk.1, fun x hx => hk.2 x (List.mem_cons_of_mem _ hx)⟩
 rcases fit_look c hk.1 ht hz hb (MapV.fit hk' hm hst h3) hla with ⟨hrun, hno, _⟩ | ⟨e0, y, hm0, hkey, hrun, _⟩
 . have : logV l a = none := by
     cases hl : logV l a with
     | none => rfl
     | some v =>
       obtain ⟨x, hx, hxk, _⟩ := h4 a v hl
       exact absurd hxk (hno x hx)
   rw [hrun, this]; rfl
 . have hl := h3 e0 hm0
   rw [hkey] at hl
   rw [hrun, hl]; rfl
theorem MapV.store {w : World} {P : Program} {t k e : TypeId} {b : Nat} {l : List (Value × Value)} (h : MapV w b l) (ht : P.underlying t = some (.map k e)) (hn : l.length < maxLen) {a : Value} (hk : KeysIn P k (a :: l.map Prod.fst)) (v : Value) :
   ∃ o, (Instr.mapUpdate t (.map (some b)) a v).run P w = .ok () (setBlock w b o) /\ MapV (setBlock w b o) b ((a, v) :: l) := by
 obtain ⟨es, clock, hb, hs, hm, hst, h3, h4⟩ := h
 obtain ⟨la, hla⟩ := hk.2 a List.mem_cons_self
 have hk' : KeysIn P k (l.map Prod.fst) := ⟨hk.1, fun x hx => hk.2 x (List.mem_cons_of_mem _ hx)⟩
 have F := MapV.fit hk' hm hst h3
 obtain ⟨es', clock', hrun, F', hput, _, _, hold⟩ := fit_store (R' := allR) hk.1 ht hb F (by omega) (fun _ _ _ _ hz => hz) hla (show allR v = some (.nil, []) from rfl)
 have hkeys : ∀ x ∈ es'.toList, logV ((a, v) :: l) x.key = some x.val := fun x hx => by
   rcases hold x hx with ⟨h1, h2⟩ | ⟨h1, h2⟩
   . rw [logV_ne l v (fun hc => h2 hc.symm)]
     exact h3 x h1
   . rw [h1, h2, logV_same]
 have hrg : ∀ (x : MapEntry) lx, keyOf P k x.key = some lx -> rg P k allR x = (lx, (.nil : DataW Unit)) := fun x lx hx => by
   have : rd P k allR x = some (lx, (.nil : DataW Unit)) := by unfold rd; rw [hx]; rfl
   exact rg_of this
 have hin : ∀ x ∈ es'.toList, ∃ lx, keyOf P k x.key = some lx := fun x hx => hk.2 x.key (show x.key ∈ ((a, v) :: l).map Prod.fst from List.mem_map.mpr ⟨_, logV_mem (hkeys x hx), rfl⟩)
 have hmem : ∀ a' lx, keyOf P k a' = some lx -> (lx, (.nil : DataW Unit)) ∈ putKey la .nil ((es.toList.map (rg P k allR)).foldr DataW.insert []) -> ∃ x ∈ es'.toList, x.key = a' := fun a' lx hw hp => by
   rw [<- hput, mem_srt] at hp
   obtain ⟨x, hx, hxe⟩ := List.mem_map.mp hp
   obtain ⟨c, c1⟩ := hin x hx
   rw [hrg x c c1] at hxe
   refine ⟨x, hx, hk.1.inj (l := lx) ?_ hw⟩
   rw [c1]
   exact congrArg some (congrArg Prod.fst hxe)
 refine ⟨_, hrun, es', clock', heap_setBlock_same hb _, ?_, F'.size, F'.stamped, hkeys, fun a' v' hl => ?_⟩
 . have e1 : es'.size = ((es'.toList.map (rg P k allR)).foldr DataW.insert []).length := by rw [length_sorted]; simp
   rw [e1, hput]
   unfold putKey
   rw [length_insert]
   have e2 := List.length_filter_le (notKey la) ((es.toList.map (rg P k allR)).foldr DataW.insert [])
   rw [length_sorted] at e2
   simp at e2
   simp
   omega
 . have hx : ∃ x ∈ es'.toList, x.key = a' := by
     by_cases hc : a = a'
     . subst hc
       exact hmem a la hla (mem_insert_iff.mpr (.inl rfl))
     . rw [logV_ne l v hc] at hl
       obtain ⟨x, hx, hxk, _⟩ := h4 a' v' hl
       obtain ⟨lx, hlx⟩ := hk.2 a' (List.mem_cons_of_mem _ (List.mem_map.mpr ⟨_, logV_mem hl, rfl⟩))
       refine hmem a' lx hlx (mem_insert_iff.mpr (.inr (List.mem_filter.mpr ⟨mem_srt.mpr (List.mem_map.mpr ⟨x, hx, hrg x lx (by rw [hxk]; exact hlx)⟩), ?_⟩)))
       rw [notKey_iff (k := la) (hk.1.key hla)]
       exact fun hq => hc (hk.1.inj (l := la) hla (by
         have hq : lx = la := hq
         rw [<- hq]; exact hlx))
   obtain ⟨x, hx, hxk⟩ := hx
   have c3 := hkeys x hx
   rw [hxk, hl] at c3
   exact ⟨x, hx, hxk, (Option.some.inj c3).symm⟩
theorem setBlock_otherV {w : World} {b : Nat} {l : List (Value × Value)} (h : MapV w b l) (o : Obj) (k : Nat) (hk : k ≠ b) : (setBlock w b o).heap[k]? = w.heap[k]? := by
 obtain ⟨es, clock, hb, _⟩ := h
 exact heap_setBlock_other hb o hk
end Go.Proofs.Ytmaffamhjmlonaa.S2
