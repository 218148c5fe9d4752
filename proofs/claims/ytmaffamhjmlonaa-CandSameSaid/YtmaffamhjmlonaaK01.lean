/- Sim, SimOk, SimCalls. -/
import Derived.WalkKit
import Derived.Below
import Derived.LoopN
import Derived.Laws.Rows
import Derived.Deep.Quiet
import Derived.Laws.StructEq
set_option linter.unusedVariables false
set_option linter.unusedSimpArgs false
namespace Go.Proofs.Ytmaffamhjmlonaa
theorem qS {α : Type _} (a b : α) : (some a = some b) = (a = b) := Option.some.injEq a b
theorem qP {α : Type _} {β : Type _} (a : α) (b : β) (c : α) (d : β) : ((a, b) = (c, d)) = (a = c /\ b = d) := Prod.mk.injEq a b c d
theorem qN (n : Nat) : (n : Int).toNat = n := Int.toNat_natCast n
theorem qB {n m : Nat} (h : Nat.beq n m = true) : n = m := Nat.eq_of_beq_eq_true h
end Go.Proofs.Ytmaffamhjmlonaa
namespace Go.Proofs.Ytmaffamhjmlonaa.Sim
open Go Go.RowKit
def evalPure {α : Type} (P : Program) : Sem α -> Option α
 | .pure a => some a
 | .program k => evalPure P (k P)
 | .mark _ k => evalPure P k
 | _ => none
theorem evalPure_run {α : Type} {P : Program} (s : Sem α) : ∀ {a : α}, evalPure P s = some a -> ∀ w, s.run P w = .ok a w := by
 induction s with
 | pure a => intro b h w; simp [evalPure] at h; subst h; rfl
 | program k ih => intro b h w; exact ih P h w
 | mark m k ih => intro b h w; exact ih h w
 | _ => intro b h; simp [evalPure] at h
abbrev SV := Sum (List Bool × Value) (Nat × Nat × Option (Nat × Nat))
def conc (loc : Nat -> Nat) : SV -> Value
 | .inl (_, x) => x
 | .inr (i, off, none) => .pointer (some ⟨loc i, off, none⟩)
 | .inr (i, off, some (len, cap)) => .slice (some ⟨loc i, off, none⟩) len cap
def okV (n : Nat) : SV -> Prop
 | .inl (_, _) => True
 | .inr (i, _, none) => i < n
 | .inr (i, _, some (_, _)) => i < n
structure Blk where
 cells : List Value
 elem : TypeId
 fl : List Bool
def cut (fl : List Bool) (off : Nat) : Nat -> List Bool
 | 0 => []
 | n + 1 => (fl[off]?).getD false :: cut fl (off + 1) n
def anyF : List Bool -> Bool
 | [] => false
 | b :: r => b || anyF r
structure St where
 tmps : List (Nat × SV)
 own : List Blk
 lo : Nat
 mem : Bool
 orc : List Bool
 obl : List (Bool × Bool)
structure Env where
 P : Program
 glob : Nat -> Option (List Value)
 call : FuncId -> Array Value -> Option Value
 /-- Calls that answer so under a condition: the condition is asked of the user. -/
 pcall : FuncId -> List Value -> Option (Value × Bool) := fun _ _ => none
def look : List (Nat × SV) -> Nat -> SV
 | [], _ => .inl ([], undef)
 | (d, x) :: r, t => bif Nat.beq d t then x else look r t
def aggD : TypeDesc -> Bool
 | .struct _ | .array _ _ => true
 | _ => false
def loadB (P : Program) (t : TypeId) (cs : List Value) (off : Nat) : Option Value :=
 match P.underlying t, P.info? t with
 | some d, some i =>
   bif aggD d then (bif Nat.ble (off + i.size) cs.length then some (.agg ((cs.drop off).take i.size).toArray) else none)
   else cs[off]?
 | _, _ => none
def putL : List Value -> Nat -> List Value -> List Value
 | c, _, [] => c
 | c, o, v :: r => putL (c.set o v) (o + 1) r
def putQ (c : List Value) (o : Nat) (vs : List Value) : List Value := bif Nat.beq o 0 && Nat.beq vs.length c.length then vs else putL c o vs
def storeB (P : Program) (t : TypeId) (cs : List Value) (off : Nat) (v : Value) : Option (List Value) :=
 match P.info? t with
 | some i => bif Nat.beq v.cells.toList.length i.size && Nat.ble (off + i.size) cs.length && v.cells.toList.all Value.oneCell' then some (putQ cs off v.cells.toList) else none
 | none => none
def fieldB (P : Program) (t : TypeId) (f off : Nat) : Option Nat :=
 match P.underlying t with
 | some (.struct fs) => match fs[f]? with
   | some fl => match P.info? fl.type with
     | some i => bif Nat.beq i.size 0 then none else some (off + fl.offset)
     | none => none
   | none => none
 | _ => none
def elemB (P : Program) (e : TypeId) (len off : Nat) (n : Int) : Option Nat :=
 match P.info? e with
 | some i => bif decide (0 <= n /\ n < (len : Int)) then some (off + n.toNat * i.size) else none
 | none => none
def litB (P : Program) (t : TypeId) (len : Nat) (parts : List (Nat × Value)) : Option (List Value × TypeId) :=
 match P.underlying t with
 | some (.slice e) => match P.info? e with
   | some i => match i.zero with
     | some z => bif Nat.beq (len * i.size) 0 || Nat.blt (2 ^ 24) (len * i.size) then (match len, parts with
       | 0, [] => some ([], e)
       | _, _ => none) else
       (match Instr.fill (fun k => some (k * i.size, i.size)) ((Array.range (len * i.size)).map fun k => z.cells[k % z.cells.size]!) parts with
       | some cells => some (cells.toList, e)
       | none => none)
     | none => none
   | none => none
 | _ => none
def notSel : Op -> Bool
 | .select _ _ => false
 | _ => true
def fieldF (P : Program) (t : TypeId) (f : Nat) (fl : List Bool) : List Bool :=
 match P.underlying t with
 | some (.struct fs) => match fs[f]? with
   | some fl' => cut fl fl'.offset (P.cellsOf fl'.type)
   | none => []
 | _ => []
def cmpI : BinOp -> Int -> Int -> Option Bool
 | .eql, a, b => some (a == b)
 | .neq, a, b => some (a != b)
 | .lss, a, b => some (decide (a < b))
 | .leq, a, b => some (decide (a <= b))
 | .gtr, a, b => some (decide (a > b))
 | .geq, a, b => some (decide (a >= b))
 | _, _, _ => none
def eqFs (P : Program) (rec : TypeId -> Value -> Value -> Option Bool) (xs ys : Array Value) : List Field -> Option Bool
 | [] => some true
 | f :: r => bif f.name == "_" then none else (match evalPure P (part f.type xs f.offset), evalPure P (part f.type ys f.offset) with
   | some a, some b => match rec f.type a b with
     | some e => match eqFs P rec xs ys r with
       | some q => some (e && q)
       | none => none
     | none => none
   | _, _ => none)
def eqB (P : Program) : Nat -> TypeId -> Value -> Value -> Option Bool
 | 0, _, _, _ => none
 | n + 1, t, x, y => match P.underlying t, x, y with
   | some .bool, .bool a, .bool b => some (a == b)
   | some (.int _), .int k a, .int j b => bif decide (k = j) then some (a == b) else none
   | some .string, .string a, .string b => some (a.toList == b.toList)
   | some (.struct fs), .agg xs, .agg ys => bif P.stoodInHeld t then none else eqFs P (eqB P n) xs ys fs.toList
   | _, _, _ => none
def eqTop (P : Program) (op : BinOp) (t : TypeId) (x y : Value) : Option Bool :=
 bif P.eqGuardType P.depth t then none else match op with
   | .eql => eqB P 20 t x y
   | .neq => (match eqB P 20 t x y with
     | some b => some (!b)
     | none => none)
   | _ => none
def ask (s : St) (fl : List Bool) (b : Bool) : Bool × St :=
 bif anyF fl then (match s.orc with
   | [] => (b, s)
   | t :: r => (t, { s with orc := r, obl := (b, t) :: s.obl }))
 else (b, s)
def know (s : St) (d : Nat) (b : Bool) : St := { s with tmps := (d, .inl ([], (.bool b))) :: s.tmps }
abbrev X := Option (Option Nat)
def X.toExit : X -> Exit
 | none => .normal
 | some none => .ret
 | some (some i) => .exit i
end Go.Proofs.Ytmaffamhjmlonaa.Sim
namespace Go.Proofs.Ytmaffamhjmlonaa.Sim
open Go Go.RowKit
def Agree (n : Nat) (loc loc' : Nat -> Nat) : Prop := ∀ i, i < n -> loc i = loc' i
theorem Agree.refl (n : Nat) (loc : Nat -> Nat) : Agree n loc loc := fun _ _ => rfl
theorem Agree.trans {n m : Nat} {a b c : Nat -> Nat} (h : Agree n a b) (k : Agree m b c) (hl : n <= m) : Agree n a c := fun i hi => (h i hi).trans (k i (by omega))
theorem conc_congr {loc loc' : Nat -> Nat} {n : Nat} {x : SV} (h : okV n x) (hl : Agree n loc loc') : conc loc x = conc loc' x := by
 rcases x with ⟨fl, x⟩ | ⟨i, off, _ | ⟨len, cap⟩⟩
 . rfl
 . simp [conc, hl i h]
 . simp [conc, hl i h]
theorem okV.mono {n m : Nat} {x : SV} (h : okV n x) (hl : n <= m) : okV m x := by
 rcases x with ⟨fl, x⟩ | ⟨i, off, _ | ⟨len, cap⟩⟩
 . trivial
 . exact Nat.lt_of_lt_of_le h hl
 . exact Nat.lt_of_lt_of_le h hl
theorem look_ok {n : Nat} : ∀ {l : List (Nat × SV)} {t : Nat}, (∀ p ∈ l, okV n p.2) -> okV n (look l t)
 | [], _, _ => trivial
 | (d, x) :: r, t, h => by
   unfold look
   cases hb : Nat.beq d t
   . exact look_ok fun p hp => h p (List.mem_cons_of_mem _ hp)
   . exact h (d, x) (List.mem_cons_self)
structure WR (w0 : World) (loc : Nat -> Nat) (own : List Blk) (mem : Bool) (w : World) : Prop where
 below : Below w0.heap.size w0 w
 blk : ∀ i b, own[i]? = some b -> w.heap[loc i]? = some (.cells b.cells.toArray b.elem (0, 0)) /\ w0.heap.size <= loc i
 inj : ∀ i j, i < own.length -> j < own.length -> loc i = loc j -> i = j
 same : mem = false -> w = w0
structure TR (n : Nat) (loc : Nat -> Nat) (s : St) (a : Act) : Prop where
 size : a.tmps.size = n
 tm : ∀ t, a.tmps.getD t undef = conc loc (look s.tmps t)
 df : a.defers = []
structure Good (s : St) : Prop where
 lo : s.lo <= s.own.length
 ok : ∀ p ∈ s.tmps, okV s.own.length p.2
def Holds' (s : St) : Prop := ∀ p ∈ s.obl, p.1 = p.2
def exactL : List Value -> Bool
 | .int .u64 _ :: _ => true
 | _ => false
def GlobW (gl : Nat -> Option (List Value)) (w : World) : Prop := ∀ g cs, gl g = some cs -> (∀ (i : Nat) v, cs[i]? = some v -> w.cell? ⟨g, i, none⟩ = some v) /\ (exactL cs = true -> ∀ i : Nat, w.cell? ⟨g, i, none⟩ = cs[i]?)
abbrev Glob (E : Env) (w : World) : Prop := GlobW E.glob w
def CallOk (E : Env) : Prop := (∀ f args v, E.call f args = some v -> ∀ w, Glob E w -> Calls E.P f args w fun e w' => e = .returned v /\ Below w.heap.size w w') /\
 ∀ f args v, E.pcall f args = some (v, true) -> ∀ w, Glob E w -> Calls E.P f args.toArray w fun e w' => e = .returned v /\ Below w.heap.size w w'
theorem lt_of_some {α : Type} {a : Array α} {i : Nat} {x : α} (h : a[i]? = some x) : i < a.size := by
 rcases Nat.lt_or_ge i a.size with h' | h'
 . exact h'
 . rw [Array.getElem?_eq_none h'] at h; cases h
theorem lt_of_some_list {α : Type} {a : List α} {i : Nat} {x : α} (h : a[i]? = some x) : i < a.length := by
 rcases Nat.lt_or_ge i a.length with h' | h'
 . exact h'
 . rw [List.getElem?_eq_none h'] at h; cases h
theorem GlobW.below {gl : Nat -> Option (List Value)} {w w' : World} (h : GlobW gl w) (hb : Below w.heap.size w w') : GlobW gl w' := fun g cs hg => by
 obtain ⟨k1, k2⟩ := h g cs hg
 refine ⟨fun i v hv => ?_, fun he i => ?_⟩
 . have h0 := k1 i v hv
   rw [hb.cell (p := ⟨g, i, none⟩) (block_lt_of_cell h0)]; exact h0
 . cases cs with
   | nil => cases he
   | cons v r =>
     have h0 := k1 0 v rfl
     rw [hb.cell (p := ⟨g, i, none⟩) (show g < w.heap.size from block_lt_of_cell h0)]; exact k2 he i
theorem WR.mem {w0 : World} {loc : Nat -> Nat} {own : List Blk} {mem : Bool} {w : World} (h : WR w0 loc own mem w) : WR w0 loc own true w :=
 ⟨h.below, h.blk, h.inj, fun h => by cases h⟩
theorem WR.restrict {w0 : World} {loc loc' : Nat -> Nat} {own own' : List Blk} {mem : Bool} {w : World} (h : WR w0 loc' own' mem w) (ha : Agree own.length loc loc') (hl : own.length <= own'.length) (hk : ∀ i, i < own.length -> own'[i]? = own[i]?) : WR w0 loc own true w :=
 ⟨h.below, fun i b hi => by
   have hlt := lt_of_some_list hi
   rw [ha i hlt]
   exact h.blk i b (by rw [hk i hlt]; exact hi), fun i j hi hj he => h.inj i j (by omega) (by omega) (by rw [<- ha i hi, <- ha j hj]; exact he), fun h => by cases h⟩
theorem add_plain (g off n : Nat) : (⟨g, off, none⟩ : Addr).add n = ⟨g, off + n, none⟩ := by
 unfold Addr.add
 by_cases h : n = 0
 . subst h; simp
 . simp [h]
theorem run_loadB {P : Program} {t : TypeId} {cs : List Value} {off g : Nat} {v : Value} (h : loadB P t cs off = some v) (w : World)
   (hc : ∀ (i : Nat) u, cs[i]? = some u -> w.cell? ⟨g, i, none⟩ = some u) : (loadVar t ⟨g, off, none⟩).run P w = .ok v w := by
 unfold loadB at h
 cases hu : P.underlying t with
 | none => simp [hu] at h
 | some d =>
   cases hi : P.info? t with
   | none => simp [hu, hi] at h
   | some i =>
     simp only [hu, hi] at h
     have hagg : (isAgg t).run P w = .ok (aggD d) w := by
       unfold isAgg
       rw [Sem.run_bind, run_underlying hu w]
       cases d <;> rfl
     cases hd : aggD d
     . rw [hd] at h
       simp only [cond_false] at h
       have h0 := hc off v h
       simp only [loadVar, Sem.run_bind, hagg, hd, Result.andThen_ok, Bool.false_eq_true, if_false, run_load, h0]
     . rw [hd] at h
       simp only [cond_true] at h
       cases hb : Nat.ble (off + i.size) cs.length
       . rw [hb] at h; cases h
       . rw [hb] at h
         simp only [cond_true, qS] at h
         have hle : off + i.size <= cs.length := Nat.le_of_ble_eq_true hb
         have hl : ((cs.drop off).take i.size).length = i.size := by simp; omega
         have hrun := run_loadCells_list (P := P) w ⟨g, off, none⟩ ((cs.drop off).take i.size) (fun j u hj => by
           rw [add_plain]
           refine hc _ _ ?_
           rw [List.getElem?_take] at hj
           split at hj
           . rw [List.getElem?_drop] at hj; exact hj
           . cases hj)
         rw [hl] at hrun
         simp only [loadVar, Sem.run_bind, hagg, hd, Result.andThen_ok, if_true, sizeOf, typeInfo, run_program, hi, Sem.run_pure, hrun, h]
theorem cells_of_blk {w : World} {g : Nat} {cs : List Value} {e : TypeId} (h : w.heap[g]? = some (.cells cs.toArray e (0, 0))) : ∀ (i : Nat) u, cs[i]? = some u -> w.cell? ⟨g, i, none⟩ = some u := fun i u hu => by
 rw [cell_of_row w g i _ _ _ h]; simpa using hu
theorem putL_len : ∀ (vs : List Value) (c : List Value) (o : Nat), (putL c o vs).length = c.length
 | [], _, _ => rfl
 | v :: r, c, o => by unfold putL; rw [putL_len r]; simp
theorem putL_at : ∀ (vs c d : List Value), vs.length = d.length -> putL (c ++ d) c.length vs = c ++ vs
 | [], c, [], _ => rfl
 | v :: r, c, [], h => by simp at h
 | [], c, _ :: _, h => by simp at h
 | v :: r, c, x :: d, h => by
   unfold putL
   have e : (c ++ x :: d).set c.length v = (c ++ [v]) ++ d := by simp
   rw [e]
   have := putL_at r (c ++ [v]) d (by simpa using h)
   rw [List.length_append] at this
   rw [show c.length + 1 = c.length + [v].length from rfl, this]; simp
theorem putQ_eq (c : List Value) (o : Nat) (vs : List Value) : putQ c o vs = putL c o vs := by
 unfold putQ
 cases hb : (Nat.beq o 0 && Nat.beq vs.length c.length)
 . rfl
 . simp only [Bool.and_eq_true] at hb
   have h0 := qB hb.1
   subst h0
   exact (putL_at vs [] c (qB hb.2)).symm
theorem run_storeCells {P : Program} {g : Nat} {e : TypeId} (off : Nat) : ∀ (vs : List Value) (i : Nat) (c : List Value) (w : World), w.heap[g]? = some (.cells c.toArray e (0, 0)) -> off + i + vs.length <= c.length -> vs.all Value.oneCell' = true ->
   ∃ w', (storeCells ⟨g, off, none⟩ vs i).run P w = .ok () w' /\ w'.heap[g]? = some (.cells (putL c (off + i) vs).toArray e (0, 0)) /\ (∀ k, k ≠ g -> w'.heap[k]? = w.heap[k]?) /\ w'.heap.size = w.heap.size /\ w'.os = w.os /\ w'.tape = w.tape /\ w'.output = w.output
 | [], i, c, w, hg, _, _ => ⟨w, rfl, hg, fun _ _ => rfl, rfl, rfl, rfl, rfl⟩
 | v :: r, i, c, w, hg, hl, hv => by
   simp only [List.all_cons, Bool.and_eq_true] at hv
   simp only [List.length_cons] at hl
   have hlt : off + i < c.length := by omega
   have hc : w.cell? ⟨g, off + i, none⟩ = some c[off + i] := by
     rw [cell_of_row w g _ _ _ _ hg]; simp [hlt]
   have hf : w.frozen? ⟨g, off + i, none⟩ = false := frozen_of_row w g _ _ _ hg
   have hg1 : (w.setCell ⟨g, off + i, none⟩ v).heap[g]? = some (.cells (c.set (off + i) v).toArray e (0, 0)) := by
     rw [heap_setCell_same w g _ _ _ v hg]; simp
   obtain ⟨w', h1, h2, h3, h4, h5, h6, h7⟩ := run_storeCells (P := P) off r (i + 1) (c.set (off + i) v) (w.setCell ⟨g, off + i, none⟩ v) hg1 (by simp; omega) hv.2
   refine ⟨w', ?_, h2, fun k hk => (h3 k hk).trans (heap_setCell_other w _ k v hk), h4.trans (World.size_setCell ..), h5, h6, h7⟩
   unfold storeCells
   rw [Sem.run_bind, add_plain, run_store P w _ v .plain hv.1]
   simp only [hc, hf, Bool.false_eq_true, if_false, Result.andThen_ok]
   exact h1
theorem run_storeB {P : Program} {t : TypeId} {cs cs' : List Value} {off g : Nat} {e : TypeId} {v : Value} (h : storeB P t cs off v = some cs') (w : World) (hg : w.heap[g]? = some (.cells cs.toArray e (0, 0))) :
   ∃ w', (storeVar t ⟨g, off, none⟩ v).run P w = .ok () w' /\ w'.heap[g]? = some (.cells cs'.toArray e (0, 0)) /\ (∀ k, k ≠ g -> w'.heap[k]? = w.heap[k]?) /\ w'.heap.size = w.heap.size /\ w'.os = w.os /\ w'.tape = w.tape /\ w'.output = w.output := by
 unfold storeB at h
 cases hi : P.info? t with
 | none => simp [hi] at h
 | some i =>
   simp only [hi] at h
   cases hb : (Nat.beq v.cells.toList.length i.size && Nat.ble (off + i.size) cs.length && v.cells.toList.all Value.oneCell')
   . rw [hb] at h; cases h
   . rw [hb] at h
     simp only [cond_true, qS] at h
     simp only [Bool.and_eq_true] at hb
     obtain ⟨⟨h1, h2⟩, h3⟩ := hb
     have h1 : v.cells.toList.length = i.size := qB h1
     have h2 := Nat.le_of_ble_eq_true h2
     have hs : v.cells.size = i.size := by simpa using h1
     obtain ⟨w', r1, r2, r3⟩ := run_storeCells (P := P) off v.cells.toList 0 cs w hg (by rw [h1]; omega) h3
     rw [Nat.add_zero, <- putQ_eq, h] at r2
     refine ⟨w', ?_, r2, r3⟩
     simp only [storeVar, Sem.run_bind, sizeOf, typeInfo, run_program, hi, Sem.run_pure, Result.andThen_ok, hs, ne_eq, not_true_eq_false, if_false]
     exact r1
theorem run_fieldB {P : Program} {t : TypeId} {f off off' g : Nat} (h : fieldB P t f off = some off') (w : World) : (Instr.fieldAt t (.pointer (some ⟨g, off, none⟩)) f).run P w = .ok (.pointer (some ⟨g, off', none⟩)) w := by
 unfold fieldB at h
 split at h
 . rename_i fs hu
   split at h
   . rename_i fl hf
     split at h
     . rename_i i hi
       cases hb : Nat.beq i.size 0
       . rw [hb] at h
         simp only [cond_false, qS] at h
         have hne : ¬ i.size = 0 := fun e => by rw [e] at hb; cases hb
         simp only [Instr.fieldAt, Sem.run_bind, run_underlying hu, Result.andThen_ok, hf, Instr.sureAddr, Sem.run_pure, fieldPlace, sizeOf, typeInfo, run_program, hi, hne, if_false, add_plain, h]
       . rw [hb] at h; cases h
     . cases h
   . cases h
 . cases h
theorem run_elemB {P : Program} {t e : TypeId} {len off off' g : Nat} {k : IntKind} {n : Int} (h : elemB P e len off n = some off') (w : World) :
   (P.underlying t = some (.array len e) -> (Instr.indexAt t (.pointer (some ⟨g, off, none⟩)) (.int k n)).run P w = .ok (.pointer (some ⟨g, off', none⟩)) w) /\
   (P.underlying t = some (.slice e) -> ∀ cap, (Instr.indexAt t (.slice (some ⟨g, off, none⟩) len cap) (.int k n)).run P w = .ok (.pointer (some ⟨g, off', none⟩)) w) := by
 unfold elemB at h
 split at h
 . rename_i i hi
   cases hb : decide (0 <= n /\ n < (len : Int))
   . rw [hb] at h; cases h
   . rw [hb] at h
     simp only [cond_true, qS] at h
     have hb := of_decide_eq_true hb
     have hs : (sizeOf e).run P w = .ok i.size w := by simp [sizeOf, typeInfo, hi]
     refine ⟨fun hu => ?_, fun hu cap => ?_⟩
     . simp only [Instr.indexAt, asIntOf, Sem.run_bind, Sem.run_pure, Result.andThen_ok, run_underlying hu, Instr.sureAddr, hb, and_self, if_true, hs, add_plain, h]
     . simp only [Instr.indexAt, asIntOf, Sem.run_bind, Sem.run_pure, Result.andThen_ok, run_underlying hu, hb, and_self, if_true, hs, add_plain, h]
 . cases h
theorem run_litB {P : Program} {t e : TypeId} {len : Nat} {parts : List (Nat × Value)} {cells : List Value} (h : litB P t len parts = some (cells, e)) (w : World) :
   (Instr.buildSlice t len parts.toArray).run P w = .ok (.slice (some ⟨w.heap.size, 0, none⟩) len len) (w.alloc (.cells cells.toArray e)) := by
 unfold litB at h
 split at h
 . rename_i e' hu
   split at h
   . rename_i i hi
     split at h
     . rename_i z hz
       cases hb : (Nat.beq (len * i.size) 0 || Nat.blt (2 ^ 24) (len * i.size))
       . rw [hb] at h
         simp only [cond_false] at h
         split at h
         . rename_i cs hf
           simp only [qS, qP] at h
           obtain ⟨rfl, rfl⟩ := h
           simp only [Bool.or_eq_false_iff] at hb
           have h0 : ¬ len * i.size = 0 := fun e => by rw [e] at hb; exact absurd hb.1 (by decide)
           have h1 : ¬ len * i.size > 2 ^ 24 := fun e => by
             have := hb.2
             rw [Nat.blt_eq.mpr e] at this
             cases this
           simp only [Instr.buildSlice, Sem.run_bind, run_underlying hu, Result.andThen_ok, sizeOf, typeInfo, run_program, hi, Sem.run_pure, h1, if_false, h0, zeroValue, hz, hf, newRow, run_newObj, World.alloc_eq, Array.toArray_toList]
         . cases h
       . rw [hb] at h
         simp only [cond_true] at h
         split at h
         . simp only [qS, qP] at h
           obtain ⟨rfl, rfl⟩ := h
           simp [Instr.buildSlice, run_underlying hu, Result.andThen_ok, sizeOf, typeInfo, run_program, hi, newRow, Instr.fill]
           rw [show (Array.map (fun _ : Nat => (default : Value)) (Array.range 0)) = #[] from Array.eq_empty_of_size_eq_zero (by rw [Array.size_map, Array.size_range])]
         . cases h
     . cases h
   . cases h
 . cases h
theorem eqFs_ok {P : Program} {rec : TypeId -> Value -> Value -> Option Bool} {D : Nat} (hrec : ∀ t x y b, rec t x y = some b -> ∀ w, (Op.equalIn D t x y).run P w = .ok b w) (xs ys : Array Value) : ∀ (fs : List Field) (b : Bool), eqFs P rec xs ys fs = some b -> ∀ w, (Op.eqFields D xs ys fs).run P w = .ok b w
 | [], b, h, w => by simp [eqFs] at h; subst h; simp [Op.eqFields]
 | f :: r, b, h, w => by
   unfold eqFs at h
   cases hn : (f.name == "_")
   . rw [hn] at h
     simp only [cond_false] at h
     have hn' : ¬ f.name = "_" := by intro e; rw [e] at hn; simp at hn
     split at h
     . rename_i a b' ha hb
       split at h
       . rename_i e he
         split at h
         . rename_i q hq
           simp only [qS] at h
           subst h
           have h1 := hrec _ _ _ _ he w
           have h2 := eqFs_ok hrec xs ys r q hq w
           simp only [Op.eqFields, hn', ne_eq, not_false_eq_true, if_true, Sem.run_bind, evalPure_run _ ha w, evalPure_run _ hb w, h1, Result.andThen_ok]
           cases e <;> simp [h2]
         . cases h
       . cases h
     . cases h
   . rw [hn] at h; cases h
theorem eqB_ok {P : Program} : ∀ (n : Nat) (t : TypeId) (x y : Value) (b : Bool), eqB P n t x y = some b -> ∀ (D : Nat), n <= D -> ∀ w, (Op.equalIn D t x y).run P w = .ok b w
 | 0, _, _, _, _, h, _, _, _ => by simp [eqB] at h
 | n + 1, t, x, y, b, h, D, hD, w => by
   obtain ⟨d, rfl⟩ : ∃ d, D = d + 1 := ⟨D - 1, by omega⟩
   unfold eqB at h
   split at h
   . rename_i a c hu
     simp only [qS] at h
     subst h
     exact run_equalIn_bool w d t a c hu
   . rename_i k' k a j c hu
     cases hk : decide (k = j)
     . rw [hk] at h; cases h
     . rw [hk] at h
       simp only [cond_true, qS] at h
       have := of_decide_eq_true hk
       subst this h
       exact run_equalIn_int w d t k k' a c hu
   . rename_i a c hu
     simp only [qS] at h
     subst h
     exact run_equalIn_string w d t a c hu
   . rename_i fs xs ys hu
     cases hs : P.stoodInHeld t
     . rw [hs] at h
       simp only [cond_false] at h
       have hf : P.fieldsOf t = fs := by simp [Program.fieldsOf, hu]
       rw [run_equalIn_struct w d t xs ys (by rw [hf]; exact hu) hs, hf]
       exact eqFs_ok (fun t x y b hb w => eqB_ok n t x y b hb d (by omega) w) xs ys fs.toList b h w
     . rw [hs] at h; cases h
   . cases h
theorem eqTop_ok {P : Program} {op : BinOp} {t : TypeId} {xs ys : Array Value} {r : Bool} (h : eqTop P op t (.agg xs) (.agg ys) = some r) (x y : Operand) (w : World) :
   (do eqGuard op t x y (.agg xs) (.agg ys); binOp op t (.agg xs) (.agg ys)).run P w = .ok (.bool r) w := by
 unfold eqTop at h
 cases hg : P.eqGuardType P.depth t
 . rw [hg] at h
   simp only [cond_false] at h
   split at h
   . have he := eqB_ok 20 t _ _ _ h Op.maxDepth (by decide) w
     simp [eqGuard, binOp, Op.equal, he, hg]
   . split at h
     . rename_i b hb
       simp only [qS] at h
       subst h
       have he := eqB_ok 20 t _ _ _ hb Op.maxDepth (by decide) w
       simp [eqGuard, binOp, Op.equal, he, hg]
     . cases h
   . cases h
 . rw [hg] at h; cases h
theorem TR.of {n : Nat} {loc : Nat -> Nat} {s s' : St} {a : Act} (ht : TR n loc s a) (h : s'.tmps = s.tmps) : TR n loc s' a := ⟨ht.size, fun t => by rw [h]; exact ht.tm t, ht.df⟩
theorem TR.move {n : Nat} {loc loc' : Nat -> Nat} {s s' : St} {a : Act} (ht : TR n loc s a) (hg : Good s) (ha : Agree s.own.length loc loc') (h : s'.tmps = s.tmps) : TR n loc' s' a :=
 ⟨ht.size, fun t => by rw [h, ht.tm t]; exact conc_congr (look_ok hg.ok) ha, ht.df⟩
theorem ask_ok (s : St) (fl : List Bool) (b : Bool) : (∀ p ∈ s.obl, p ∈ (ask s fl b).2.obl) /\ (Holds' (ask s fl b).2 -> (ask s fl b).1 = b) /\ (ask s fl b).2.tmps = s.tmps /\ (ask s fl b).2.own = s.own /\ (ask s fl b).2.mem = s.mem /\ (ask s fl b).2.lo = s.lo := by
 unfold ask
 cases anyF fl
 . exact ⟨fun _ h => h, fun _ => rfl, rfl, rfl, rfl, rfl⟩
 . simp only [cond_true]
   split
   . exact ⟨fun _ h => h, fun _ => rfl, rfl, rfl, rfl, rfl⟩
   . exact ⟨fun p hp => List.mem_cons_of_mem _ hp, fun h => (h _ (List.mem_cons_self)).symm, rfl, rfl, rfl, rfl⟩
theorem TR.ask {n : Nat} {loc : Nat -> Nat} {s : St} {a : Act} (ht : TR n loc s a) (fl : List Bool) (b : Bool) : TR n loc (Sim.ask s fl b).2 a := ht.of (ask_ok s fl b).2.2.1
theorem TR.know {n : Nat} {loc : Nat -> Nat} {s : St} {a : Act} (ht : TR n loc s a) {d : Nat} {b : Bool} (h : a.tmps.getD d undef = .bool b) : TR n loc (know s d b) a := by
 refine ⟨ht.size, fun t => ?_, ht.df⟩
 simp only [Sim.know, look]
 cases hb : Nat.beq d t
 . exact ht.tm t
 . have he : d = t := qB hb
   subst he
   exact h
def ext (loc : Nat -> Nat) (n b : Nat) : Nat -> Nat := fun i => if i = n then b else loc i
theorem ext_old (loc : Nat -> Nat) (n b : Nat) : Agree n loc (ext loc n b) := fun i h => by unfold ext; rw [if_neg (by omega)]
theorem ext_new (loc : Nat -> Nat) (n b : Nat) : ext loc n b n = b := by unfold ext; rw [if_pos rfl]
theorem WR.grow {w0 : World} {loc : Nat -> Nat} {own : List Blk} {mem : Bool} {w : World} (h : WR w0 loc own mem w) (cs : List Value) (t : TypeId) (fl : List Bool) :
   WR w0 (ext loc own.length w.heap.size) (own ++ [⟨cs, t, fl⟩]) true (w.alloc (.cells cs.toArray t)) := by
 have hsz := h.below.size
 refine ⟨h.below.alloc hsz _, fun i b hi => ?_, fun i j hi hj he => ?_, fun h => by cases h⟩
 . rcases Nat.lt_trichotomy i own.length with hl | hl | hl
   . rw [List.getElem?_append_left hl] at hi
     obtain ⟨h1, h2⟩ := h.blk i b hi
     rw [<- ext_old loc _ _ i hl]
     exact ⟨by rw [Below.heap_alloc w _ (loc i) (lt_of_some h1)]; exact h1, h2⟩
   . subst hl
     simp at hi
     subst hi
     rw [ext_new]
     exact ⟨by rw [heap_alloc_new], hsz⟩
   . rw [List.getElem?_eq_none (by simp; omega)] at hi; cases hi
 . have key : ∀ i, i < own.length -> loc i < w.heap.size := fun i hi => by
     obtain ⟨h1, _⟩ := h.blk i own[i] (by simp [hi])
     exact lt_of_some h1
   simp only [List.length_append, List.length_cons, List.length_nil] at hi hj
   unfold ext at he
   by_cases h1 : i = own.length <;> by_cases h2 : j = own.length
   . omega
   . rw [if_pos h1, if_neg h2] at he; have := key j (by omega); omega
   . rw [if_neg h1, if_pos h2] at he; have := key i (by omega); omega
   . rw [if_neg h1, if_neg h2] at he; exact h.inj i j (by omega) (by omega) he
theorem WR.store {w0 : World} {loc : Nat -> Nat} {own : List Blk} {mem : Bool} {w w' : World} (h : WR w0 loc own mem w) {i : Nat} {b : Blk} (hi : own[i]? = some b) {cs : List Value}
   (h1 : w'.heap[loc i]? = some (.cells cs.toArray b.elem (0, 0))) (h2 : ∀ k, k ≠ loc i -> w'.heap[k]? = w.heap[k]?) (h3 : w'.heap.size = w.heap.size) (h4 : w'.os = w.os) (h5 : w'.tape = w.tape) (h6 : w'.output = w.output) (fl : List Bool) :
   WR w0 loc (own.set i ⟨cs, b.elem, fl⟩) true w' := by
 have hil := lt_of_some_list hi
 obtain ⟨_, hge⟩ := h.blk i b hi
 refine ⟨h.below.trans ⟨h4, h5, h6, by omega, fun k hk => h2 k (by omega)⟩, fun j c hj => ?_, fun j k hj hk he => h.inj j k (by simpa using hj) (by simpa using hk) he, fun h => by cases h⟩
 by_cases hij : i = j
 . subst hij
   rw [List.getElem?_set_self hil] at hj
   simp only [qS] at hj
   subst hj
   exact ⟨h1, hge⟩
 . rw [List.getElem?_set_ne hij] at hj
   obtain ⟨k1, k2⟩ := h.blk j c hj
   have hjl := lt_of_some_list hj
   exact ⟨by rw [h2 _ (fun e => hij (h.inj j i hjl hil e).symm)]; exact k1, k2⟩
theorem WR.drew {w0 : World} {loc : Nat -> Nat} {own : List Blk} {mem : Bool} {w : World} (h : WR w0 loc own mem w) : WR w0 loc own true { w with drawn := w.drawn + 1 } :=
 ⟨h.below.drew, h.blk, h.inj, fun h => by cases h⟩
def Piece (P : Program) (fuel : Nat) (Q : Exit -> Act -> World -> Prop) (a : Act) (w : World) : Code -> Prop
 | .loop c => Code.rounds P c Q fuel a w
 | c => c.wp P Q a w
theorem Piece.wp {P : Program} {fuel : Nat} {Q : Exit -> Act -> World -> Prop} {a : Act} {w : World} {c : Code} (h : Piece P fuel Q a w c) : c.wp P Q a w := by
 cases c <;> first | exact h | exact wp_loop_rounds fuel h
def resM (tmps : Array Value) : ResultVar -> Sem Value
 | .tmp t => pure (tmps.getD t undef)
 | .cell p t => do loadVar t (<- asAddr (tmps.getD p undef))
theorem results_resM (fn : Func) (tmps : Array Value) : results fn tmps = (do let vs <- fn.results.mapM (resM tmps); pure (if h : vs.size = 1 then vs[0] else .tuple vs)) := rfl
end Go.Proofs.Ytmaffamhjmlonaa.Sim
namespace Go.Proofs.Ytmaffamhjmlonaa.Sim
open Go Go.RowKit
abbrev Tab := FuncId -> Array Value -> Option Value
def row {α : Type} (k : FuncId) (dec : List Value -> Option α) (g : α -> Value) : Tab := fun f args =>
 bif Nat.beq f k then (match dec args.toList with
   | some a => some (g a)
   | none => none) else none
def orT (c1 c2 : Tab) : Tab := fun f args => match c1 f args with
 | some v => some v
 | none => c2 f args
def noT : Tab := fun _ _ => none
def TabOk (P : Program) (gl : Nat -> Option (List Value)) (c : Tab) : Prop := ∀ f args v, c f args = some v -> ∀ w, Glob { P := P, glob := gl, call := c } w -> Calls P f args w fun e w' => e = .returned v /\ Below w.heap.size w w'
abbrev GlobOk (gl : Nat -> Option (List Value)) (w : World) : Prop := GlobW gl w
theorem GlobOk.none (w : World) : GlobOk (fun _ => none) w := fun _ _ h => by cases h
theorem GlobOk.below {gl : Nat -> Option (List Value)} {w w' : World} (h : GlobOk gl w) (hb : Below w.heap.size w w') : GlobOk gl w' := GlobW.below h hb
theorem TabOk.none (P : Program) (gl : Nat -> Option (List Value)) : TabOk P gl noT := fun _ _ _ h => by cases h
theorem TabOk.row {P : Program} {gl : Nat -> Option (List Value)} {α : Type} {k : FuncId} {dec : List Value -> Option α} {g : α -> Value}
   (h : ∀ args a, dec args.toList = some a -> ∀ w, GlobOk gl w -> Calls P k args w fun e w' => e = .returned (g a) /\ Below w.heap.size w w') : TabOk P gl (row k dec g) := fun f args v hv w hG => by
 unfold Sim.row at hv
 cases hb : Nat.beq f k
 . rw [hb] at hv; cases hv
 . rw [hb] at hv
   have he : f = k := qB hb
   subst he
   simp only [cond_true] at hv
   cases hd : dec args.toList with
   | none => rw [hd] at hv; cases hv
   | some a =>
     rw [hd] at hv
     simp only [qS] at hv
     subst hv
     exact h args a hd w hG
theorem TabOk.or {P : Program} {gl : Nat -> Option (List Value)} {c1 c2 : Tab} (h1 : TabOk P gl c1) (h2 : TabOk P gl c2) : TabOk P gl (orT c1 c2) := fun f args v hv w hG => by
 unfold orT at hv
 split at hv
 . rename_i u hu
   simp only [qS] at hv
   subst hv
   exact h1 f args _ hu w hG
 . exact h2 f args v hv w hG
def dec0 : List Value -> Option Unit
 | [] => some ()
 | _ => none
theorem dec0_eq {l : List Value} {x : Unit} (h : dec0 l = some x) : l = [] := by unfold dec0 at h; split at h <;> simp_all
theorem args_eq {args : Array Value} {l : List Value} (h : args.toList = l) : args = l.toArray := by rw [<- h]
def Ret (P : Program) (k : FuncId) (args : Array Value) (v : Value) (w : World) : Prop := Calls P k args w fun e w' => e = .returned v /\ Below w.heap.size w w'
theorem tab0 {P : Program} {gl : Nat -> Option (List Value)} {k : FuncId} {g : Unit -> Value} (h : ∀ w, GlobOk gl w -> Ret P k #[] (g ()) w) : TabOk P gl (row k dec0 g) := .row fun args a hd w hG => by rw [args_eq (dec0_eq hd)]; exact h w hG
abbrev PTab := FuncId -> List Value -> Option (Value × Bool)
def pre (b : Bool) : Bool := b
def prow {α : Type} (k : FuncId) (dec : List Value -> Option α) (g : α -> Value) (c : α -> Bool) : PTab := fun f args =>
 bif Nat.beq f k then (match dec args with
   | some a => some (g a, pre (c a))
   | none => none) else none
def orP (c1 c2 : PTab) : PTab := fun f args => match c1 f args with
 | some v => some v
 | none => c2 f args
def noP : PTab := fun _ _ => none
def PTabOk (P : Program) (gl : Nat -> Option (List Value)) (c : PTab) : Prop := ∀ f args v, c f args = some (v, true) -> ∀ w, GlobOk gl w -> Ret P f args.toArray v w
theorem PTabOk.none (P : Program) (gl : Nat -> Option (List Value)) : PTabOk P gl noP := fun _ _ _ h => by cases h
theorem PTabOk.row {P : Program} {gl : Nat -> Option (List Value)} {α : Type} {k : FuncId} {dec : List Value -> Option α} {enc : α -> List Value} {g : α -> Value} {c : α -> Bool} (hd : ∀ l a, dec l = some a -> l = enc a)
   (h : ∀ a, c a = true -> ∀ w, GlobOk gl w -> Ret P k (enc a).toArray (g a) w) : PTabOk P gl (prow k dec g c) := fun f args v hv w hG => by
 unfold prow at hv
 cases hb : Nat.beq f k
 . rw [hb] at hv; cases hv
 . rw [hb] at hv
   have he : f = k := qB hb
   subst he
   simp only [cond_true] at hv
   split at hv
   . rename_i a ha
     simp only [qS, qP] at hv
     obtain ⟨rfl, hc⟩ := hv
     rw [hd _ _ ha]
     exact h a hc w hG
   . cases hv
def prowD (k : FuncId) (dec : List Value -> Option (Value × Bool)) : PTab := fun f args => bif Nat.beq f k then dec args else none
theorem PTabOk.rowD {P : Program} {gl : Nat -> Option (List Value)} {k : FuncId} {dec : List Value -> Option (Value × Bool)} (h : ∀ args v, dec args = some (v, true) -> ∀ w, GlobOk gl w -> Ret P k args.toArray v w) : PTabOk P gl (prowD k dec) := fun f args v hv w hG => by
 unfold prowD at hv
 cases hb : Nat.beq f k
 . rw [hb] at hv; cases hv
 . rw [hb] at hv
   have he : f = k := qB hb
   subst he
   exact h args v hv w hG
theorem PTabOk.or {P : Program} {gl : Nat -> Option (List Value)} {c1 c2 : PTab} (h1 : PTabOk P gl c1) (h2 : PTabOk P gl c2) : PTabOk P gl (orP c1 c2) := fun f args v hv w hG => by
 unfold orP at hv
 split at hv
 . rename_i u hu
   simp only [qS] at hv
   subst hv
   exact h1 f args _ hu w hG
 . exact h2 f args v hv w hG
end Go.Proofs.Ytmaffamhjmlonaa.Sim
