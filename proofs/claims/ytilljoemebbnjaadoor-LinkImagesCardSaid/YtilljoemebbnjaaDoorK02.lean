/- SimCalls, MapL. -/
import Derived.Test.YtilljoemebbnjaaDoorK01
import Derived.Maps.Own
import Derived.Maps.OwnOps
set_option linter.unusedVariables false
set_option linter.unusedSimpArgs false
namespace Go.Proofs.YtilljoemebbnjaaDoor.Sim
open Go Go.RowKit
abbrev Tab := FuncId -> Array Value -> Option Value
def row {α : Type} (k : FuncId) (dec : List Value -> Option α) (g : α -> Value) : Tab := fun f args =>
 bif Nat.beq f k then (match dec args.toList with
   | some a => some (g a)
   | none => none) else none
def orT (c1 c2 : Tab) : Tab := fun f args => match c1 f args with
 | some v => some v
 | none => c2 f args
def noT : Tab := fun _ _ => none
def TabOk (P : Program) (gl : Nat -> Option (List Value)) (c : Tab) : Prop := ∀ f args v, c f args = some v -> ∀ w, Glob { P := P, glob := gl, call := c } w -> Calls P f args w fun e w' => e = .returned v /\ Below w.heap.size w w'
abbrev GlobOk (gl : Nat -> Option (List Value)) (w : World) : Prop := GlobW gl w
theorem GlobOk.none (w : World) : GlobOk (fun _ => none) w := fun _ _ h => by cases h
theorem GlobOk.below {gl : Nat -> Option (List Value)} {w w' : World} (h : GlobOk gl w) (hb : Below w.heap.size w w') : GlobOk gl w' := GlobW.below h hb
theorem TabOk.none (P : Program) (gl : Nat -> Option (List Value)) : TabOk P gl noT := fun _ _ _ h => by cases h
theorem TabOk.row {P : Program} {gl : Nat -> Option (List Value)} {α : Type} {k : FuncId} {dec : List Value -> Option α} {g : α -> Value}
   (h : ∀ args a, dec args.toList = some a -> ∀ w, GlobOk gl w -> Calls P k args w fun e w' => e = .returned (g a) /\ Below w.heap.size w w') : TabOk P gl (row k dec g) := fun f args v hv w hG => by
 unfold Sim.row at hv
 cases hb : Nat.beq f k
 . rw [hb] at hv; cases hv
 . rw [hb] at hv
   have he : f = k := qB hb
   subst he
   simp only [cond_true] at hv
   cases hd : dec args.toList with
   | none => rw [hd] at hv; cases hv
   | some a =>
     rw [hd] at hv
     simp only [qS] at hv
     subst hv
     exact h args a hd w hG
theorem TabOk.or {P : Program} {gl : Nat -> Option (List Value)} {c1 c2 : Tab} (h1 : TabOk P gl c1) (h2 : TabOk P gl c2) : TabOk P gl (orT c1 c2) := fun f args v hv w hG => by
 unfold orT at hv
 split at hv
 . rename_i u hu
   simp only [qS] at hv
   subst hv
   exact h1 f args _ hu w hG
 . exact h2 f args v hv w hG
def decI : List Value -> Option Int
 | [.int .i64 x] => some x
 | _ => none
def decII : List Value -> Option (Int × Int)
 | [.int .i64 x, .int .i64 y] => some (x, y)
 | _ => none
def decIII : List Value -> Option (Int × Int × Int)
 | [.int .i64 x, .int .i64 y, .int .i64 z] => some (x, y, z)
 | _ => none
def decIB : List Value -> Option (Int × Bool)
 | [.int .i64 x, .bool y] => some (x, y)
 | _ => none
def dec0 : List Value -> Option Unit
 | [] => some ()
 | _ => none
theorem decI_eq {l : List Value} {x : Int} (h : decI l = some x) : l = [.int .i64 x] := by unfold decI at h; split at h <;> simp_all
theorem decII_eq {l : List Value} {x : Int × Int} (h : decII l = some x) : l = [.int .i64 x.1, .int .i64 x.2] := by unfold decII at h; split at h <;> simp at h; subst h; rfl
theorem decIII_eq {l : List Value} {x : Int × Int × Int} (h : decIII l = some x) : l = [.int .i64 x.1, .int .i64 x.2.1, .int .i64 x.2.2] := by unfold decIII at h; split at h <;> simp at h; subst h; rfl
theorem decIB_eq {l : List Value} {x : Int × Bool} (h : decIB l = some x) : l = [.int .i64 x.1, .bool x.2] := by unfold decIB at h; split at h <;> simp at h; subst h; rfl
theorem dec0_eq {l : List Value} {x : Unit} (h : dec0 l = some x) : l = [] := by unfold dec0 at h; split at h <;> simp_all
theorem args_eq {args : Array Value} {l : List Value} (h : args.toList = l) : args = l.toArray := by rw [<- h]
def Ret (P : Program) (k : FuncId) (args : Array Value) (v : Value) (w : World) : Prop := Calls P k args w fun e w' => e = .returned v /\ Below w.heap.size w w'
theorem tabI {P : Program} {gl : Nat -> Option (List Value)} {k : FuncId} {g : Int -> Value} (h : ∀ x w, GlobOk gl w -> Ret P k #[.int .i64 x] (g x) w) : TabOk P gl (row k decI g) := .row fun args a hd w hG => by rw [args_eq (decI_eq hd)]; exact h a w hG
theorem tabII {P : Program} {gl : Nat -> Option (List Value)} {k : FuncId} {g : Int × Int -> Value} (h : ∀ x y w, GlobOk gl w -> Ret P k #[.int .i64 x, .int .i64 y] (g (x, y)) w) : TabOk P gl (row k decII g) := .row fun args a hd w hG => by rw [args_eq (decII_eq hd)]; exact h a.1 a.2 w hG
theorem tabIII {P : Program} {gl : Nat -> Option (List Value)} {k : FuncId} {g : Int × Int × Int -> Value} (h : ∀ x y z w, GlobOk gl w -> Ret P k #[.int .i64 x, .int .i64 y, .int .i64 z] (g (x, y, z)) w) : TabOk P gl (row k decIII g) := .row fun args a hd w hG => by rw [args_eq (decIII_eq hd)]; exact h a.1 a.2.1 a.2.2 w hG
theorem tabIB {P : Program} {gl : Nat -> Option (List Value)} {k : FuncId} {g : Int × Bool -> Value} (h : ∀ x y w, GlobOk gl w -> Ret P k #[.int .i64 x, .bool y] (g (x, y)) w) : TabOk P gl (row k decIB g) := .row fun args a hd w hG => by rw [args_eq (decIB_eq hd)]; exact h a.1 a.2 w hG
theorem tab0 {P : Program} {gl : Nat -> Option (List Value)} {k : FuncId} {g : Unit -> Value} (h : ∀ w, GlobOk gl w -> Ret P k #[] (g ()) w) : TabOk P gl (row k dec0 g) := .row fun args a hd w hG => by rw [args_eq (dec0_eq hd)]; exact h w hG
theorem tabV {P : Program} {gl : Nat -> Option (List Value)} {α : Type} {k : FuncId} {dec : List Value -> Option α} {enc : α -> Value} {g : α -> Value} (hd : ∀ l a, dec l = some a -> l = [enc a]) (h : ∀ a w, GlobOk gl w -> Ret P k #[enc a] (g a) w) : TabOk P gl (row k dec g) :=
 .row fun args a he w hG => by rw [args_eq (hd _ _ he)]; exact h a w hG
theorem Ret.of_eq {P : Program} {k : FuncId} {args : Array Value} {v v' : Value} {w : World} (h : Ret P k args v w) (e : v = v') : Ret P k args v' w := e ▸ h
theorem Ret.of_same {P : Program} {k : FuncId} {args : Array Value} {v : Value} {w : World} (h : Calls P k args w fun e w' => e = .returned v /\ w = w') : Ret P k args v w := h.mono fun _ _ ⟨he, hw⟩ => ⟨he, hw ▸ Below.refl _ _⟩
abbrev PTab := FuncId -> List Value -> Option (Value × Bool)
def pre (b : Bool) : Bool := b
def prow {α : Type} (k : FuncId) (dec : List Value -> Option α) (g : α -> Value) (c : α -> Bool) : PTab := fun f args =>
 bif Nat.beq f k then (match dec args with
   | some a => some (g a, pre (c a))
   | none => none) else none
def orP (c1 c2 : PTab) : PTab := fun f args => match c1 f args with
 | some v => some v
 | none => c2 f args
def noP : PTab := fun _ _ => none
def PTabOk (P : Program) (gl : Nat -> Option (List Value)) (c : PTab) : Prop := ∀ f args v, c f args = some (v, true) -> ∀ w, GlobOk gl w -> Ret P f args.toArray v w
theorem PTabOk.none (P : Program) (gl : Nat -> Option (List Value)) : PTabOk P gl noP := fun _ _ _ h => by cases h
theorem PTabOk.row {P : Program} {gl : Nat -> Option (List Value)} {α : Type} {k : FuncId} {dec : List Value -> Option α} {enc : α -> List Value} {g : α -> Value} {c : α -> Bool} (hd : ∀ l a, dec l = some a -> l = enc a)
   (h : ∀ a, c a = true -> ∀ w, GlobOk gl w -> Ret P k (enc a).toArray (g a) w) : PTabOk P gl (prow k dec g c) := fun f args v hv w hG => by
 unfold prow at hv
 cases hb : Nat.beq f k
 . rw [hb] at hv; cases hv
 . rw [hb] at hv
   have he : f = k := qB hb
   subst he
   simp only [cond_true] at hv
   split at hv
   . rename_i a ha
     simp only [qS, qP] at hv
     obtain ⟨rfl, hc⟩ := hv
     rw [hd _ _ ha]
     exact h a hc w hG
   . cases hv
def prowD (k : FuncId) (dec : List Value -> Option (Value × Bool)) : PTab := fun f args => bif Nat.beq f k then dec args else none
theorem PTabOk.rowD {P : Program} {gl : Nat -> Option (List Value)} {k : FuncId} {dec : List Value -> Option (Value × Bool)} (h : ∀ args v, dec args = some (v, true) -> ∀ w, GlobOk gl w -> Ret P k args.toArray v w) : PTabOk P gl (prowD k dec) := fun f args v hv w hG => by
 unfold prowD at hv
 cases hb : Nat.beq f k
 . rw [hb] at hv; cases hv
 . rw [hb] at hv
   have he : f = k := qB hb
   subst he
   exact h args v hv w hG
theorem PTabOk.or {P : Program} {gl : Nat -> Option (List Value)} {c1 c2 : PTab} (h1 : PTabOk P gl c1) (h2 : PTabOk P gl c2) : PTabOk P gl (orP c1 c2) := fun f args v hv w hG => by
 unfold orP at hv
 split at hv
 . rename_i u hu
   simp only [qS] at hv
   subst hv
   exact h1 f args _ hu w hG
 . exact h2 f args v hv w hG
def eqS : Value -> Value -> Bool
 | .bool a, .bool b => a == b
 | .int k a, .int j b => decide (k = j) && decide (a = b)
 | .string a, .string b => a.data.toList == b.data.toList
 | _, _ => false
def eqL (eq : Value -> Value -> Bool) : List Value -> List Value -> Bool
 | [], [] => true
 | x :: r, y :: t => eq x y && eqL eq r t
 | _, _ => false
def eqW (eq : Value -> Value -> Bool) : Value -> Value -> Bool
 | .agg a, .agg b => eqL eq a.toList b.toList
 | .tuple a, .tuple b => eqL eq a.toList b.toList
 | x, y => eqS x y
def eqV : Value -> Value -> Bool := eqW (eqW (eqW eqS))
theorem bytes_eq {a b : ByteArray} (h : a.data.toList = b.data.toList) : a = b := by
 cases a; cases b; simp at h; simp [h]
theorem arr_eq {a b : Array Value} (h : a.toList = b.toList) : a = b := by
 cases a; cases b; simp at h; simp [h]
theorem eqS_eq {x y : Value} (h : eqS x y = true) : x = y := by
 unfold eqS at h
 split at h
 . exact congrArg Value.bool (eq_of_beq h)
 . simp only [Bool.and_eq_true, decide_eq_true_eq] at h
   rw [h.1, h.2]
 . exact congrArg Value.string (bytes_eq (eq_of_beq h))
 . cases h
theorem eqL_eq {eq : Value -> Value -> Bool} (he : ∀ x y, eq x y = true -> x = y) : ∀ (x y : List Value), eqL eq x y = true -> x = y
 | [], [], _ => rfl
 | x :: r, y :: t, h => by
   simp only [eqL, Bool.and_eq_true] at h
   rw [he _ _ h.1, eqL_eq he _ _ h.2]
 | [], _ :: _, h => by simp [eqL] at h
 | _ :: _, [], h => by simp [eqL] at h
theorem eqW_eq {eq : Value -> Value -> Bool} (he : ∀ x y, eq x y = true -> x = y) (x y : Value) (h : eqW eq x y = true) : x = y := by
 unfold eqW at h
 split at h
 . exact congrArg Value.agg (arr_eq (eqL_eq he _ _ h))
 . exact congrArg Value.tuple (arr_eq (eqL_eq he _ _ h))
 . exact eqS_eq h
theorem eqV_eq (x y : Value) (h : eqV x y = true) : x = y := eqW_eq (eqW_eq (eqW_eq fun _ _ => eqS_eq)) x y h
end Go.Proofs.YtilljoemebbnjaaDoor.Sim
namespace Go.Proofs.YtilljoemebbnjaaDoor.S2
open Go
open Go.ChangeMaps (setBlock putKey notKey heap_setBlock_same heap_setBlock_other mem_insert_iff)
open Go.MapKept (Stamped stamped_empty)
open Go.WideElems (Fit rd rg rd_key rg_of)
open Go.Maps (Keyed fit_look fit_store int_keyed keyOf_int_mk notKey_iff)
theorem mem_srt {H : Type} {l : List (Lit × DataW H)} {p : Lit × DataW H} : p ∈ l.foldr DataW.insert [] ↔ p ∈ l := (Go.WideShapes.sorted_perm l).mem_iff
def logL : List (Int × Value) -> Int -> Option Value
 | [], _ => none
 | (k, v) :: r, a => bif k == a then some v else logL r a
def MapL (w : World) (b : Nat) (l : List (Int × Value)) : Prop :=
 ∃ es clock, w.heap[b]? = some (.map es clock) /\ es.size <= l.length /\ es.size <= maxLen /\ Stamped es clock /\ (∀ x ∈ es.toList, ∃ a, x.key = .int .i64 a /\ (Lit.int .i64 a).wf = true /\ logL l a = some x.val) /\
   ∀ a v, logL l a = some v -> ∃ x ∈ es.toList, x.key = .int .i64 a /\ x.val = v
def allR : Value -> Option (DataW Unit × List MemPlace) := fun _ => some (.nil, [])
theorem MapL.of_heap {w w' : World} {b : Nat} {l : List (Int × Value)} (h : MapL w b l) (he : w'.heap[b]? = w.heap[b]?) : MapL w' b l := by
 obtain ⟨es, clock, hb, r⟩ := h
 exact ⟨es, clock, he.trans hb, r⟩
theorem MapL.lt {w : World} {b : Nat} {l : List (Int × Value)} (h : MapL w b l) : b < w.heap.size := by
 obtain ⟨es, clock, hb, _⟩ := h
 exact (Array.getElem?_eq_some_iff.1 hb).1
theorem MapL.not_cells {w : World} {b : Nat} {l : List (Int × Value)} (h : MapL w b l) (cs : Array Value) (e : TypeId) (fz : Nat × Nat) : w.heap[b]? ≠ some (.cells cs e fz) := fun hc => by
 obtain ⟨es, clock, hb, _⟩ := h
 rw [hb] at hc; cases hc
theorem MapL_made (w : World) : MapL (w.alloc (.map #[] 0)) w.heap.size [] :=
 ⟨#[], 0, (MapKept.heap_alloc w _).1, Nat.le_refl _, by simp, stamped_empty 0, by simp, fun a v h => by cases h⟩
theorem MapL.fit {w : World} {P : Program} {k : TypeId} {b : Nat} {l : List (Int × Value)} (hk : P.underlying k = some (.int .i64)) {es : Array MapEntry} {clock : Nat} (h1 : es.size <= maxLen) (h2 : Stamped es clock) (h3 : ∀ x ∈ es.toList, ∃ a, x.key = .int .i64 a /\ (Lit.int .i64 a).wf = true /\ logL l a = some x.val) : Fit P k allR es clock :=
 ⟨h1, h2, fun x hx => by
   obtain ⟨a, ha, hw, _⟩ := h3 x hx
   exact ⟨_, by unfold rd; rw [ha, keyOf_int_mk hk hw]; rfl⟩⟩
theorem MapL.look {w : World} {P : Program} {t k e : TypeId} {b : Nat} {l : List (Int × Value)} (h : MapL w b l) (ht : P.underlying t = some (.map k e)) (hk : P.underlying k = some (.int .i64)) {z : Value} (hz : (zeroValue e).run P w = .ok z w) {a : Int} (ha : (Lit.int .i64 a).wf = true) (c : Bool) :
   (Instr.lookup t (.map (some b)) (.int .i64 a) c).run P w = .ok (if c then .tuple #[(logL l a).getD z, .bool (logL l a).isSome] else (logL l a).getD z) w := by
 obtain ⟨es, clock, hb, hs, hm, hst, h3, h4⟩ := h
 rcases fit_look c (int_keyed hk) ht hz hb (MapL.fit (w := w) (b := b) hk hm hst h3) (keyOf_int_mk hk ha) with ⟨hrun, hno, _⟩ | ⟨e0, y, hm0, hkey, hrun, _⟩
 . have : logL l a = none := by
     cases hl : logL l a with
     | none => rfl
     | some v =>
       obtain ⟨x, hx, hxk, _⟩ := h4 a v hl
       exact absurd hxk (hno x hx)
   rw [hrun, this]; rfl
 . obtain ⟨a', ha', _, hl⟩ := h3 e0 hm0
   rw [hkey] at ha'
   obtain rfl : a = a' := by injection ha'
   rw [hrun, hl]; rfl
theorem logL_put (l : List (Int × Value)) (a : Int) (v : Value) (a' : Int) : logL ((a, v) :: l) a' = if a = a' then some v else logL l a' := by
 rw [logL]
 by_cases h : a = a'
 . subst h; simp
 . have h2 : (a == a') = false := by simp [h]
   rw [h2, if_neg h]; rfl
theorem MapL.store {w : World} {P : Program} {t k e : TypeId} {b : Nat} {l : List (Int × Value)} (h : MapL w b l) (ht : P.underlying t = some (.map k e)) (hk : P.underlying k = some (.int .i64)) (hn : l.length < maxLen) {a : Int} (ha : (Lit.int .i64 a).wf = true) (v : Value) :
   ∃ o, (Instr.mapUpdate t (.map (some b)) (.int .i64 a) v).run P w = .ok () (setBlock w b o) /\ MapL (setBlock w b o) b ((a, v) :: l) := by
 obtain ⟨es, clock, hb, hs, hm, hst, h3, h4⟩ := h
 have F := MapL.fit (w := w) (b := b) hk hm hst h3
 obtain ⟨es', clock', hrun, F', hput, _, _, hold⟩ := fit_store (R' := allR) (int_keyed hk) ht hb F (by omega) (fun _ _ _ _ hz => hz) (keyOf_int_mk hk ha) (show allR v = some (.nil, []) from rfl)
 have hkeys : ∀ x ∈ es'.toList, ∃ a', x.key = .int .i64 a' /\ (Lit.int .i64 a').wf = true /\ logL ((a, v) :: l) a' = some x.val := fun x hx => by
   rcases hold x hx with ⟨h1, h2⟩ | ⟨h1, h2⟩
   . obtain ⟨a', e1, e2, e3⟩ := h3 x h1
     refine ⟨a', e1, e2, ?_⟩
     rw [logL_put, if_neg (fun hc => h2 (by rw [e1, hc]))]
     exact e3
   . exact ⟨a, h1, ha, by rw [logL_put, if_pos rfl, h2]⟩
 have hrg : ∀ x a', x.key = .int .i64 a' -> (Lit.int .i64 a').wf = true -> rg P k allR x = (.int .i64 a', (.nil : DataW Unit)) := fun x a' hx hw => by
   have : rd P k allR x = some (.int .i64 a', (.nil : DataW Unit)) := by unfold rd; rw [hx, keyOf_int_mk hk hw]; rfl
   exact rg_of this
 have hmem : ∀ a', (Lit.int .i64 a').wf = true -> ((.int .i64 a' : Lit), (.nil : DataW Unit)) ∈ putKey (.int .i64 a) .nil ((es.toList.map (rg P k allR)).foldr DataW.insert []) -> ∃ x ∈ es'.toList, x.key = .int .i64 a' := fun a' hw hp => by
   rw [<- hput, mem_srt] at hp
   obtain ⟨x, hx, hxe⟩ := List.mem_map.mp hp
   obtain ⟨c, c1, c2, _⟩ := hkeys x hx
   rw [hrg x c c1 c2] at hxe
   refine ⟨x, hx, ?_⟩
   rw [c1]
   injection hxe with q1 _
   injection q1 with _ q2
   rw [q2]
 refine ⟨_, hrun, es', clock', heap_setBlock_same hb _, ?_, F'.size, F'.stamped, hkeys, fun a' v' hl => ?_⟩
 . have e1 : es'.size = ((es'.toList.map (rg P k allR)).foldr DataW.insert []).length := by rw [length_sorted]; simp
   rw [e1, hput]
   unfold putKey
   rw [length_insert]
   have e2 := List.length_filter_le (notKey (.int .i64 a)) ((es.toList.map (rg P k allR)).foldr DataW.insert [])
   rw [length_sorted] at e2
   simp at e2
   simp
   omega
 . have hx : ∃ x ∈ es'.toList, x.key = .int .i64 a' := by
     rw [logL_put] at hl
     by_cases hc : a = a'
     . subst hc
       exact hmem a ha (mem_insert_iff.mpr (.inl rfl))
     . rw [if_neg hc] at hl
       obtain ⟨x, hx, hxk, _⟩ := h4 a' v' hl
       obtain ⟨c, c1, c2, _⟩ := h3 x hx
       rw [hxk] at c1
       obtain rfl : a' = c := by injection c1
       refine hmem a' c2 (mem_insert_iff.mpr (.inr (List.mem_filter.mpr ⟨mem_srt.mpr (List.mem_map.mpr ⟨x, hx, hrg x a' hxk c2⟩), ?_⟩)))
       rw [notKey_iff (k := .int .i64 a) ((int_keyed hk).key (keyOf_int_mk hk ha))]
       exact fun hq => hc (by injection hq with _ q; exact q.symm)
   obtain ⟨x, hx, hxk⟩ := hx
   obtain ⟨c, c1, _, c3⟩ := hkeys x hx
   rw [hxk] at c1
   obtain rfl : a' = c := by injection c1
   rw [hl] at c3
   exact ⟨x, hx, hxk, by injection c3 with q; exact q.symm⟩
theorem setBlock_other {w : World} {b : Nat} {l : List (Int × Value)} (h : MapL w b l) (o : Obj) (k : Nat) (hk : k ≠ b) : (setBlock w b o).heap[k]? = w.heap[k]? := by
 obtain ⟨es, clock, hb, _⟩ := h
 exact heap_setBlock_other hb o hk
theorem setBlock_size (w : World) (b : Nat) (o : Obj) : (setBlock w b o).heap.size = w.heap.size := by
 unfold setBlock; simp
end Go.Proofs.YtilljoemebbnjaaDoor.S2
