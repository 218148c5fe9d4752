/- A map of the call's own with int keys: its block reads as a list of stores, the newest first. No word of the program. -/
import Derived.Test.YtmaffamhjmlonaaK01
import Derived.Maps.Own
import Derived.Maps.OwnOps
set_option linter.unusedVariables false
set_option linter.unusedSimpArgs false
namespace Go.Proofs.Ytmaffamhjmlonaa.S2
open Go
open Go.ChangeMaps (setBlock putKey notKey heap_setBlock_same heap_setBlock_other mem_insert_iff)
open Go.MapKept (Stamped stamped_empty)
open Go.WideElems (Fit rd rg rd_key rg_of)
open Go.Maps (Keyed fit_look fit_store int_keyed keyOf_int_mk notKey_iff)
theorem mem_srt {H : Type} {l : List (Lit × DataW H)} {p : Lit × DataW H} : p ∈ l.foldr DataW.insert [] ↔ p ∈ l := (Go.WideShapes.sorted_perm l).mem_iff
def logL : List (Int × Value) -> Int -> Option Value
 | [], _ => none
 | (k, v) :: r, a => bif k == a then some v else logL r a
def MapL (w : World) (b : Nat) (l : List (Int × Value)) : Prop :=
 ∃ es clock, w.heap[b]? = some (.map es clock) /\ es.size <= l.length /\ es.size <= maxLen /\ Stamped es clock /\ (∀ x ∈ es.toList, ∃ a, x.key = .int .i64 a /\ (Lit.int .i64 a).wf = true /\ logL l a = some x.val) /\
   ∀ a v, logL l a = some v -> ∃ x ∈ es.toList, x.key = .int .i64 a /\ x.val = v
def allR : Value -> Option (DataW Unit × List MemPlace) := fun _ => some (.nil, [])
theorem MapL.of_heap {w w' : World} {b : Nat} {l : List (Int × Value)} (h : MapL w b l) (he : w'.heap[b]? = w.heap[b]?) : MapL w' b l := by
 obtain ⟨es, clock, hb, r⟩ := h
 exact ⟨es, clock, he.trans hb, r⟩
theorem MapL.lt {w : World} {b : Nat} {l : List (Int × Value)} (h : MapL w b l) : b < w.heap.size := by
 obtain ⟨es, clock, hb, _⟩ := h
 exact (Array.getElem?_eq_some_iff.1 hb).1
theorem MapL.not_cells {w : World} {b : Nat} {l : List (Int × Value)} (h : MapL w b l) (cs : Array Value) (e : TypeId) (fz : Nat × Nat) : w.heap[b]? ≠ some (.cells cs e fz) := fun hc => by
 obtain ⟨es, clock, hb, _⟩ := h
 rw [hb] at hc; cases hc
theorem MapL_made (w : World) : MapL (w.alloc (.map #[] 0)) w.heap.size [] :=
 ⟨#[], 0, (MapKept.heap_alloc w _).1, Nat.le_refl _, by simp, stamped_empty 0, by simp, fun a v h => by cases h⟩
theorem MapL.fit {w : World} {P : Program} {k : TypeId} {b : Nat} {l : List (Int × Value)} (hk : P.underlying k = some (.int .i64)) {es : Array MapEntry} {clock : Nat} (h1 : es.size <= maxLen) (h2 : Stamped es clock) (h3 : ∀ x ∈ es.toList, ∃ a, x.key = .int .i64 a /\ (Lit.int .i64 a).wf = true /\ logL l a = some x.val) : Fit P k allR es clock :=
 ⟨h1, h2, fun x hx => by
   obtain ⟨a, ha, hw, _⟩ := h3 x hx
   exact ⟨_, by unfold rd; rw [ha, keyOf_int_mk hk hw]; rfl⟩⟩
theorem MapL.look {w : World} {P : Program} {t k e : TypeId} {b : Nat} {l : List (Int × Value)} (h : MapL w b l) (ht : P.underlying t = some (.map k e)) (hk : P.underlying k = some (.int .i64)) {z : Value} (hz : (zeroValue e).run P w = .ok z w) {a : Int} (ha : (Lit.int .i64 a).wf = true) (c : Bool) :
   (Instr.lookup t (.map (some b)) (.int .i64 a) c).run P w = .ok (if c then .tuple #[(logL l a).getD z, .bool (logL l a).isSome] else (logL l a).getD z) w := by
 obtain ⟨es, clock, hb, hs, hm, hst, h3, h4⟩ := h
 rcases fit_look c (int_keyed hk) ht hz hb (MapL.fit (w := w) (b := b) hk hm hst h3) (keyOf_int_mk hk ha) with ⟨hrun, hno, _⟩ | ⟨e0, y, hm0, hkey, hrun, _⟩
 . have : logL l a = none := by
     cases hl : logL l a with
     | none => rfl
     | some v =>
       obtain ⟨x, hx, hxk, _⟩ := h4 a v hl
       exact absurd hxk (hno x hx)
   rw [hrun, this]; rfl
 . obtain ⟨a', ha', _, hl⟩ := h3 e0 hm0
   rw [hkey] at ha'
   obtain rfl : a = a' := by injection ha'
   rw [hrun, hl]; rfl
theorem logL_put (l : List (Int × Value)) (a : Int) (v : Value) (a' : Int) : logL ((a, v) :: l) a' = if a = a' then some v else logL l a' := by
 rw [logL]
 by_cases h : a = a'
 . subst h; simp
 . have h2 : (a == a') = false := by simp [h]
   rw [h2, if_neg h]; rfl
theorem MapL.store {w : World} {P : Program} {t k e : TypeId} {b : Nat} {l : List (Int × Value)} (h : MapL w b l) (ht : P.underlying t = some (.map k e)) (hk : P.underlying k = some (.int .i64)) (hn : l.length < maxLen) {a : Int} (ha : (Lit.int .i64 a).wf = true) (v : Value) :
   ∃ o, (Instr.mapUpdate t (.map (some b)) (.int .i64 a) v).run P w = .ok () (setBlock w b o) /\ MapL (setBlock w b o) b ((a, v) :: l) := by
 obtain ⟨es, clock, hb, hs, hm, hst, h3, h4⟩ := h
 have F := MapL.fit (w := w) (b := b) hk hm hst h3
 obtain ⟨es', clock', hrun, F', hput, _, _, hold⟩ := fit_store (R' := allR) (int_keyed hk) ht hb F (by omega) (fun _ _ _ _ hz => hz) (keyOf_int_mk hk ha) (show allR v = some (.nil, []) from rfl)
 have hkeys : ∀ x ∈ es'.toList, ∃ a', x.key = .int .i64 a' /\ (Lit.int .i64 a').wf = true /\ logL ((a, v) :: l) a' = some x.val := fun x hx => by
   rcases hold x hx with ⟨h1, h2⟩ | ⟨h1, h2⟩
   . obtain ⟨a', e1, e2, e3⟩ := h3 x h1
     refine ⟨a', e1, e2, ?_⟩
     rw [logL_put, if_neg (fun hc => h2 (by rw [e1, hc]))]
     exact e3
   . exact ⟨a, h1, ha, by rw [logL_put, if_pos rfl, h2]⟩
 have hrg : ∀ x a', x.key = .int .i64 a' -> (Lit.int .i64 a').wf = true -> rg P k allR x = (.int .i64 a', (.nil : DataW Unit)) := fun x a' hx hw => by
   have : rd P k allR x = some (.int .i64 a', (.nil : DataW Unit)) := by unfold rd; rw [hx, keyOf_int_mk hk hw]; rfl
   exact rg_of this
 have hmem : ∀ a', (Lit.int .i64 a').wf = true -> ((.int .i64 a' : Lit), (.nil : DataW Unit)) ∈ putKey (.int .i64 a) .nil ((es.toList.map (rg P k allR)).foldr DataW.insert []) -> ∃ x ∈ es'.toList, x.key = .int .i64 a' := fun a' hw hp => by
   rw [<- hput, mem_srt] at hp
   obtain ⟨x, hx, hxe⟩ := List.mem_map.mp hp
   obtain ⟨c, c1, c2, _⟩ := hkeys x hx
   rw [hrg x c c1 c2] at hxe
   refine ⟨x, hx, ?_⟩
   rw [c1]
   injection hxe with q1 _
   injection q1 with _ q2
   rw [q2]
 refine ⟨_, hrun, es', clock', heap_setBlock_same hb _, ?_, F'.size, F'.stamped, hkeys, fun a' v' hl => ?_⟩
 . have e1 : es'.size = ((es'.toList.map (rg P k allR)).foldr DataW.insert []).length := by rw [length_sorted]; simp
   rw [e1, hput]
   unfold putKey
   rw [length_insert]
   have e2 := List.length_filter_le (notKey (.int .i64 a)) ((es.toList.map (rg P k allR)).foldr DataW.insert [])
   rw [length_sorted] at e2
   simp at e2
   simp
   omega
 . have hx : ∃ x ∈ es'.toList, x.key = .int .i64 a' := by
     rw [logL_put] at hl
     by_cases hc : a = a'
     . subst hc
       exact hmem a ha (mem_insert_iff.mpr (.inl rfl))
     . rw [if_neg hc] at hl
       obtain ⟨x, hx, hxk, _⟩ := h4 a' v' hl
       obtain ⟨c, c1, c2, _⟩ := h3 x hx
       rw [hxk] at c1
       obtain rfl : a' = c := by injection c1
       refine hmem a' c2 (mem_insert_iff.mpr (.inr (List.mem_filter.mpr ⟨mem_srt.mpr (List.mem_map.mpr ⟨x, hx, hrg x a' hxk c2⟩), ?_⟩)))
       rw [notKey_iff (k := .int .i64 a) ((int_keyed hk).key (keyOf_int_mk hk ha))]
       exact fun hq => hc (by injection hq with _ q; exact q.symm)
   obtain ⟨x, hx, hxk⟩ := hx
   obtain ⟨c, c1, _, c3⟩ := hkeys x hx
   rw [hxk] at c1
   obtain rfl : a' = c := by injection c1
   rw [hl] at c3
   exact ⟨x, hx, hxk, by injection c3 with q; exact q.symm⟩
theorem setBlock_other {w : World} {b : Nat} {l : List (Int × Value)} (h : MapL w b l) (o : Obj) (k : Nat) (hk : k ≠ b) : (setBlock w b o).heap[k]? = w.heap[k]? := by
 obtain ⟨es, clock, hb, _⟩ := h
 exact heap_setBlock_other hb o hk
theorem setBlock_size (w : World) (b : Nat) (o : Obj) : (setBlock w b o).heap.size = w.heap.size := by
 unfold setBlock; simp
noncomputable def logV : List (Value × Value) -> Value -> Option Value
 | [], _ => none
 | (k, v) :: r, a => @ite _ (k = a) (Classical.propDecidable _) (some v) (logV r a)
theorem logV_put (l : List (Value × Value)) (a v a' : Value) : logV ((a, v) :: l) a' = @ite _ (a = a') (Classical.propDecidable _) (some v) (logV l a') := rfl
theorem logV_same (l : List (Value × Value)) (a v : Value) : logV ((a, v) :: l) a = some v := by rw [logV_put, if_pos rfl]
theorem logV_ne (l : List (Value × Value)) {a a' : Value} (v : Value) (h : a ≠ a') : logV ((a, v) :: l) a' = logV l a' := by rw [logV_put, if_neg h]
theorem logV_mem {a v : Value} : ∀ {l : List (Value × Value)}, logV l a = some v -> (a, v) ∈ l
 | [], h => by cases h
 | (k, u) :: r, h => by
   rw [logV_put] at h
   by_cases hk : k = a
   . rw [if_pos hk] at h
     obtain rfl := Option.some.inj h
     rw [hk]; exact List.mem_cons_self
   . rw [if_neg hk] at h
     exact List.mem_cons_of_mem _ (logV_mem h)
def KeysIn (P : Program) (k : TypeId) (ks : List Value) : Prop := Keyed P k /\ ∀ a ∈ ks, ∃ l, keyOf P k a = some l
def MapV (w : World) (b : Nat) (l : List (Value × Value)) : Prop :=
 ∃ es clock, w.heap[b]? = some (.map es clock) /\ es.size <= l.length /\ es.size <= maxLen /\ Stamped es clock /\ (∀ x ∈ es.toList, logV l x.key = some x.val) /\
   ∀ a v, logV l a = some v -> ∃ x ∈ es.toList, x.key = a /\ x.val = v
theorem MapV.of_heap {w w' : World} {b : Nat} {l : List (Value × Value)} (h : MapV w b l) (he : w'.heap[b]? = w.heap[b]?) : MapV w' b l := by
 obtain ⟨es, clock, hb, r⟩ := h
 exact ⟨es, clock, he.trans hb, r⟩
theorem MapV.lt {w : World} {b : Nat} {l : List (Value × Value)} (h : MapV w b l) : b < w.heap.size := by
 obtain ⟨es, clock, hb, _⟩ := h
 exact (Array.getElem?_eq_some_iff.1 hb).1
theorem MapV.not_cells {w : World} {b : Nat} {l : List (Value × Value)} (h : MapV w b l) (cs : Array Value) (e : TypeId) (fz : Nat × Nat) : w.heap[b]? ≠ some (.cells cs e fz) := fun hc => by
 obtain ⟨es, clock, hb, _⟩ := h
 rw [hb] at hc; cases hc
theorem MapV_made (w : World) : MapV (w.alloc (.map #[] 0)) w.heap.size [] :=
 ⟨#[], 0, (MapKept.heap_alloc w _).1, Nat.le_refl _, by simp, stamped_empty 0, by simp, fun a v h => by cases h⟩
theorem MapV.fit {P : Program} {k : TypeId} {l : List (Value × Value)} (hk : KeysIn P k (l.map Prod.fst)) {es : Array MapEntry} {clock : Nat} (h1 : es.size <= maxLen) (h2 : Stamped es clock) (h3 : ∀ x ∈ es.toList, logV l x.key = some x.val) : Fit P k allR es clock :=
 ⟨h1, h2, fun x hx => by
   obtain ⟨lt, hl⟩ := hk.2 x.key (List.mem_map.mpr ⟨_, logV_mem (h3 x hx), rfl⟩)
   exact ⟨_, by unfold rd; rw [hl]; rfl⟩⟩
theorem MapV.look {w : World} {P : Program} {t k e : TypeId} {b : Nat} {l : List (Value × Value)} (h : MapV w b l) (ht : P.underlying t = some (.map k e)) {z : Value} (hz : (zeroValue e).run P w = .ok z w) {a : Value} (hk : KeysIn P k (a :: l.map Prod.fst)) (c : Bool) :
   (Instr.lookup t (.map (some b)) a c).run P w = .ok (if c then .tuple #[(logV l a).getD z, .bool (logV l a).isSome] else (logV l a).getD z) w := by
 obtain ⟨es, clock, hb, hs, hm, hst, h3, h4⟩ := h
 obtain ⟨la, hla⟩ := hk.2 a List.mem_cons_self
 have hk' : KeysIn P k (l.map Prod.fst) := ⟨hk.1, fun x hx => hk.2 x (List.mem_cons_of_mem _ hx)⟩
 rcases fit_look c hk.1 ht hz hb (MapV.fit hk' hm hst h3) hla with ⟨hrun, hno, _⟩ | ⟨e0, y, hm0, hkey, hrun, _⟩
 . have : logV l a = none := by
     cases hl : logV l a with
     | none => rfl
     | some v =>
       obtain ⟨x, hx, hxk, _⟩ := h4 a v hl
       exact absurd hxk (hno x hx)
   rw [hrun, this]; rfl
 . have hl := h3 e0 hm0
   rw [hkey] at hl
   rw [hrun, hl]; rfl
theorem MapV.store {w : World} {P : Program} {t k e : TypeId} {b : Nat} {l : List (Value × Value)} (h : MapV w b l) (ht : P.underlying t = some (.map k e)) (hn : l.length < maxLen) {a : Value} (hk : KeysIn P k (a :: l.map Prod.fst)) (v : Value) :
   ∃ o, (Instr.mapUpdate t (.map (some b)) a v).run P w = .ok () (setBlock w b o) /\ MapV (setBlock w b o) b ((a, v) :: l) := by
 obtain ⟨es, clock, hb, hs, hm, hst, h3, h4⟩ := h
 obtain ⟨la, hla⟩ := hk.2 a List.mem_cons_self
 have hk' : KeysIn P k (l.map Prod.fst) := ⟨hk.1, fun x hx => hk.2 x (List.mem_cons_of_mem _ hx)⟩
 have F := MapV.fit hk' hm hst h3
 obtain ⟨es', clock', hrun, F', hput, _, _, hold⟩ := fit_store (R' := allR) hk.1 ht hb F (by omega) (fun _ _ _ _ hz => hz) hla (show allR v = some (.nil, []) from rfl)
 have hkeys : ∀ x ∈ es'.toList, logV ((a, v) :: l) x.key = some x.val := fun x hx => by
   rcases hold x hx with ⟨h1, h2⟩ | ⟨h1, h2⟩
   . rw [logV_ne l v (fun hc => h2 hc.symm)]
     exact h3 x h1
   . rw [h1, h2, logV_same]
 have hrg : ∀ (x : MapEntry) lx, keyOf P k x.key = some lx -> rg P k allR x = (lx, (.nil : DataW Unit)) := fun x lx hx => by
   have : rd P k allR x = some (lx, (.nil : DataW Unit)) := by unfold rd; rw [hx]; rfl
   exact rg_of this
 have hin : ∀ x ∈ es'.toList, ∃ lx, keyOf P k x.key = some lx := fun x hx => hk.2 x.key (show x.key ∈ ((a, v) :: l).map Prod.fst from List.mem_map.mpr ⟨_, logV_mem (hkeys x hx), rfl⟩)
 have hmem : ∀ a' lx, keyOf P k a' = some lx -> (lx, (.nil : DataW Unit)) ∈ putKey la .nil ((es.toList.map (rg P k allR)).foldr DataW.insert []) -> ∃ x ∈ es'.toList, x.key = a' := fun a' lx hw hp => by
   rw [<- hput, mem_srt] at hp
   obtain ⟨x, hx, hxe⟩ := List.mem_map.mp hp
   obtain ⟨c, c1⟩ := hin x hx
   rw [hrg x c c1] at hxe
   refine ⟨x, hx, hk.1.inj (l := lx) ?_ hw⟩
   rw [c1]
   exact congrArg some (congrArg Prod.fst hxe)
 refine ⟨_, hrun, es', clock', heap_setBlock_same hb _, ?_, F'.size, F'.stamped, hkeys, fun a' v' hl => ?_⟩
 . have e1 : es'.size = ((es'.toList.map (rg P k allR)).foldr DataW.insert []).length := by rw [length_sorted]; simp
   rw [e1, hput]
   unfold putKey
   rw [length_insert]
   have e2 := List.length_filter_le (notKey la) ((es.toList.map (rg P k allR)).foldr DataW.insert [])
   rw [length_sorted] at e2
   simp at e2
   simp
   omega
 . have hx : ∃ x ∈ es'.toList, x.key = a' := by
     by_cases hc : a = a'
     . subst hc
       exact hmem a la hla (mem_insert_iff.mpr (.inl rfl))
     . rw [logV_ne l v hc] at hl
       obtain ⟨x, hx, hxk, _⟩ := h4 a' v' hl
       obtain ⟨lx, hlx⟩ := hk.2 a' (List.mem_cons_of_mem _ (List.mem_map.mpr ⟨_, logV_mem hl, rfl⟩))
       refine hmem a' lx hlx (mem_insert_iff.mpr (.inr (List.mem_filter.mpr ⟨mem_srt.mpr (List.mem_map.mpr ⟨x, hx, hrg x lx (by rw [hxk]; exact hlx)⟩), ?_⟩)))
       rw [notKey_iff (k := la) (hk.1.key hla)]
       exact fun hq => hc (hk.1.inj (l := la) hla (by
         have hq : lx = la := hq
         rw [<- hq]; exact hlx))
   obtain ⟨x, hx, hxk⟩ := hx
   have c3 := hkeys x hx
   rw [hxk, hl] at c3
   exact ⟨x, hx, hxk, (Option.some.inj c3).symm⟩
theorem setBlock_otherV {w : World} {b : Nat} {l : List (Value × Value)} (h : MapV w b l) (o : Obj) (k : Nat) (hk : k ≠ b) : (setBlock w b o).heap[k]? = w.heap[k]? := by
 obtain ⟨es, clock, hb, _⟩ := h
 exact heap_setBlock_other hb o hk
end Go.Proofs.Ytmaffamhjmlonaa.S2
