/- The evaluator with lists answers what the call returns: calls by contract and in place; code. No word of the program. -/
import Derived.Test.YtmaffamhjmlonaaS2P
set_option linter.unusedVariables false
set_option linter.unusedSimpArgs false
namespace Go.Proofs.Ytmaffamhjmlonaa.S2
open Go Go.RowKit Sim
def Fresh (ν : Nu) (own : Mem) (g : Nat) : Prop := (∀ i, i < own.b.length -> ν.l i ≠ g) /\ ∀ k e, own.l[k]? = some e -> e.dead = false -> e.own = true -> (ν.v k).ownBlock ≠ some g
theorem WR.addRow {w0 : Base} {ν : Nu} {own : Mem} {mem : Bool} {w : World} (h : WR w0 ν own mem w) {e : LE} {v : Value} (ho : e.own = true) (hv : OwnB w0.heap.size w e v) (hf : ∀ g, v.ownBlock = some g -> Fresh ν own g) (hF : ∀ g, v.ownBlock = some g -> w0.F g = none) :
   WR w0 (extV ν own.l.length v) { own with l := own.l ++ [e] } true w := by
 have vold : ∀ i, i < own.l.length -> (extV ν own.l.length v).v i = ν.v i := fun i hi => ((extV_old ν 0 own.l.length v).2 i hi).symm
 have old : ∀ i e', (own.l ++ [e])[i]? = some e' -> (i < own.l.length /\ own.l[i]? = some e') \/ (i = own.l.length /\ e' = e) := fun i e' hi => by
   rcases Nat.lt_or_ge i own.l.length with hl | hl
   . rw [List.getElem?_append_left hl] at hi; exact .inl ⟨hl, hi⟩
   . have hl2 : i = own.l.length := by
       have := lt_of_some_list hi
       simp at this; omega
     subst hl2
     rw [List.getElem?_append_right (Nat.le_refl _), Nat.sub_self] at hi
     simp at hi
     exact .inr ⟨rfl, hi.symm⟩
 refine ⟨h.below, fun i b hi => ⟨(h.blk i b hi).1.congr (h.okb i b hi) (extV_old ν own.b.length own.l.length v), (h.blk i b hi).2⟩, h.okb.mono (Nat.le_refl _) (by simp), h.inj, fun i e' hi hd => ?_, fun i e' hi hd ho' g hb => ?_, (fun h => by cases h), ⟨h.fr.here, h.fr.offb, fun i e' hi hd ho' g hb => by
   rcases old i e' hi with ⟨hl, hi'⟩ | ⟨rfl, rfl⟩
   . rw [vold i hl] at hb; exact h.fr.offl i e' hi' hd ho' g hb
   . rw [extV_new] at hb; exact hF g hb⟩⟩
 . rcases old i e' hi with ⟨hl, hi'⟩ | ⟨rfl, rfl⟩
   . rw [vold i hl]; exact h.lst i e' hi' hd
   . rw [extV_new]; unfold LOk; rw [ho]; exact hv
 . rcases old i e' hi with ⟨hl, hi'⟩ | ⟨rfl, rfl⟩
   . rw [vold i hl] at hb
     obtain ⟨s1, s2⟩ := h.sep i e' hi' hd ho' g hb
     refine ⟨s1, fun i' e2 hi2 hd2 ho2 hne => ?_⟩
     rcases old i' e2 hi2 with ⟨hl', hi3⟩ | ⟨rfl, rfl⟩
     . rw [vold i' hl']; exact s2 i' e2 hi3 hd2 ho2 hne
     . rw [extV_new]
       intro heq
       exact (hf g heq).2 i e' hi' hd ho' hb
   . rw [extV_new] at hb
     refine ⟨(hf g hb).1, fun i' e2 hi2 hd2 ho2 hne => ?_⟩
     rcases old i' e2 hi2 with ⟨hl', hi3⟩ | ⟨rfl, rfl⟩
     . rw [vold i' hl']; exact (hf g hb).2 i' e2 hi3 hd2 ho2
     . exact absurd rfl hne
def FreshC (ν : Nu) (own : Mem) : List (Sum Value LE) -> List Value -> Prop
 | .inl _ :: r, _ :: vs => FreshC ν own r vs
 | .inr _ :: r, v :: vs => (∀ g, v.ownBlock = some g -> Fresh ν own g) /\ FreshC ν own r vs
 | _, _ => True
theorem freshC_of {w0 : Base} {ν : Nu} {own : Mem} {mem : Bool} {w w' : World} (h : WR w0 ν own mem w) : ∀ (res : List (Sum Value LE)) (vs : List Value), CellsOut w.heap.size w' res vs -> FreshC ν own res vs
 | [], vs, _ => by cases vs <;> trivial
 | .inl x :: r, v :: vs, ho => freshC_of h r vs ho.2
 | .inr e :: r, v :: vs, ho => ⟨fun g hg => by
     have hge := (ho.1.1.2.lt g hg).1
     refine ⟨fun i hi heq => ?_, fun k e' hk hd ho' heq => ?_⟩
     . have := h.lt hi; omega
     . have := (h.rowLt hk hd ho' heq).2; omega, freshC_of h r vs ho.2⟩
 | .inl x :: r, [], ho => ho.elim
 | .inr e :: r, [], ho => ho.elim
theorem freshC_ext {ν : Nu} {own : Mem} {e : LE} {v : Value} : ∀ (res : List (Sum Value LE)) (vs : List Value), FreshC ν own res vs -> (∀ g, v.ownBlock = some g -> ∀ u ∈ vs, u.ownBlock ≠ some g) -> FreshC (extV ν own.l.length v) { own with l := own.l ++ [e] } res vs
 | [], vs, _, _ => by cases vs <;> trivial
 | .inl x :: r, u :: vs, h, hn => freshC_ext r vs h (fun g hg y hy => hn g hg y (List.mem_cons_of_mem _ hy))
 | .inr e' :: r, u :: vs, h, hn => ⟨fun g hg => by
     obtain ⟨f1, f2⟩ := h.1 g hg
     refine ⟨f1, fun k e2 hk hd ho heq => ?_⟩
     rcases Nat.lt_or_ge k own.l.length with hl | hl
     . rw [List.getElem?_append_left hl] at hk
       rw [<- (extV_old ν 0 own.l.length v).2 k hl] at heq
       exact f2 k e2 hk hd ho heq
     . have hl2 : k = own.l.length := by
         have := lt_of_some_list hk
         simp at this; omega
       subst hl2
       rw [extV_new] at heq
       exact hn g heq u List.mem_cons_self hg, freshC_ext r vs h.2 (fun g hg y hy => hn g hg y (List.mem_cons_of_mem _ hy))⟩
 | .inl x :: r, [], _, _ => trivial
 | .inr e' :: r, [], _, _ => trivial
theorem addRowsC {w0 : Base} {B : Nat} {w : World} (hB : w0.heap.size <= B) (hFB : ∀ g, B <= g -> w0.F g = none) : ∀ (res : List (Sum Value LE)) (vs : List Value) (ν : Nu) (own : Mem), WR w0 ν own true w -> CellsOut B w res vs -> FreshC ν own res vs ->
   ∃ ν', Agree own.b.length own.l.length ν ν' /\ WR w0 ν' { own with l := own.l ++ (outC own.l.length res).2 } true w /\ (outC own.l.length res).1.map (concC ν') = vs
 | [], vs, ν, own, h, ho, _ => by
   cases vs with
   | nil => exact ⟨ν, Agree.refl _ _ _, by simpa [outC] using h, rfl⟩
   | cons v vs => exact ho.elim
 | .inl x :: r, [], ν, own, h, ho, _ => ho.elim
 | .inr e :: r, [], ν, own, h, ho, _ => ho.elim
 | .inl x :: r, v :: vs, ν, own, h, ho, hf => by
   obtain ⟨ν', h1, h2, h3⟩ := addRowsC hB hFB r vs ν own h ho.2 hf
   refine ⟨ν', h1, h2, ?_⟩
   show x :: (outC own.l.length r).1.map (concC ν') = _
   rw [h3, ho.1]
 | .inr e :: r, v :: vs, ν, own, h, ho, hf => by
   have hrow : OwnB w0.heap.size w { e with own := true, dead := false } v := ho.1.1.more hB
   have h0 := h.addRow (e := { e with own := true, dead := false }) rfl hrow hf.1 (fun g hg => hFB g (ho.1.1.2.lt g hg).1)
   obtain ⟨ν', h1, h2, h3⟩ := addRowsC hB hFB r vs (extV ν own.l.length v) { own with l := own.l ++ [{ e with own := true, dead := false }] } h0 ho.2 (freshC_ext r vs hf.2 ho.1.2)
   have hl : (own.l ++ [({ e with own := true, dead := false } : LE)]).length = own.l.length + 1 := by simp
   simp only [hl] at h1 h2 h3
   refine ⟨ν', Agree.trans (extV_old ν _ _ v) h1 (Nat.le_refl _) (by omega), ?_, ?_⟩
   . have e1 : own.l ++ (outC own.l.length (.inr e :: r)).2 = own.l ++ [({ e with own := true, dead := false } : LE)] ++ (outC (own.l.length + 1) r).2 := by
       show own.l ++ (({ e with own := true, dead := false } : LE) :: (outC (own.l.length + 1) r).2) = _
       simp
     rw [e1]; exact h2
   . show ν'.v own.l.length :: (outC (own.l.length + 1) r).1.map (concC ν') = _
     rw [h3, <- h1.2 own.l.length (by omega), extV_new]
theorem outC_lt : ∀ (res : List (Sum Value LE)) (m n : Nat), ∀ x ∈ (outC m res).1, okC n (m + (outC m res).2.length) x
 | [], m, n => fun x hx => by cases hx
 | .inl v :: r, m, n => fun x hx => by
   rcases List.mem_cons.mp (show x ∈ .v [true] v :: (outC m r).1 from hx) with rfl | hx
   . trivial
   . exact outC_lt r m n x hx
 | .inr e :: r, m, n => fun x hx => by
   show okC n (m + ((outC (m + 1) r).2.length + 1)) x
   rcases List.mem_cons.mp (show x ∈ .l m :: (outC (m + 1) r).1 from hx) with rfl | hx
   . show m < _; omega
   . exact (outC_lt r (m + 1) n x hx).mono (Nat.le_refl _) (by omega)
theorem outC_app : ∀ (a b : List (Sum Value LE)) (m : Nat), (outC m (a ++ b)).1 = (outC m a).1 ++ (outC (m + (outC m a).2.length) b).1 /\ (outC m (a ++ b)).2 = (outC m a).2 ++ (outC (m + (outC m a).2.length) b).2
 | [], b, m => ⟨rfl, rfl⟩
 | .inl v :: r, b, m => by
   obtain ⟨h1, h2⟩ := outC_app r b m
   exact ⟨by show _ :: (outC m (r ++ b)).1 = _; rw [h1]; rfl, h2⟩
 | .inr e :: r, b, m => by
   obtain ⟨h1, h2⟩ := outC_app r b (m + 1)
   have e1 : m + 1 + (outC (m + 1) r).2.length = m + (outC m (.inr e :: r)).2.length := by
     show _ = m + ((outC (m + 1) r).2.length + 1); omega
   rw [e1] at h1 h2
   exact ⟨by show _ :: (outC (m + 1) (r ++ b)).1 = _; rw [h1]; rfl, by show _ :: (outC (m + 1) (r ++ b)).2 = _; rw [h2]; rfl⟩
theorem outX_flat : ∀ (res : List XV) (m : Nat), (outX m res).2 = (outC m (flatX res)).2
 | [], m => rfl
 | .inl v :: r, m => outX_flat r m
 | .inr e :: r, m => by show _ :: (outX (m + 1) r).2 = _ :: (outC (m + 1) (flatX r)).2; rw [outX_flat r (m + 1)]
 | .st cs :: r, m => by
   show (outC m cs).2 ++ (outX (m + (outC m cs).2.length) r).2 = (outC m (cs ++ flatX r)).2
   rw [outX_flat r, (outC_app cs (flatX r) m).2]
theorem outC_len : ∀ (cs : List (Sum Value LE)) (m : Nat), (outC m cs).1.length = cs.length
 | [], m => rfl
 | .inl v :: r, m => congrArg (· + 1) (outC_len r m)
 | .inr e :: r, m => congrArg (· + 1) (outC_len r (m + 1))
theorem outX_shape {ν : Nu} : ∀ (res : List XV) (vs us : List Value) (m : Nat), Shape res vs us -> (outC m (flatX res)).1.map (concC ν) = us -> (outX m res).1.map (concT ν) = vs
 | [], vs, us, m, h, _ => h.1.symm
 | .inl x :: r, vs, us, m, h, hu => by
   obtain ⟨v, vs', us', rfl, rfl, h'⟩ := h
   have hu : x :: (outC m (flatX r)).1.map (concC ν) = v :: us' := hu
   simp only [List.cons.injEq] at hu
   show x :: (outX m r).1.map (concT ν) = _
   rw [outX_shape r vs' us' m h' hu.2, hu.1]
 | .inr e :: r, vs, us, m, h, hu => by
   obtain ⟨v, vs', us', rfl, rfl, h'⟩ := h
   have hu : ν.v m :: (outC (m + 1) (flatX r)).1.map (concC ν) = v :: us' := hu
   simp only [List.cons.injEq] at hu
   show ν.v m :: (outX (m + 1) r).1.map (concT ν) = _
   rw [outX_shape r vs' us' (m + 1) h' hu.2, hu.1]
 | .st cs :: r, vs, us, m, h, hu => by
   obtain ⟨a, vs', us', rfl, rfl, hl, h'⟩ := h
   have hu : (outC m (cs ++ flatX r)).1.map (concC ν) = a ++ us' := hu
   rw [(outC_app cs (flatX r) m).1, List.map_append] at hu
   obtain ⟨h1, h2⟩ := List.append_inj hu (by rw [List.length_map, outC_len, hl])
   show Value.agg (((outC m cs).1.map (concC ν)).toArray) :: (outX (m + (outC m cs).2.length) r).1.map (concT ν) = _
   rw [h1, outX_shape r vs' us' _ h' h2]
theorem addRows {w0 : Base} {w1 w : World} (res : List XV) (vs : List Value) (ν : Nu) (own : Mem) (mem : Bool) (h1 : WR w0 ν own mem w1) (h : WR w0 ν own true w) (ho : OutOk w1.heap.size w res vs) :
   ∃ ν', Agree own.b.length own.l.length ν ν' /\ WR w0 ν' { own with l := own.l ++ (outX own.l.length res).2 } true w /\ (outX own.l.length res).1.map (concT ν') = vs := by
 obtain ⟨us, hs, hc⟩ := ho
 obtain ⟨ν', k1, k2, k3⟩ := addRowsC h1.below.size (fun g hg => h1.fr.fresh hg) (flatX res) us ν own h hc (freshC_of h1 (flatX res) us hc)
 exact ⟨ν', k1, by rw [outX_flat]; exact k2, outX_shape res vs us _ hs k3⟩
theorem outX_lt : ∀ (res : List XV) (m n : Nat), (∀ x ∈ (outX m res).1, okT n (m + (outX m res).2.length) x)
 | [], m, n => fun x hx => by cases hx
 | .inl v :: r, m, n => fun x hx => by
   rcases List.mem_cons.mp (show x ∈ .inl ([true], v) :: (outX m r).1 from hx) with rfl | hx
   . trivial
   . exact outX_lt r m n x hx
 | .inr e :: r, m, n => fun x hx => by
   show okT n (m + ((outX (m + 1) r).2.length + 1)) x
   rcases List.mem_cons.mp (show x ∈ .inr m :: (outX (m + 1) r).1 from hx) with rfl | hx
   . show m < _; omega
   . exact (outX_lt r (m + 1) n x hx).mono (Nat.le_refl _) (by omega)
 | .st cs :: r, m, n => fun x hx => by
   show okT n (m + ((outC m cs).2 ++ (outX (m + (outC m cs).2.length) r).2).length) x
   rw [List.length_append]
   rcases List.mem_cons.mp (show x ∈ .st (outC m cs).1 :: (outX (m + (outC m cs).2.length) r).1 from hx) with rfl | hx
   . exact fun c hc => (outC_lt cs m n c hc).mono (Nat.le_refl _) (by omega)
   . exact (outX_lt r _ n x hx).mono (Nat.le_refl _) (by omega)
theorem argsV_isL {ν : Nu} : ∀ {l : List SV} {vs us : List Value}, argsV l = some vs -> IsL ν l us -> us = vs
 | [], vs, us, h, hi => by
   cases us with
   | nil => simp only [argsV, qS] at h; exact h
   | cons u us => exact hi.elim
 | .inl (_, v) :: r, vs, us, h, hi => by
   cases us with
   | nil => exact hi.elim
   | cons u us =>
     unfold argsV at h
     split at h
     . rename_i l hl
       simp only [qS] at h
       rw [<- h, argsV_isL hl hi.2, show u = v from hi.1]
     . cases h
 | .inr _ :: _, vs, us, h, hi => by simp [argsV] at h
 | .c _ :: _, vs, us, h, hi => by simp [argsV] at h
 | .lp _ _ _ _ :: _, vs, us, h, hi => by simp [argsV] at h
 | .tp _ :: _, vs, us, h, hi => by simp [argsV] at h
 | .fn _ _ _ :: _, vs, us, h, hi => by simp [argsV] at h
 | .sub _ _ _ _ :: _, vs, us, h, hi => by simp [argsV] at h
 | .st _ :: _, vs, us, h, hi => by simp [argsV] at h
 | .mp _ :: _, vs, us, h, hi => by simp [argsV] at h
 | .ia _ _ _ _ :: _, vs, us, h, hi => by simp [argsV] at h
 | .rp _ _ _ _ :: _, vs, us, h, hi => by simp [argsV] at h
 | .any :: _, vs, us, h, hi => by simp [argsV] at h
theorem cellX_ok {s : St} {w0 : Base} {w : World} {ν : Nu} {mem : Bool} (hw : WR w0 ν s.own mem w) : ∀ {l : List CV} {xs : List (Sum Value LE)}, cellX s l = some xs -> CellsOk w xs (l.map (concC ν))
 | [], xs, h => by simp only [cellX, qS] at h; subst h; trivial
 | .v fl x :: r, xs, h => by
   unfold cellX at h
   split at h
   . rename_i l hl
     simp only [qS] at h
     subst h
     exact ⟨rfl, cellX_ok hw hl⟩
   . cases h
 | .l k :: r, xs, h => by
   unfold cellX at h
   split at h
   . rename_i e l he hl
     simp only [qS] at h
     subst h
     obtain ⟨hk, hd⟩ := getL_some he
     exact ⟨hw.inB hk hd, cellX_ok hw hl⟩
   . cases h
 | .a _ _ :: _, xs, h => by simp [cellX] at h
theorem argsX_ok {s : St} {w0 : Base} {w : World} {ν : Nu} {mem : Bool} (hw : WR w0 ν s.own mem w) : ∀ {l : List SV} {xs : List XV} {us : List Value}, argsX s l = some xs -> (∀ p ∈ subsO s l, p.1 = p.2) -> IsL ν l us -> ArgsOk w xs us
 | [], xs, us, h, _, hi => by
   simp only [argsX, qS] at h
   subst h
   cases us with
   | nil => trivial
   | cons u us => exact hi.elim
 | .inl (_, v) :: r, xs, us, h, hq, hi => by
   cases us with
   | nil => exact hi.elim
   | cons u us =>
     unfold argsX at h
     split at h
     . rename_i l hl
       simp only [qS] at h
       subst h
       exact ⟨hi.1, argsX_ok hw hl hq hi.2⟩
     . cases h
 | .sub k lo n sz :: r, xs, us, h, hq, hi => by
   cases us with
   | nil => exact hi.elim
   | cons u us =>
     unfold argsX at h
     split at h
     . rename_i e l he hl
       cases hb : Nat.beq sz e.size
       . rw [hb] at h; cases h
       . rw [hb] at h
         simp only [cond_true, qS] at h
         subst h
         obtain ⟨hk, hd⟩ := getL_some he
         have hsz := qB hb
         unfold subsO at hq
         simp only [he] at hq
         have hle : lo + n <= e.n := by have := hq (pre (decide (lo + n <= e.n)), true) List.mem_cons_self; simpa [pre] using this
         exact ⟨by rw [show u = subOf (ν.v k) lo n sz from hi.1, hsz]; exact (hw.inB hk hd).sub lo n hle true, argsX_ok hw hl (fun p hp => hq p (List.mem_cons_of_mem _ hp)) hi.2⟩
     . cases h
 | .c k :: r, xs, us, h, hq, hi => by
   cases us with
   | nil => exact hi.elim
   | cons u us =>
     unfold argsX at h
     split at h
     . rename_i e l he hl
       simp only [qS] at h
       subst h
       obtain ⟨hk, hd⟩ := getL_some he
       exact ⟨by rw [show u = ν.v k from hi.1]; exact hw.inB hk hd, argsX_ok hw hl hq hi.2⟩
     . cases h
 | .st cs :: r, xs, us, h, hq, hi => by
   cases us with
   | nil => exact hi.elim
   | cons u us =>
     unfold argsX at h
     split at h
     . rename_i c l hc hl
       simp only [qS] at h
       subst h
       exact ⟨⟨cs.map (concC ν), hi.1, cellX_ok hw hc⟩, argsX_ok hw hl hq hi.2⟩
     . cases h
 | .inr _ :: _, vs, us, h, _, hi => by simp [argsX] at h
 | .lp _ _ _ _ :: _, vs, us, h, _, hi => by simp [argsX] at h
 | .tp _ :: _, vs, us, h, _, hi => by simp [argsX] at h
 | .fn _ _ _ :: _, vs, us, h, _, hi => by simp [argsX] at h
 | .mp _ :: _, vs, us, h, _, hi => by simp [argsX] at h
 | .ia _ _ _ _ :: _, vs, us, h, _, hi => by simp [argsX] at h
 | .rp _ _ _ _ :: _, vs, us, h, _, hi => by simp [argsX] at h
 | .any :: _, vs, us, h, _, hi => by simp [argsX] at h
theorem pcallS_some {E : Env} {f : FuncId} {args : List SV} {s s' : St} {x : SV} (h : pcallS E f args s = some (x, s')) :
   ∃ l v b fn fl, argsV args = some l ∧ E.pcall f l = some (v, b) ∧ E.P.funcs[f]? = some fn ∧ (fn.name == "runtime.NumGoroutine") = false ∧ fn.body.isNone = false ∧ x = .inl (fl, v) ∧ s' = { s with mem := true, obl := (b, true) :: s.obl } := by
 unfold pcallS at h
 split at h
 . rename_i l hl
   split at h
   . rename_i v b hb
     split at h
     . rename_i fn hf
       cases hn : (fn.name == "runtime.NumGoroutine" || fn.body.isNone)
       . rw [hn] at h
         simp only [cond_false, qS, qP] at h
         simp only [Bool.or_eq_false_iff] at hn
         exact ⟨l, v, b, fn, _, hl, hb, hf, hn.1, hn.2, h.1.symm, h.2.symm⟩
       . rw [hn] at h; cases h
     . cases h
   . cases h
 . cases h
theorem lcallS_some {E : Env} {f : FuncId} {args : List SV} {s s' : St} {x : SV} (h : lcallS E f args s = some (x, s')) :
   ∃ l tup res b fn, argsX s args = some l ∧ E.lcall f l = some (tup, res, b) ∧ E.P.funcs[f]? = some fn ∧ (fn.name == "runtime.NumGoroutine") = false ∧ fn.body.isNone = false ∧
     s' = { s with own := { s.own with l := s.own.l ++ (outX s.own.l.length res).2 }, mem := true, obl := (b, true) :: (subsO s args ++ s.obl) } /\
     ((tup = true /\ x = .tp (outX s.own.l.length res).1) \/ (tup = false /\ ∃ p, (outX s.own.l.length res).1 = [.inl p] /\ x = .inl p) \/ (tup = false /\ ∃ k, (outX s.own.l.length res).1 = [.inr k] /\ x = .c k) \/ (tup = false /\ ∃ cs, (outX s.own.l.length res).1 = [.st cs] /\ x = .st cs)) := by
 unfold lcallS at h
 split at h
 . rename_i l hl
   split at h
   . rename_i tup res b hb
     split at h
     . rename_i fn hf
       cases hn : (fn.name == "runtime.NumGoroutine" || fn.body.isNone)
       . rw [hn] at h
         simp only [cond_false] at h
         simp only [Bool.or_eq_false_iff] at hn
         refine ⟨l, tup, res, b, fn, hl, hb, hf, hn.1, hn.2, ?_⟩
         split at h
         . rename_i r es ho
           simp only [qS, qP] at h
           obtain ⟨rfl, rfl⟩ := h
           rw [ho]; exact ⟨rfl, .inl ⟨rfl, rfl⟩⟩
         . rename_i p es ho
           simp only [qS, qP] at h
           obtain ⟨rfl, rfl⟩ := h
           rw [ho]; exact ⟨rfl, .inr (.inl ⟨rfl, p, rfl, rfl⟩)⟩
         . rename_i cs es ho
           simp only [qS, qP] at h
           obtain ⟨rfl, rfl⟩ := h
           rw [ho]; exact ⟨rfl, .inr (.inr (.inr ⟨rfl, cs, rfl, rfl⟩))⟩
         . rename_i k es ho
           simp only [qS, qP] at h
           obtain ⟨rfl, rfl⟩ := h
           rw [ho]; exact ⟨rfl, .inr (.inr (.inl ⟨rfl, k, rfl, rfl⟩))⟩
         . cases h
       . rw [hn] at h; cases h
     . cases h
   . cases h
 . cases h
theorem bcallS_some {E : Env} {f : FuncId} {args : List SV} {s s' : St} {x : SV} (h : bcallS E f args s = some (x, s')) :
   ∃ op i r fl T e acc v add c fn vs fl' flv, E.bop f = some op ∧ args = .inr (i, 0, none) :: r ∧ s.lo ≤ i ∧ (∃ b, s.own.b[i]? = some b ∧ b.kd = .bld fl T e acc) ∧ argsV r = some vs ∧ E.bt = some (T, e) ∧ bopR op acc vs = some (v, add, c) ∧ E.P.funcs[f]? = some fn ∧ (fn.name == "runtime.NumGoroutine") = false ∧ fn.body.isNone = false ∧ quietB s i e = true ∧
     (Holds' s' -> c = true /\ fitB acc add = true) /\ s'.mem = true /\ s'.orc = s.orc /\ x = .inl (flv, v) /\ (s'.obl = (pre (c && fitB acc add), true) :: s.obl /\ True \/ s'.obl = s.obl /\ True) /\ s'.tmps = s.tmps /\
     s'.own = { s.own with b := s.own.b.set i ⟨[], 0, .bld fl' T e (accB (anyF fl || r.any fun x => anyF (flS x)) acc add)⟩ } /\ s'.lo = s.lo /\ s'.llo = s.llo /\ True := by
 unfold bcallS at h
 split at h
 . rename_i op i r ho
   cases hlo : Nat.ble s.lo i
   . rw [hlo] at h; cases h
   . rw [hlo] at h
     simp only [cond_true] at h
     split at h
     . rename_i b vs hb hvs
       split at h
       . rename_i fl T e acc hk
         split at h
         . rename_i T' e' v add c fn hbt hop hf
           simp only [cond_eq_ite] at h
           split at h
           . cases h
           rename_i hq
           have hq : (fn.name == "runtime.NumGoroutine" || fn.body.isNone || !Nat.beq T T' || !Nat.beq e e' || !quietB s i e) = false := Bool.eq_false_iff.mpr hq
           simp only [Bool.or_eq_false_iff, Bool.not_eq_false'] at hq
           obtain ⟨⟨⟨⟨q1, q2⟩, q3⟩, q4⟩, q5⟩ := hq
           have q3 := qB q3
           have q4 := qB q4
           subst q3 q4
           split at h
           . rename_i hop2
             simp only [qS, qP] at h
             obtain ⟨rfl, rfl⟩ := h
             refine ⟨op, i, r, fl, T, e, acc, v, add, c, fn, vs, [true], _, ho, rfl, Nat.le_of_ble_eq_true hlo, ⟨b, hb, hk⟩, hvs, hbt, hop, hf, q1, q2, q5, fun hh => ?_, rfl, rfl, rfl, .inl ⟨rfl, trivial⟩, rfl, by rw [hop2], rfl, rfl, trivial⟩
             have := hh _ List.mem_cons_self
             simpa [pre] using this
           . rename_i hop2
             split at h
             . rename_i hc
               simp only [qS, qP] at h
               obtain ⟨rfl, rfl⟩ := h
               refine ⟨op, i, r, fl, T, e, acc, v, add, c, fn, vs, [], [], ho, rfl, Nat.le_of_ble_eq_true hlo, ⟨b, hb, hk⟩, hvs, hbt, hop, hf, q1, q2, q5, fun hh => by simpa using hc, rfl, rfl, rfl, .inr ⟨rfl, trivial⟩, rfl, ?_, rfl, rfl, trivial⟩
               have hop2 : (anyF fl || r.any fun x => anyF (flS x)) = false := by simpa using hop2
               rw [hop2]
             . cases h
         . cases h
       . cases h
     . cases h
 . cases h
theorem acallS_some {E : Env} {f : FuncId} {args : List SV} {s s' : St} {x : SV} (h : acallS E f args s = some (x, s')) :
   ∃ l v b fn, argsV args = some l ∧ E.acall f l = some (v, b) ∧ E.P.funcs[f]? = some fn ∧ (fn.name == "runtime.NumGoroutine") = false ∧ fn.body.isNone = false ∧ x = .tp [.inl ([true], v), .inr s.own.l.length] ∧ s' = { s with own := { s.own with l := s.own.l ++ [deadE] }, mem := true, obl := (b, true) :: s.obl } := by
 unfold acallS at h; cases h
theorem WR.addDead {w0 : Base} {ν : Nu} {own : Mem} {mem : Bool} {w : World} (h : WR w0 ν own mem w) (v : Value) : WR w0 (extV ν own.l.length v) { own with l := own.l ++ [deadE] } true w := by
 have vold : ∀ i, i < own.l.length -> (extV ν own.l.length v).v i = ν.v i := fun i hi => ((extV_old ν 0 own.l.length v).2 i hi).symm
 have old : ∀ i e', (own.l ++ [deadE])[i]? = some e' -> e'.dead = false -> i < own.l.length /\ own.l[i]? = some e' := fun i e' hi hd => by
   rcases Nat.lt_or_ge i own.l.length with hl | hl
   . rw [List.getElem?_append_left hl] at hi; exact ⟨hl, hi⟩
   . have hl2 : i = own.l.length := by
       have := lt_of_some_list hi
       simp at this; omega
     subst hl2
     rw [List.getElem?_append_right (Nat.le_refl _), Nat.sub_self] at hi
     simp at hi
     subst hi; cases hd
 refine ⟨h.below, fun i b hi => ⟨(h.blk i b hi).1.congr (h.okb i b hi) (extV_old ν own.b.length own.l.length v), (h.blk i b hi).2⟩, h.okb.mono (Nat.le_refl _) (by simp), h.inj, fun i e' hi hd => ?_, fun i e' hi hd ho' g hb => ?_, (fun h => by cases h), ⟨h.fr.here, h.fr.offb, fun i e' hi hd ho' g hb => by
   obtain ⟨hl, hi'⟩ := old i e' hi hd
   rw [vold i hl] at hb; exact h.fr.offl i e' hi' hd ho' g hb⟩⟩
 . obtain ⟨hl, hi'⟩ := old i e' hi hd
   rw [vold i hl]; exact h.lst i e' hi' hd
 . obtain ⟨hl, hi'⟩ := old i e' hi hd
   rw [vold i hl] at hb
   obtain ⟨s1, s2⟩ := h.sep i e' hi' hd ho' g hb
   refine ⟨s1, fun i' e2 hi2 hd2 ho2 hne => ?_⟩
   obtain ⟨hl', hi3⟩ := old i' e2 hi2 hd2
   rw [vold i' hl']; exact s2 i' e2 hi3 hd2 ho2 hne
theorem accB_any (op : Bool) (acc : ByteArray) (add : Option ByteArray) : accB op acc add = accB true acc add := by
 cases add with
 | none => rfl
 | some s => cases op <;> simp [accB, catZ_eq]
theorem initS_mem' : ∀ (l : List SV) (k : Nat), ∀ p ∈ initS k l, p.2 ∈ l
 | [], _, p, hp => by cases hp
 | x :: r, k, p, hp => by
   rcases List.mem_cons.mp hp with rfl | hp
   . exact List.mem_cons_self
   . exact List.mem_cons_of_mem _ (initS_mem' r _ p hp)
theorem quietB_blk {s : St} {i : Nat} {e : TypeId} (h : quietB s i e = true) {j : Nat} {b : Blk} (hj : s.own.b[j]? = some b) (hne : j ≠ i) : (b.kd = .cells /\ b.elem ≠ e) \/ ∃ fl str pos, b.kd = .iter fl str pos := by
 unfold quietB at h
 simp only [Bool.and_eq_true] at h
 have := List.all_eq_true.mp h.1 j (List.mem_range.mpr (lt_of_some_list hj))
 rw [hj] at this
 simp only [Bool.or_eq_true] at this
 rcases this with h0 | h0
 . exact absurd (qB h0).symm hne
 . split at h0
   . rename_i hk
     refine .inl ⟨hk, fun heq => ?_⟩
     rw [heq] at h0; simp at h0
   . rename_i fl str pos hk
     exact .inr ⟨_, _, _, hk⟩
   . cases h0
   . cases h0
   . cases h0
   . cases h0
theorem quietB_lst {s : St} {i : Nat} {e : TypeId} (h : quietB s i e = true) {k : Nat} {l : LE} (hk : s.own.l[k]? = some l) (hd : l.dead = false) (ho : l.own = true) : l.elT ≠ e := fun heq => by
 unfold quietB at h
 simp only [Bool.and_eq_true] at h
 have := List.all_eq_true.mp h.2 l (List.mem_of_getElem? hk)
 rw [hd, ho, heq] at this
 simp at this
theorem WR.bcall {w0 : Base} {ν : Nu} {s : St} {mem : Bool} {w w' : World} (h : WR w0 ν s.own mem w) {i : Nat} {b : Blk} {fl : List Bool} {T e : TypeId} {acc : ByteArray} (hi : s.own.b[i]? = some b) (hk : b.kd = .bld fl T e acc) (hq : quietB s i e = true) {nb : Blk} (hc : nb.cells = [])
   (h1 : BOk w0.heap.size ν w' (ν.l i) nb) (h2 : Below w0.heap.size w w') (h3 : Lib.OthersKept e (some (ν.l i)) w w') (hF : w0.F = fun _ => none) : WR w0 ν { s.own with b := s.own.b.set i nb } true w' := by
 have hil := lt_of_some_list hi
 have hge := (h.blk i b hi).2
 have hcs : ∀ c ∈ nb.cells, okV s.own.b.length s.own.l.length c := fun c hcm => by rw [hc] at hcm; cases hcm
 refine ⟨h.below.trans h2, fun j c hj => ?_, (h.okb.set (i := i) (b := nb) hcs).mono (by simp) (Nat.le_refl _), fun j k hj hk he => h.inj j k (by simpa using hj) (by simpa using hk) he, fun k l hl hd => ?_, fun k l hl hd ho g hg => ⟨fun j hj => (h.sep k l hl hd ho g hg).1 j (by simpa using hj), (h.sep k l hl hd ho g hg).2⟩, (fun h => by cases h), by rw [hF]; exact .void _ _ _⟩
 . by_cases hij : i = j
   . subst hij
     rw [List.getElem?_set_self hil] at hj
     simp only [qS] at hj
     subst hj
     exact ⟨h1, hge⟩
   . rw [List.getElem?_set_ne hij] at hj
     obtain ⟨k1, k2⟩ := h.blk j c hj
     have hjl := lt_of_some_list hj
     have hne : some (ν.l j) ≠ some (ν.l i) := fun e => hij (h.inj i j hil hjl (Option.some.inj e).symm)
     refine ⟨?_, k2⟩
     rcases quietB_blk hq hj (fun e => hij e.symm) with ⟨q1, q2⟩ | ⟨f', str, pos, q1⟩
     . unfold BOk at k1 ⊢
       rw [q1] at k1 ⊢
       exact h3 _ _ k1 hne fun c fz heq => by
         simp only [Obj.cells.injEq] at heq
         exact q2 heq.2.1
     . unfold BOk at k1 ⊢
       rw [q1] at k1 ⊢
       exact h3 _ _ k1 hne fun c fz heq => by cases heq
 . have h0 := h.lst k l hl hd
   unfold LOk at h0 ⊢
   cases ho : l.own
   . rw [ho] at h0
     exact InB.kept h0 fun b hb => h2.block b hb
   . rw [ho] at h0
     refine ⟨h0.1, h0.2.1, ?_⟩
     rcases h0.2.2 with hn | ⟨g, cap, cur, hv, hb, hg, rest⟩
     . exact .inl hn
     . refine .inr ⟨g, cap, cur, hv, hb, h3 _ _ hg (fun heq => ?_) (fun c fz heq => ?_), rest⟩
       . exact (h.sep k l hl hd ho g (by rw [hv]; rfl)).1 i hil (Option.some.inj heq).symm
       . simp only [Obj.cells.injEq] at heq
         exact quietB_lst hq hl hd ho heq.2.1
theorem enterO_st {E : Env} {ih : Runner} (hih : RunSt ih) : ClSt (enterO E ih) := fun f args s x s' hlo hllo hokb hargs h => by
 unfold enterO at h
 split at h
 . rename_i fn hf
   cases hb : (fn.name == "runtime.NumGoroutine")
   . rw [hb] at h
     simp only [cond_false] at h
     split at h
     . rename_i c hbody
       have hg : Good { s with tmps := initS 0 args } := ⟨hlo, hllo, fun p hp => hargs _ (initS_mem' _ _ p hp), hokb⟩
       split at h
       . rename_i s1 hr
         obtain ⟨l1, g1⟩ := hih _ _ _ _ _ hg hr
         split at h
         . rename_i u hu
           simp only [qS, qP] at h
           obtain ⟨rfl, rfl⟩ := h
           exact ⟨⟨l1.ext, l1.len, l1.llen, l1.lo, l1.llo, l1.keep, l1.lkeep⟩, simRes_st hu g1, g1.okb⟩
         . cases h
       . rename_i s1 hr
         obtain ⟨l1, g1⟩ := hih _ _ _ _ _ hg hr
         split at h
         . rename_i u hu
           simp only [qS, qP] at h
           obtain ⟨rfl, rfl⟩ := h
           exact ⟨⟨l1.ext, l1.len, l1.llen, l1.lo, l1.llo, l1.keep, l1.lkeep⟩, simRes_st hu g1, g1.okb⟩
         . cases h
       . cases h
     . cases h
   . rw [hb] at h; cases h
 . cases h
theorem enterS_st {E : Env} {ih : Runner} (hih : RunSt ih) : ClSt (enterS E ih) := fun f args s x s' hlo hllo hokb hargs h => by
 unfold enterS at h
 split at h
 . rename_i r hr
   obtain ⟨l, v, b, fn, fl, _, _, _, _, _, rfl, rfl⟩ := pcallS_some (hr.trans h)
   exact ⟨.same (fun p hp => List.mem_cons_of_mem _ hp) rfl rfl rfl, trivial, hokb⟩
 . split at h
   . rename_i r hr
     obtain ⟨l, tup, res, b, fn, _, _, _, _, _, rfl, hx⟩ := lcallS_some (hr.trans h)
     refine ⟨⟨fun p hp => List.mem_cons_of_mem _ (List.mem_append_right _ hp), Nat.le_refl _, by simp, rfl, rfl, fun _ _ => rfl, fun i hi => List.getElem?_append_left (Nat.lt_of_lt_of_le hi hllo)⟩, ?_, hokb.mono (Nat.le_refl _) (by simp)⟩
     have hlt := outX_lt res s.own.l.length s.own.b.length
     rcases hx with ⟨_, rfl⟩ | ⟨_, p, _, rfl⟩ | ⟨_, k, he, rfl⟩ | ⟨_, cs, he, rfl⟩
     . intro x hx
       show okT s.own.b.length (s.own.l ++ (outX s.own.l.length res).2).length x
       rw [List.length_append]
       exact hlt x hx
     . trivial
     . show k < (s.own.l ++ (outX s.own.l.length res).2).length
       rw [List.length_append]
       exact hlt (.inr k) (by rw [he]; simp)
     . show okT s.own.b.length (s.own.l ++ (outX s.own.l.length res).2).length (.st cs)
       rw [List.length_append]
       exact hlt (.st cs) (by rw [he]; simp)
   . split at h
     . rename_i r hr
       obtain ⟨op, i, r', fl, T, e, acc, v, add, c, fn, vs, fl', flv, k1, rfl, k3, k4, k5, _, _, _, _, _, _, _, _, _, rfl, hobl, htm, hown, hlo', hllo', _⟩ := bcallS_some (hr.trans h)
       refine ⟨⟨fun p hp => by rcases hobl with ⟨e, _⟩ | ⟨e, _⟩ <;> rw [e]; exact List.mem_cons_of_mem _ hp; exact hp, by rw [hown]; simp, by rw [hown]; exact Nat.le_refl _, hlo', hllo', fun j hj => ?_, fun _ _ => by rw [hown]⟩, trivial, ?_⟩
       . rw [hown]
         show (s.own.b.set i _)[j]? = _
         rw [List.getElem?_set_ne (by omega)]
       . rw [hown]
         exact (hokb.set (i := i) (b := ⟨[], 0, .bld fl' T e (accB (anyF fl || r'.any fun x => anyF (flS x)) acc add)⟩) (fun c hc => by cases hc)).mono (by simp) (Nat.le_refl _)
     . split at h
       . rename_i r hr
         obtain ⟨l, v, b, fn, _, _, _, _, _, rfl, rfl⟩ := acallS_some (hr.trans h)
         refine ⟨⟨fun p hp => List.mem_cons_of_mem _ hp, Nat.le_refl _, by simp, rfl, rfl, fun _ _ => rfl, fun i hi => List.getElem?_append_left (Nat.lt_of_lt_of_le hi hllo)⟩, fun x hx => ?_, hokb.mono (Nat.le_refl _) (by simp)⟩
         rcases List.mem_cons.mp hx with rfl | hx
         . trivial
         . rw [List.mem_singleton.mp hx]
           show s.own.l.length < (s.own.l ++ [deadE]).length
           rw [List.length_append]; simp
       . split at h
         . rename_i r hr
           exact effS_st f args s x s' hlo hllo hokb hargs (hr.trans h)
         . exact enterO_st hih f args s x s' hlo hllo hokb hargs h
theorem look_init {ν : Nu} : ∀ (l : List SV) (vs : List Value) (k t : Nat), IsL ν l vs -> k <= t -> Is ν (look (initS k l) t) ((vs[t - k]?).getD undef)
 | [], vs, k, t, _, _ => trivial
 | x :: r, [], k, t, h, _ => h.elim
 | x :: r, v :: vs, k, t, h, hkt => by
   unfold initS look
   cases hb : Nat.beq k t
   . have hne : k ≠ t := fun e => by rw [e] at hb; simp at hb
     have := look_init r vs (k + 1) t h.2 (by omega)
     rw [show t - k = (t - (k + 1)) + 1 by omega]
     exact this
   . have he : k = t := qB hb
     subst he
     simpa using h.1
theorem isL_len {ν : Nu} : ∀ (l : List SV) (vs : List Value), IsL ν l vs -> l.length = vs.length
 | [], [], _ => rfl
 | x :: r, v :: vs, h => by simp [isL_len r vs h.2]
 | [], _ :: _, h => h.elim
 | _ :: _, [], h => h.elim
theorem tr_init {args : List SV} {vs : List Value} {ν : Nu} (h : IsL ν args vs) (m : Nat) (s : St) :
   TR (args.length + (m - args.length)) ν { s with tmps := initS 0 args } { tmps := vs.toArray ++ Array.replicate (m - vs.toArray.size) undef, defers := [] } := by
 have hl := isL_len _ _ h
 refine ⟨by simp [hl], fun t => ?_, rfl⟩
 show Is ν (look (initS 0 args) t) _
 have h0 := look_init args vs 0 t h (Nat.zero_le _)
 rw [Nat.sub_zero] at h0
 have e : (vs.toArray ++ Array.replicate (m - vs.toArray.size) undef).getD t undef = (vs[t]?).getD undef := by
   simp only [Array.getD_eq_getD_getElem?, Array.getElem?_append, List.size_toArray, List.getElem?_toArray]
   by_cases ht : t < vs.length
   . rw [if_pos ht]
   . rw [if_neg ht, List.getElem?_eq_none (by omega), Array.getElem?_replicate]
     split <;> rfl
 rw [e]; exact h0
theorem enterO_ok {E : Env} {w0 : Base} {k : Nat} {ih : Runner} (hst : RunSt ih) (hok : RunOk E w0 k ih) : ClOk E w0 (enterO E ih) := fun f args s x s' hlo hllo hargs h hh ν w vs hvs hw => by
 unfold enterO at h
 split at h
 . rename_i fn hf
   cases hb : (fn.name == "runtime.NumGoroutine")
   . rw [hb] at h
     simp only [cond_false] at h
     split at h
     . rename_i c hbody
       have hg : Good { s with tmps := initS 0 args } := ⟨hlo, hllo, fun p hp => hargs _ (initS_mem' _ _ p hp), hw.okb⟩
       refine ⟨⟨fn, hf, hb, by rw [hbody]; rfl⟩, calls_of_wp hf hbody ?_⟩
       split at h
       . rename_i s1 hr
         split at h
         . rename_i u hu
           simp only [qS, qP] at h
           obtain ⟨rfl, rfl⟩ := h
           exact (hok _ _ _ _ _ hg hr hh _ ν _ w (tr_init hvs fn.ntmps s) hw fun ν' a' w' ha ht' hw' => by
             obtain ⟨v, hv, hres⟩ := simRes_ok hu ht' hw'
             exact bodyPost_end hres ht'.df ⟨ν', v, ha, rfl, hv, hw'⟩).wp
         . cases h
       . rename_i s1 hr
         split at h
         . rename_i u hu
           simp only [qS, qP] at h
           obtain ⟨rfl, rfl⟩ := h
           exact (hok _ _ _ _ _ hg hr hh _ ν _ w (tr_init hvs fn.ntmps s) hw fun ν' a' w' ha ht' hw' => by
             obtain ⟨v, hv, hres⟩ := simRes_ok hu ht' hw'
             exact bodyPost_ret hres ht'.df ⟨ν', v, ha, rfl, hv, hw'⟩).wp
         . cases h
       . cases h
     . cases h
   . rw [hb] at h; cases h
 . cases h
theorem enterS_ok {E : Env} (HC : CallOk E) {w0 : Base} (hG : GlobB E w0) {k : Nat} {ih : Runner} (hst : RunSt ih) (hok : RunOk E w0 k ih) : ClOk E w0 (enterS E ih) := fun f args s x s' hlo hllo hargs h hh ν w vs hvs hw => by
 unfold enterS at h
 split at h
 . rename_i r hr
   obtain ⟨l, v, b, fn, fl, hl, hb, hf, hn, hbody, rfl, rfl⟩ := pcallS_some (hr.trans h)
   have e : b = true := hh (b, true) List.mem_cons_self
   subst e
   refine ⟨⟨fn, hf, hn, hbody⟩, ?_⟩
   rw [argsV_isL hl hvs]
   exact (HC.2.1 f l v hb w (hG.below hw.below)).mono fun e w' ⟨he, hb⟩ => ⟨ν, v, Agree.refl _ _ _, he, rfl, hw.grown hb⟩
 . split at h
   . rename_i r hr
     obtain ⟨l, tup, res, b, fn, hl, hb, hf, hn, hbody, rfl, hx⟩ := lcallS_some (hr.trans h)
     have e : b = true := hh (b, true) List.mem_cons_self
     subst e
     refine ⟨⟨fn, hf, hn, hbody⟩, ?_⟩
     refine (HC.2.2.1 f l tup res hb w vs (hG.below hw.below) (argsX_ok hw hl (fun p hp => hh p (List.mem_cons_of_mem _ (List.mem_append_left _ hp))) hvs)).mono fun e w' ⟨us, he, hout, hbel⟩ => ?_
     obtain ⟨ν', h1, h2, h3⟩ := addRows res us ν s.own _ hw (hw.grown hbel) hout
     refine ⟨ν', _, h1, he, ?_, h2⟩
     rcases hx with ⟨rfl, rfl⟩ | ⟨rfl, p, hp, rfl⟩ | ⟨rfl, k, hp, rfl⟩ | ⟨rfl, cs, hp, rfl⟩
     . show Value.tuple us.toArray = .tuple ((outX s.own.l.length res).1.map (concT ν')).toArray
       rw [h3]
     . rw [hp] at h3
       rw [<- h3]; rfl
     . rw [hp] at h3
       rw [<- h3]; rfl
     . rw [hp] at h3
       rw [<- h3]; rfl
   . split at h
     . rename_i r hr
       obtain ⟨op, i, r', fl, T, e, acc, v, add, c, fn, us, fl', flv, ho, rfl, hlo', ⟨b, hb, hk⟩, hus, hbt, hop, hf, hn, hbody, hq, hh', hmem, _, rfl, _, _, hown, _, _, _⟩ := bcallS_some (hr.trans h)
       obtain ⟨rfl, hfit⟩ := hh' hh
       refine ⟨⟨fn, hf, hn, hbody⟩, ?_⟩
       have hvs' : vs = .pointer (some ⟨ν.l i, 0, none⟩) :: us := by
         cases vs with
         | nil => exact hvs.elim
         | cons v0 vs => rw [argsV_isL hus hvs.2, show v0 = _ from hvs.1]; rfl
       subst hvs'
       have hB := (hw.blk i b hb).1
       have hBk := hB
       unfold BOk at hB
       rw [hk] at hB
       refine (HC.2.2.2.1 f op T e ho hbt acc us v add hop w0.heap.size (ν.l i) w hB.1 hfit hw.below.size).mono fun r w' ⟨h1, h2, h3, h4⟩ => ⟨ν, v, Agree.refl _ _ _, h1, rfl, ?_⟩
       rw [hmem, hown]
       refine hw.bcall hb hk hq (nb := ⟨[], 0, .bld fl' T e (accB (anyF fl || r'.any fun x => anyF (flS x)) acc add)⟩) rfl ?_ h3 h4 (hG.free (by rw [hbt]; rfl))
       show Lib.IsBuilderF T e w0.heap.size (ν.l i) _ w' /\ T ≠ e
       rw [accB_any]
       exact ⟨h2, hB.2⟩
     . split at h
       . rename_i r hr
         obtain ⟨l, v, b, fn, hl, hb, hf, hn, hbody, rfl, rfl⟩ := acallS_some (hr.trans h)
         have e : b = true := hh (b, true) List.mem_cons_self
         subst e
         refine ⟨⟨fn, hf, hn, hbody⟩, ?_⟩
         rw [argsV_isL hl hvs]
         refine (HC.2.2.2.2.1 f l v hb w (hG.below hw.below)).mono fun e w' ⟨⟨u, he⟩, hb⟩ => ?_
         refine ⟨extV ν s.own.l.length u, _, extV_old _ _ _ _, he, ?_, (hw.grown hb).addDead u⟩
         show Value.tuple #[v, u] = .tuple ([v, (extV ν s.own.l.length u).v s.own.l.length] : List Value).toArray
         rw [extV_new]
       . split at h
         . rename_i r hr
           exact effS_ok HC.2.2.2.2.2 hG f args s x s' hlo hllo hargs (hr.trans h) hh ν w vs hvs hw
         . exact enterO_ok hst hok f args s x s' hlo hllo hargs h hh ν w vs hvs hw
end Go.Proofs.Ytmaffamhjmlonaa.S2
