/- The evaluator with lists answers what the call returns: slots, tests, operations that write. No word of the program. -/
import Derived.Test.YtmaffamhjmlonaaS2B
set_option linter.unusedVariables false
set_option linter.unusedSimpArgs false
namespace Go.Proofs.Ytmaffamhjmlonaa.S2
open Go Go.RowKit Sim
theorem Le.same {s s' : St} (h1 : ∀ p ∈ s.obl, p ∈ s'.obl) (h2 : s'.own = s.own) (h3 : s'.lo = s.lo) (h4 : s'.llo = s.llo) : Le s s' :=
 ⟨h1, by rw [h2]; exact Nat.le_refl _, by rw [h2]; exact Nat.le_refl _, h3, h4, fun i _ => by rw [h2], fun i _ => by rw [h2]⟩
theorem putS_keep {n : Nat} {dst : Option Tmp} {x : SV} {s s' : St} (h : putS n dst x s = some s') : s'.obl = s.obl /\ s'.own = s.own /\ s'.mem = s.mem /\ s'.lo = s.lo /\ s'.llo = s.llo /\ (∀ p ∈ s'.tmps, p ∈ s.tmps \/ p.2 = x) := by
 unfold putS at h
 cases dst with
 | none => simp only [qS] at h; subst h; exact ⟨rfl, rfl, rfl, rfl, rfl, fun p hp => .inl hp⟩
 | some d =>
   simp only at h
   cases hb : Nat.blt d n
   . rw [hb] at h; cases h
   . rw [hb] at h; simp only [cond_true, qS] at h; subst h
     refine ⟨rfl, rfl, rfl, rfl, rfl, fun p hp => ?_⟩
     rcases List.mem_cons.mp hp with rfl | hp
     . exact .inr rfl
     . exact .inl hp
theorem putS_good {n : Nat} {dst : Option Tmp} {x : SV} {s s' : St} (h : putS n dst x s = some s') (hg : Good s) (hx : okV s.own.b.length s.own.l.length x) : Good s' /\ Le s s' := by
 obtain ⟨h1, h2, h3, h4, h4', h5⟩ := putS_keep h
 refine ⟨⟨by rw [h2, h4]; exact hg.lo, by rw [h2, h4']; exact hg.llo, fun p hp => ?_, by rw [h2]; exact hg.okb⟩, .same (fun p hp => by rw [h1]; exact hp) h2 h4 h4'⟩
 rw [h2]
 rcases h5 p hp with h | h
 . exact hg.ok p h
 . rw [h]; exact hx
theorem tr_put {n : Nat} {ν : Nu} {s s' : St} {a : Act} {dst : Option Tmp} {x : SV} {v : Value} (h : putS n dst x s = some s') (hv : Is ν x v) (ht : TR n ν s a) : TR n ν s' (a.put dst v) := by
 unfold putS at h
 cases dst with
 | none => simp only [qS] at h; subst h; exact ht
 | some d =>
   simp only at h
   cases hb : Nat.blt d n
   . rw [hb] at h; cases h
   . rw [hb] at h
     simp only [cond_true, qS] at h
     subst h
     have hd : d < n := by simpa [Nat.blt_eq] using hb
     refine ⟨?_, fun t => ?_, ht.df⟩
     . simp [Act.put, ht.size]
     . have h0 := ht.tm t
       have hsz := ht.size
       simp only [Act.put, look]
       simp only [Array.getD_eq_getD_getElem?, Array.getElem?_setIfInBounds] at h0 ⊢
       by_cases hdt : d = t
       . subst hdt
         simpa [hsz, hd] using hv
       . have : Nat.beq d t = false := by
           cases hbb : Nat.beq d t
           . rfl
           . exact absurd (qB hbb) hdt
         simp only [this, cond_false, hdt, if_false]
         exact h0
theorem TR.of {n : Nat} {ν : Nu} {s s' : St} {a : Act} (ht : TR n ν s a) (h : s'.tmps = s.tmps) : TR n ν s' a := ⟨ht.size, fun t => by rw [h]; exact ht.tm t, ht.df⟩
theorem TR.move {n : Nat} {ν ν' : Nu} {s s' : St} {a : Act} (ht : TR n ν s a) (hg : Good s) (ha : Ag s.own ν ν') (h : s'.tmps = s.tmps) : TR n ν' s' a :=
 ⟨ht.size, fun t => by rw [h]; exact Is_congr (look_ok hg.ok) ha (ht.tm t), ht.df⟩
theorem ask_ok (s : St) (fl : List Bool) (b : Bool) : (∀ p ∈ s.obl, p ∈ (ask s fl b).2.obl) /\ (Holds' (ask s fl b).2 -> (ask s fl b).1 = b) /\ (ask s fl b).2.tmps = s.tmps /\ (ask s fl b).2.own = s.own /\ (ask s fl b).2.mem = s.mem /\ (ask s fl b).2.lo = s.lo /\ (ask s fl b).2.llo = s.llo := by
 unfold ask
 cases anyF fl
 . exact ⟨fun _ h => h, fun _ => rfl, rfl, rfl, rfl, rfl, rfl⟩
 . simp only [cond_true]
   split
   . exact ⟨fun _ h => h, fun _ => rfl, rfl, rfl, rfl, rfl, rfl⟩
   . exact ⟨fun p hp => List.mem_cons_of_mem _ hp, fun h => (h _ (List.mem_cons_self)).symm, rfl, rfl, rfl, rfl, rfl⟩
theorem ask_le (s : St) (fl : List Bool) (b : Bool) : Le s (ask s fl b).2 := by
 obtain ⟨h1, _, h3, h4, h5, h6, h7⟩ := ask_ok s fl b
 exact .same h1 h4 h6 h7
theorem ask_good {s : St} (hg : Good s) (fl : List Bool) (b : Bool) : Good (ask s fl b).2 := by
 obtain ⟨h1, _, h3, h4, h5, h6, h7⟩ := ask_ok s fl b
 exact ⟨by rw [h4, h6]; exact hg.lo, by rw [h4, h7]; exact hg.llo, fun p hp => by rw [h4]; exact hg.ok p (by rw [<- h3]; exact hp), by rw [h4]; exact hg.okb⟩
theorem know_good {s : St} (hg : Good s) (d : Nat) (b : Bool) : Good (know s d b) :=
 ⟨hg.lo, hg.llo, fun p hp => by
   rcases List.mem_cons.mp hp with rfl | hp
   . trivial
   . exact hg.ok p hp, hg.okb⟩
theorem know_le (s : St) (d : Nat) (b : Bool) : Le s (know s d b) := .same (fun _ h => h) rfl rfl rfl
theorem TR.ask {n : Nat} {ν : Nu} {s : St} {a : Act} (ht : TR n ν s a) (fl : List Bool) (b : Bool) : TR n ν (S2.ask s fl b).2 a := ht.of (ask_ok s fl b).2.2.1
theorem TR.know {n : Nat} {ν : Nu} {s : St} {a : Act} (ht : TR n ν s a) {d : Nat} {b : Bool} (h : a.tmps.getD d undef = .bool b) : TR n ν (know s d b) a := by
 refine ⟨ht.size, fun t => ?_, ht.df⟩
 simp only [S2.know, look]
 cases hb : Nat.beq d t
 . exact ht.tm t
 . have he : d = t := qB hb
   subst he
   exact h
theorem wantS_st {n : Nat} {ops : Array Oper} {o : Oper} {s s1 : St} {t : Bool} (h : wantS n ops o s = some (t, s1)) : Le s s1 /\ s1.own = s.own /\ s1.mem = s.mem /\ (Good s -> Good s1) := by
 unfold wantS at h
 split at h
 . simp only [qS, qP] at h
   obtain ⟨_, rfl⟩ := h
   exact ⟨Le.refl s, rfl, rfl, id⟩
 . split at h
   . rename_i d hd
     cases hb : Nat.blt d n
     . rw [hb] at h; cases h
     . rw [hb] at h
       simp only [cond_true] at h
       split at h
       . rename_i fl b hl
         simp only [qS, qP] at h
         obtain ⟨_, rfl⟩ := h
         obtain ⟨h1, _, h3, h4, h5, h6⟩ := ask_ok s fl b
         exact ⟨(ask_le s fl b).trans (know_le _ _ _), h4, h5, fun hg => know_good (ask_good hg fl b) _ _⟩
       . simp only [qS, qP] at h
         obtain ⟨_, rfl⟩ := h
         exact ⟨Le.refl s, rfl, rfl, id⟩
       . cases h
   . cases h
theorem wantS_ok {n : Nat} {ops : Array Oper} {o : Oper} {s s1 : St} {t : Bool} (h : wantS n ops o s = some (t, s1)) (hh : Holds' s1) {ν : Nu} {a : Act} (ht : TR n ν s a) :
   Region.wanted o (yielded ops a.tmps) = t /\ TR n ν s1 a := by
 unfold wantS at h
 split at h
 . rename_i hg
   simp only [qS, qP] at h
   obtain ⟨rfl, rfl⟩ := h
   exact ⟨by simp [Region.wanted, hg], ht⟩
 . rename_i j want hg
   split at h
   . rename_i d hd
     cases hb : Nat.blt d n
     . rw [hb] at h; cases h
     . rw [hb] at h
       simp only [cond_true] at h
       have hdn : d < n := by simpa [Nat.blt_eq] using hb
       have hlt : d < a.tmps.size := by rw [ht.size]; exact hdn
       split at h
       . rename_i fl b hl
         simp only [qS, qP] at h
         obtain ⟨rfl, rfl⟩ := h
         obtain ⟨k1, k2, k3, k4, k5⟩ := ask_ok s fl b
         have h0 : a.tmps.getD d undef = .bool b := by have := ht.tm d; rw [hl] at this; exact this
         refine ⟨?_, (ht.ask fl b).know (by rw [h0, k2 hh])⟩
         have h1 : a.tmps[d]? = some (.bool b) := by
           rw [Array.getD_eq_getD_getElem?, Array.getElem?_eq_getElem hlt] at h0
           rw [Array.getElem?_eq_getElem hlt]
           simpa using h0
         have hy : yielded ops a.tmps j = some b := by simp [yielded, hd, h1]
         rw [k2 hh]
         simp [Region.wanted, hg, hy]
       . rename_i fl vs hl
         simp only [qS, qP] at h
         obtain ⟨rfl, rfl⟩ := h
         refine ⟨?_, ht⟩
         have h0 : a.tmps.getD d undef = .tuple vs := by have := ht.tm d; rw [hl] at this; exact this
         have h1 : a.tmps[d]? = some (.tuple vs) := by
           rw [Array.getD_eq_getD_getElem?, Array.getElem?_eq_getElem hlt] at h0
           rw [Array.getElem?_eq_getElem hlt]
           simpa using h0
         have hy : yielded ops a.tmps j = none := by simp [yielded, hd, h1]
         simp [Region.wanted, hg, hy]
       . cases h
   . cases h
theorem op_ro {E : Env} (HC : CallOk E) {n : Nat} {o : Oper} {s : St} {x : SV} {c : Bool} {q : List (Bool × Bool)} {w0 : Base} (hG : GlobB E w0) {ν : Nu} {a : Act} {w : World} {K : Act -> World -> Prop} {Q : Exit -> Act -> World -> Prop}
   (h : simRO E o s = some (x, c, q)) (hq : ∀ p ∈ q, p.1 = p.2) (hg : Good s) (ht : TR n ν s a) (hw : WR w0 ν s.own s.mem w) (hK : ∀ v w', Is ν x v -> WR w0 ν s.own (s.mem || c) w' -> K (a.put o.dst v) w') : o.wp E.P a w K Q := by
 obtain ⟨v, hv, hd⟩ := simRO_ok (mem := s.mem) h hq ht hG (simRO_st h hg)
 unfold Oper.wp
 rcases hd with ⟨rfl, hd⟩ | ⟨rfl, f, args, hf, hd⟩
 . rw [hd w hw, Oper.upon_value]
   exact hK v w hv (by rw [Bool.or_false]; exact hw)
 . rw [hd w, Oper.upon_enter]
   refine (HC.1 f args _ hf w (hG.below hw.below)).mono fun e w' ⟨he, hb⟩ => ?_
   subst he
   exact hK v w' hv (by rw [Bool.or_true]; exact hw.grown hb)
def extL (ν : Nu) (n b : Nat) : Nu := { ν with l := fun i => if i = n then b else ν.l i }
def extV (ν : Nu) (n : Nat) (v : Value) : Nu := { ν with v := fun i => if i = n then v else ν.v i }
theorem extL_old (ν : Nu) (n m b : Nat) : Agree n m ν (extL ν n b) := ⟨fun i h => by unfold extL; simp only; rw [if_neg (by omega)], fun _ _ => rfl⟩
theorem extL_new (ν : Nu) (n b : Nat) : (extL ν n b).l n = b := by unfold extL; simp
theorem extV_old (ν : Nu) (n m : Nat) (v : Value) : Agree n m ν (extV ν m v) := ⟨fun _ _ => rfl, fun i h => by unfold extV; simp only; rw [if_neg (by omega)]⟩
theorem extV_new (ν : Nu) (n : Nat) (v : Value) : (extV ν n v).v n = v := by unfold extV; simp
theorem WR.lt {w0 : Base} {ν : Nu} {own : Mem} {mem : Bool} {w : World} (h : WR w0 ν own mem w) {i : Nat} (hi : i < own.b.length) : ν.l i < w.heap.size := by
 obtain ⟨h1, _⟩ := h.blk i own.b[i] (by simp [hi])
 exact h1.lt
theorem WR.row {w0 : Base} {ν : Nu} {own : Mem} {mem : Bool} {w : World} (h : WR w0 ν own mem w) {k : Nat} {e : LE} (he : own.l[k]? = some e) (hd : e.dead = false) (ho : e.own = true) : OwnB w0.heap.size w e (ν.v k) := by
 have := h.lst k e he hd
 unfold LOk at this
 rw [ho] at this; exact this
theorem WR.rowLt {w0 : Base} {ν : Nu} {own : Mem} {mem : Bool} {w : World} (h : WR w0 ν own mem w) {k : Nat} {e : LE} (he : own.l[k]? = some e) (hd : e.dead = false) (ho : e.own = true) {g : Nat} (hg : (ν.v k).ownBlock = some g) : w0.heap.size <= g /\ g < w.heap.size := (h.row he hd ho).2.lt g hg
theorem WR.growB {w0 : Base} {ν : Nu} {own : Mem} {mem : Bool} {w : World} (h : WR w0 ν own mem w) (nb : Blk) (ob : Obj) (hcs : ∀ c ∈ nb.cells, okV own.b.length own.l.length c) (hnb : BOk w0.heap.size ν (w.alloc ob) w.heap.size nb) :
   WR w0 (extL ν own.b.length w.heap.size) { own with b := own.b ++ [nb] } true (w.alloc ob) := by
 have hsz := h.below.size
 have hgr := World.grownBy_alloc w ob none
 refine ⟨h.below.alloc hsz _, fun i b hi => ?_, (h.okb.snoc (b := nb) hcs).mono (by simp) (Nat.le_refl _), fun i j hi hj he => ?_, fun k e he hd => ?_, fun k e he hd ho g hg => ⟨fun i hi => ?_, fun k' e' he' hd' ho' hne => ?_⟩, (fun h => by cases h), ⟨(h.fr.below ((Below.refl _ w).alloc (Nat.le_refl _) ob)).here, fun i hi => ?_, h.fr.offl⟩⟩
 . rcases Nat.lt_trichotomy i own.b.length with hl | hl | hl
   . rw [List.getElem?_append_left hl] at hi
     obtain ⟨h1, h2⟩ := h.blk i b hi
     rw [<- (extL_old ν own.b.length 0 _).1 i hl]
     exact ⟨(h1.congr (h.okb i b hi) (extL_old ν own.b.length own.l.length w.heap.size)).turn hgr (fun e => by cases e) (fun _ _ _ _ _ _ _ e => by cases e), h2⟩
   . subst hl
     simp at hi
     subst hi
     rw [extL_new]
     exact ⟨hnb.congr hcs (extL_old ν own.b.length own.l.length w.heap.size), hsz⟩
   . rw [List.getElem?_eq_none (by simp; omega)] at hi; cases hi
 . simp only [List.length_append, List.length_cons, List.length_nil] at hi hj
   unfold extL at he
   simp only at he
   by_cases h1 : i = own.b.length <;> by_cases h2 : j = own.b.length
   . omega
   . rw [if_pos h1, if_neg h2] at he; have := h.lt (i := j) (by omega); omega
   . rw [if_neg h1, if_pos h2] at he; have := h.lt (i := i) (by omega); omega
   . rw [if_neg h1, if_neg h2] at he; exact h.inj i j (by omega) (by omega) he
 . exact (h.lst k e he hd).kept hgr hsz (fun _ e => by cases e) (fun _ => by show (ν.v k).ownBlock = none \/ _; cases (ν.v k).ownBlock <;> simp)
 . simp only [List.length_append, List.length_cons, List.length_nil] at hi
   have hlt := h.rowLt he hd ho hg
   unfold extL
   simp only
   by_cases h1 : i = own.b.length
   . rw [if_pos h1]; omega
   . rw [if_neg h1]; exact (h.sep k e he hd ho g hg).1 i (by omega)
 . exact (h.sep k e he hd ho g hg).2 k' e' he' hd' ho' hne
 . simp only [List.length_append, List.length_cons, List.length_nil] at hi
   unfold extL
   simp only
   by_cases h1 : i = own.b.length
   . rw [if_pos h1]; exact h.fr.fresh (Nat.le_refl _)
   . rw [if_neg h1]; exact h.fr.offb i (by omega)
theorem WR.grow {w0 : Base} {ν : Nu} {own : Mem} {mem : Bool} {w : World} (h : WR w0 ν own mem w) (cs : List SV) (t : TypeId) (hcs : ∀ c ∈ cs, okV own.b.length own.l.length c) :
   WR w0 (extL ν own.b.length w.heap.size) { own with b := own.b ++ [⟨cs, t, .cells⟩] } true (w.alloc (.cells (concB ν cs).toArray t)) :=
 h.growB ⟨cs, t, .cells⟩ _ hcs (by show (w.alloc _).heap[w.heap.size]? = _; rw [heap_alloc_new])
theorem WR.turnB {w0 : Base} {ν : Nu} {own : Mem} {mem : Bool} {w w' : World} (h : WR w0 ν own mem w) {i : Nat} {b : Blk} (hi : own.b[i]? = some b) {nb : Blk} (hcs : ∀ c ∈ nb.cells, okV own.b.length own.l.length c)
   (h1 : BOk w0.heap.size ν w' (ν.l i) nb) (hfr : ∀ (j : Nat) (c : Blk) fl T e acc cs fz, own.b[j]? = some c -> c.kd = .bld fl T e acc -> w.heap[ν.l i]? ≠ some (.cells cs e fz)) (h2 : ∀ k, k ≠ ν.l i -> w'.heap[k]? = w.heap[k]?) (h3 : w'.heap.size = w.heap.size) (h4 : w'.os = w.os) (h5 : w'.tape = w.tape) (h6 : w'.output = w.output) :
   WR w0 ν { own with b := own.b.set i nb } true w' := by
 have hil := lt_of_some_list hi
 obtain ⟨_, hge⟩ := h.blk i b hi
 have hgr : w.grownBy w' (some (ν.l i)) := ⟨h4, h5, h6, by omega, fun k _ hk => h2 k (fun e => hk (by rw [e]))⟩
 refine ⟨h.below.trans ⟨h4, h5, h6, by omega, fun k hk => h2 k (by omega)⟩, fun j c hj => ?_, (h.okb.set (i := i) (b := nb) hcs).mono (by simp) (Nat.le_refl _), fun j k hj hk he => h.inj j k (by simpa using hj) (by simpa using hk) he, fun k e he hd => ?_, fun k e he hd ho g hg => ⟨fun j hj => (h.sep k e he hd ho g hg).1 j (by simpa using hj), (h.sep k e he hd ho g hg).2⟩, (fun h => by cases h), ⟨fun b o hb => (h2 b (fun e => by
   rw [e, h.fr.offb i hil] at hb; cases hb)).trans (h.fr.here b o hb), fun j hj => h.fr.offb j (by simpa using hj), h.fr.offl⟩⟩
 . by_cases hij : i = j
   . subst hij
     rw [List.getElem?_set_self hil] at hj
     simp only [qS] at hj
     subst hj
     exact ⟨h1, hge⟩
   . rw [List.getElem?_set_ne hij] at hj
     obtain ⟨k1, k2⟩ := h.blk j c hj
     have hjl := lt_of_some_list hj
     exact ⟨k1.turn hgr (fun e => hij (h.inj i j hil hjl (Option.some.inj e))) (fun g cs fz fl T e acc eg hk => by
       cases eg; exact hfr j c fl T e acc cs fz hj hk), k2⟩
 . refine (h.lst k e he hd).kept hgr h.below.size (fun g e => by cases e; exact hge) fun ho => ?_
   cases hg : (ν.v k).ownBlock with
   | none => exact .inl rfl
   | some g =>
     right
     intro heq
     simp only [qS] at heq
     exact (h.sep k e he hd ho g hg).1 i hil heq.symm
theorem WR.store {w0 : Base} {ν : Nu} {own : Mem} {mem : Bool} {w w' : World} (h : WR w0 ν own mem w) {i : Nat} {b : Blk} (hi : own.b[i]? = some b) (hk : b.kd = .cells) {cs : List SV} (hcs : ∀ c ∈ cs, okV own.b.length own.l.length c)
   (hfr : ∀ (j : Nat) (c : Blk) fl T e acc, own.b[j]? = some c -> c.kd = .bld fl T e acc -> e ≠ b.elem)
   (h1 : w'.heap[ν.l i]? = some (.cells (concB ν cs).toArray b.elem (0, 0))) (h2 : ∀ k, k ≠ ν.l i -> w'.heap[k]? = w.heap[k]?) (h3 : w'.heap.size = w.heap.size) (h4 : w'.os = w.os) (h5 : w'.tape = w.tape) (h6 : w'.output = w.output) :
   WR w0 ν { own with b := own.b.set i ⟨cs, b.elem, .cells⟩ } true w' :=
 h.turnB hi hcs h1 (fun j c fl T e acc cs' fz hj hkd heq => by
   rw [(h.blk i b hi).1.cells hk] at heq
   simp only [qS, Obj.cells.injEq] at heq
   exact hfr j c fl T e acc hj hkd heq.2.1.symm) h2 h3 h4 h5 h6
theorem bldFree_ok {s : St} {t : TypeId} (h : bldFree s t = true) : ∀ (j : Nat) (c : Blk) fl T e acc, s.own.b[j]? = some c -> c.kd = .bld fl T e acc -> e ≠ t := fun j c fl T e acc hj hk heq => by
 have := List.all_eq_true.mp h c (List.mem_of_getElem? hj)
 rw [hk, heq] at this
 simp at this
end Go.Proofs.Ytmaffamhjmlonaa.S2
