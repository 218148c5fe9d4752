/- The evaluator with lists: regions that draw their order and make a block that nobody reads (what is assigned to the blank name). No word of the program. -/
import Derived.Test.YtpmjfpdogbcigaaDoorS2JB
namespace Go.Proofs.YtpmjfpdogbcigaaDoor.S2
open Go Go.RowKit Sim
set_option linter.unusedVariables false
set_option linter.unusedSimpArgs false

def withF (w0 : Base) (g : Nat) (o : Obj) : Base := ⟨w0.toWorld, fun b => if b = g then some o else w0.F b⟩
theorem WR.frameAdd {w0 : Base} {ν : Nu} {own : Mem} {mem : Bool} {w : World} {g : Nat} {o : Obj} (h : WR w0 ν own mem w) (hg : w.heap[g]? = some o) (hb : ∀ i, i < own.b.length → ν.l i ≠ g) (hl : ∀ (k : Nat) e, own.l[k]? = some e → e.dead = false → e.own = true → (ν.v k).ownBlock ≠ some g) : WR (withF w0 g o) ν own mem w :=
  ⟨h.below, h.blk, h.okb, h.inj, h.lst, h.sep, h.same, ⟨fun b o' e => (by
    have e : (if b = g then some o else w0.F b) = some o' := e
    by_cases hbg : b = g
    · rw [if_pos hbg] at e; cases e; rw [hbg]; exact hg
    · rw [if_neg hbg] at e; exact h.fr.here b o' e), fun i hi => (by
    show (if ν.l i = g then _ else _) = _
    rw [if_neg (hb i hi)]; exact h.fr.offb i hi), fun k e hk hd ho g' hg' => (by
    show (if g' = g then _ else _) = _
    rw [if_neg (fun e1 => hl k e hk hd ho (by rw [hg', e1]))]; exact h.fr.offl k e hk hd ho g' hg')⟩⟩
theorem withF_none {w0 : Base} {g b : Nat} {o : Obj} (h : (withF w0 g o).F b = none) : b ≠ g ∧ w0.F b = none := by
  have h : (if b = g then some o else w0.F b) = none := h
  by_cases hb : b = g
  · rw [if_pos hb] at h; cases h
  · rw [if_neg hb] at h; exact ⟨hb, h⟩
theorem WR.frameDrop {w0 : Base} {ν : Nu} {own : Mem} {mem : Bool} {w : World} {g : Nat} {o : Obj} (h : WR (withF w0 g o) ν own mem w) (hF : w0.F g = none) : WR w0 ν own mem w :=
  ⟨h.below, h.blk, h.okb, h.inj, h.lst, h.sep, h.same, ⟨fun b o' e => h.fr.here b o' (by
    show (if b = g then _ else _) = _
    rw [if_neg (fun e1 => by rw [e1, hF] at e; cases e)]; exact e), fun i hi => (withF_none (h.fr.offb i hi)).2, fun k e hk hd ho g' hg' => (withF_none (h.fr.offl k e hk hd ho g' hg')).2⟩⟩
theorem WR.frameTurn {w0 : Base} {ν : Nu} {own : Mem} {mem : Bool} {w w' : World} {g : Nat} {o o' : Obj} (h : WR (withF w0 g o) ν own mem w) (hB : w0.heap.size ≤ g) (hg : w.grownBy w' (some g)) (hn : w'.heap[g]? = some o')
    (nb : ∀ (i : Nat) b, own.b[i]? = some b → ∀ fl T e acc, b.kd ≠ .bld fl T e acc) : WR (withF w0 g o') ν own true w' := by
  have hbi : ∀ i, i < own.b.length → ν.l i ≠ g := fun i hi => (withF_none (h.fr.offb i hi)).1
  have hli : ∀ (k : Nat) e, own.l[k]? = some e → e.dead = false → e.own = true → ∀ g', (ν.v k).ownBlock = some g' → g' ≠ g := fun k e hk hd ho g' hg' => (withF_none (h.fr.offl k e hk hd ho g' hg')).1
  refine ⟨h.below.grown hg h.below.size (fun g' e => by cases e; exact hB), fun i b hi => ⟨(h.blk i b hi).1.turn hg (fun e => hbi i (lt_of_some_list hi) (Option.some.inj e).symm) (fun _ _ _ fl T e acc _ hk => absurd hk (nb i b hi fl T e acc)), (h.blk i b hi).2⟩, h.okb, h.inj, fun k e hk hd => (h.lst k e hk hd).kept hg h.below.size (fun g' e => by cases e; exact hB) (fun ho => ?_), h.sep, (fun h => by cases h), ⟨fun b o2 e => ?_, fun i hi => ?_, fun k e hk hd ho g' hg' => ?_⟩⟩
  · cases hq : (ν.v k).ownBlock with
    | none => exact .inl rfl
    | some g' => exact .inr fun e => hli k _ hk hd ho g' hq (Option.some.inj e)
  · have e : (if b = g then some o' else w0.F b) = some o2 := e
    by_cases hbg : b = g
    · rw [if_pos hbg] at e; cases e; rw [hbg]; exact hn
    · rw [if_neg hbg] at e
      have h0 : w.heap[b]? = some o2 := h.fr.here b o2 (by show (if b = g then _ else _) = _; rw [if_neg hbg]; exact e)
      exact (hg.block b (lt_of_some h0) (fun e => hbg (Option.some.inj e))).trans h0
  · show (if ν.l i = g then _ else _) = _
    rw [if_neg (hbi i hi)]; exact (withF_none (h.fr.offb i hi)).2
  · show (if g' = g then _ else _) = _
    rw [if_neg (hli k e hk hd ho g' hg')]; exact (withF_none (h.fr.offl k e hk hd ho g' hg')).2
theorem ID.turn {n : Nat} {ops : Array Oper} {w0 w1 : Base} {ν0 : Nu} {s0 : Mem} {a0 : Act} {ds : List Dn} {L : Nat → Bool} {ν : Nu} {a : Act} {w w' : World} (h : ID n ops w0 ν0 s0 a0 ds L ν a w) (hw : WR w1 ν { s0 with l := s0.l ++ newsL L 0 ds } true w') : ID n ops w1 ν0 s0 a0 ds L ν a w' := ⟨h.ag, h.size, h.df, h.base, h.done, hw⟩
/-- What holds when some of the operations have been carried out: the block that nobody reads, behind operation ja, stays apart. -/
structure IDJ (n : Nat) (ops : Array Oper) (w0 : Base) (ν0 : Nu) (s0 : Mem) (a0 : Act) (ds : List Dn) (ja dd : Nat) (t : TypeId) (sz : Nat) (L : Nat → Bool) (ν : Nu) (a : Act) (w : World) : Prop where
  no : L ja = false → ID n ops w0 ν0 s0 a0 ds L ν a w
  yes : L ja = true → ∃ g cur, a.tmps.getD dd undef = .pointer (some ⟨g, 0, none⟩) ∧ cur.size = sz ∧ w0.F g = none ∧ w0.heap.size ≤ g ∧ ID n ops (withF w0 g (.cells cur t (0, 0))) ν0 s0 a0 ds L ν a w
theorem IDJ.any {n : Nat} {ops : Array Oper} {w0 : Base} {ν0 : Nu} {s0 : Mem} {a0 : Act} {ds : List Dn} {ja dd : Nat} {t : TypeId} {sz : Nat} {L : Nat → Bool} {ν : Nu} {a : Act} {w : World} (h : IDJ n ops w0 ν0 s0 a0 ds ja dd t sz L ν a w) : ID n ops w0 ν0 s0 a0 ds L ν a w := by
  cases hL : L ja
  · exact h.no hL
  · obtain ⟨g, cur, _, _, h3, _, h5⟩ := h.yes hL
    exact h5.turn (h5.wr.frameDrop h3)
inductive StepJ (E : Env) (n : Nat) (ops : Array Oper) (dd : Nat) (t : TypeId) (sz : Nat) (o : Oper) (pre : List Dn) (s : St) : Dn → St → Prop where
  | gen (d s1) (hj : junkOf E.P o = none) (h : StepD E n ops o pre s d s1) : StepJ E n ops dd t sz o pre s d s1
  | mk (hj : junkOf E.P o = some (dd, t, sz)) : StepJ E n ops dd t sz o pre s ⟨.any, none⟩ s
  | put (y fl v) (hj : junkOf E.P o = none) (ho : o.op = .store t (.tmp dd) y) (hg : o.guard = none) (hd : o.dst = none) (hy : ev (focus ops o pre s) y = .inl (fl, v)) (hc : v.cells.size = sz) (h1 : v.cells.toList.all Value.oneCell' = true) : StepJ E n ops dd t sz o pre s ⟨.inl ([], undef), none⟩ s
theorem stepJ_is {E : Env} {n : Nat} {ops : Array Oper} {dd : Nat} {t : TypeId} {sz : Nat} {o : Oper} {pre : List Dn} {s s1 : St} {d : Dn} (h : stepJ E n ops dd t sz o pre s = some (d, s1)) : StepJ E n ops dd t sz o pre s d s1 := by
  unfold stepJ at h
  split at h
  · rename_i d' t' sz' hj
    cases hb : (Nat.beq dd d' && Nat.beq t t' && Nat.beq sz sz')
    · rw [hb] at h; cases h
    · rw [hb] at h
      simp only [cond_true, Option.some.injEq, Prod.mk.injEq] at h
      obtain ⟨rfl, rfl⟩ := h
      simp only [Bool.and_eq_true] at hb
      rw [← Nat.eq_of_beq_eq_true hb.1.1, ← Nat.eq_of_beq_eq_true hb.1.2, ← Nat.eq_of_beq_eq_true hb.2] at hj
      exact .mk hj
  · rename_i hj
    split at h
    · rename_i t' d' y ho
      cases hb : (Nat.beq dd d' && Nat.beq t t' && o.guard.isNone && o.dst.isNone)
      · rw [hb] at h
        exact .gen _ _ hj (stepD_is h)
      · rw [hb] at h
        simp only [cond_true] at h
        simp only [Bool.and_eq_true, Option.isNone_iff_eq_none] at hb
        split at h
        · rename_i fl v hy
          cases hc : (Nat.beq v.cells.size sz && v.cells.toList.all Value.oneCell')
          · rw [hc] at h; cases h
          · rw [hc] at h
            simp only [cond_true, Option.some.injEq, Prod.mk.injEq] at h
            obtain ⟨rfl, rfl⟩ := h
            simp only [Bool.and_eq_true] at hc
            rw [← Nat.eq_of_beq_eq_true hb.1.1.1, ← Nat.eq_of_beq_eq_true hb.1.1.2] at ho
            exact .put y fl v hj ho hb.1.2 hb.2 hy (Nat.eq_of_beq_eq_true hc.1) hc.2
        · cases h
    · exact .gen _ _ hj (stepD_is h)
theorem StepJ.st {E : Env} {n : Nat} {ops : Array Oper} {dd : Nat} {t : TypeId} {sz : Nat} {o : Oper} {pre : List Dn} {s s1 : St} {d : Dn} (h : StepJ E n ops dd t sz o pre s d s1) :
    s1.own = s.own ∧ s1.mem = s.mem ∧ s1.lo = s.lo ∧ s1.llo = s.llo ∧ (∀ p ∈ s.obl, p ∈ s1.obl) ∧ (∀ p ∈ s1.tmps, p ∈ s.tmps ∨ ∃ b, p.2 = .inl ([], .bool b)) ∧
      ((d.e = none ∧ okV s.own.b.length s.own.l.length d.x) ∨ ∃ e, d.e = some e ∧ e.own = true ∧ e.dead = false ∧ d.x = .c (s.own.l.length + (newsL (fun _ => true) 0 pre).length)) := by
  cases h with
  | gen _ _ _ h => exact h.st
  | mk hj => exact ⟨rfl, rfl, rfl, rfl, fun _ h => h, fun _ h => .inl h, .inl ⟨rfl, trivial⟩⟩
  | put y fl v hj ho hg hd hy hc h1 => exact ⟨rfl, rfl, rfl, rfl, fun _ h => h, fun _ h => .inl h, .inl ⟨rfl, trivial⟩⟩
theorem StepJ.tr {E : Env} {n : Nat} {ops : Array Oper} {dd : Nat} {t : TypeId} {sz : Nat} {o : Oper} {pre : List Dn} {s s1 : St} {d : Dn} (h : StepJ E n ops dd t sz o pre s d s1) (hh : Holds' s1) {ν : Nu} {b : Act} (ht : TR n ν s b) : TR n ν s1 b := by
  cases h with
  | gen _ _ _ h => exact h.tr hh ht
  | mk hj => exact ht
  | put y fl v hj ho hg hd hy hc h1 => exact ht
theorem junkOf_some {P : Program} {o : Oper} {dd : Nat} {t : TypeId} {sz : Nat} (h : junkOf P o = some (dd, t, sz)) : o.op = .alloc t ∧ o.dst = some dd ∧ o.guard = none ∧ ∃ i z, P.info? t = some i ∧ i.zero = some z ∧ z.cells.size = sz ∧ i.size = sz := by
  unfold junkOf at h
  split at h
  · rename_i t' d' ho hd hg
    split at h
    · rename_i i hi
      split at h
      · rename_i z hz
        cases hb : Nat.beq z.cells.size i.size
        · rw [hb] at h; cases h
        · rw [hb] at h
          simp only [cond_true, Option.some.injEq, Prod.mk.injEq] at h
          obtain ⟨rfl, rfl, rfl⟩ := h
          exact ⟨ho, hd, hg, i, z, hi, hz, Nat.eq_of_beq_eq_true hb, rfl⟩
      · cases h
    · cases h
  · cases h
theorem StepJ.ok {E : Env} (HC : CallOk E) {w0 : Base} (hG : GlobB E w0) (hbt : E.bt = none) {n : Nat} {ops : Array Oper} {o : Oper} {pre : List Dn} {s s1 : St} {d : Dn} {ja dd : Nat} {t : TypeId} {sz : Nat} (h : StepJ E n ops dd t sz o pre s d s1) (hh : Holds' s1) (hdep : depB ops = true) {oj : Oper} (hja : ops[ja]? = some oj) (hjk : junkOf E.P oj = some (dd, t, sz))
    {s0 : Mem} (hs : s.own = s0) (hok : OkB s0.b.length s0.l.length s0.b) (nb : ∀ (i : Nat) b, s0.b[i]? = some b → ∀ fl T e acc, b.kd ≠ .bld fl T e acc)
    {ds rest : List Dn} (hD : ds = pre ++ d :: rest) (hK : KD s0 ds) (ho : ops[pre.length]? = some o) (hn : ∀ t, o.dst = some t → t < n) {L : Nat → Bool} {ν0 : Nu} {a0 : Act} {ν : Nu} {a b : Act} {w : World} (hI : IDJ n ops w0 ν0 s0 a0 ds ja dd t sz L ν a w) (ht : TR n ν s b)
    (hL : L pre.length = false) (hr : ∀ e ∈ o.after, Region.binds .any e = true → L e.on = true) (hlook : ∀ t ∈ o.looksAt ops, b.tmps.getD t undef = a.tmps.getD t undef) {Q : Exit → Act → World → Prop} {K : Act → World → Prop}
    (hQ : ∀ ν' a' w', IDJ n ops w0 ν0 s0 a0 ds ja dd t sz (setL L pre.length) ν' a' w' → K a' w') : wpOp E.P ops Q pre.length K a w := by
  obtain ⟨j1, j2, j3, i, z, hi, hz, hzs, hsz⟩ := junkOf_some hjk
  have hG2 : ∀ g ob, GlobB E (withF w0 g ob) := fun g ob => ⟨hG.glob, fun h => by rw [hbt] at h; cases h⟩
  have dep := depB_ok hdep ho
  have hd : ds[pre.length]? = some d := by rw [hD]; simp
  cases h with
  | gen _ _ hj h =>
    have hne : ja ≠ pre.length := fun e => by
      rw [e, ho] at hja
      obtain rfl := Option.some.inj hja
      rw [hj] at hjk; cases hjk
    have hset : setL L pre.length ja = L ja := by unfold setL; rw [if_neg hne]
    have hdd : o.dst ≠ some dd := fun e => hne (dep.once ja oj dd hja e j2).symm
    cases hLj : L ja
    · refine h.ok HC hG hh hdep hs hok hD hK ho hn (hI.no hLj) ht hL hr hlook fun ν' v w' hI' => hQ ν' _ w' ⟨fun _ => hI', fun h => ?_⟩
      rw [hset, hLj] at h; cases h
    · obtain ⟨g, cur, k1, k2, k3, k4, k5⟩ := hI.yes hLj
      refine h.ok HC (hG2 g _) hh hdep hs hok hD hK ho hn k5 ht hL hr hlook fun ν' v w' hI' => hQ ν' _ w' ⟨fun h => ?_, fun _ => ⟨g, cur, ?_, k2, k3, k4, hI'⟩⟩
      · rw [hset, hLj] at h; cases h
      · rw [getD_put, if_neg (fun h => hdd h.1)]; exact k1
  | mk hj =>
    obtain ⟨m1, m2, m3, i', z', hi', hz', hzs', hsz'⟩ := junkOf_some hj
    have hje : ja = pre.length := (dep.once ja oj dd hja m2 j2).symm
    have hLj : L ja = false := by rw [hje]; exact hL
    have h0 := hI.no hLj
    unfold wpOp
    simp only [ho]
    have hwn : Region.wanted o (yielded ops a.tmps) = true := by unfold Region.wanted; rw [m3]
    rw [if_pos hwn]
    left
    unfold Oper.wp
    have hr' : (execOp a.eval o).run E.P w = .ok (.value (.pointer (some ⟨w.heap.size, 0, none⟩))) (w.alloc (.cells z'.cells t)) := by
      simp only [execOp, m1, Instr.alloc, zeroValue, typeInfo, Sem.run_bind, run_program, Result.andThen_ok, hi', Sem.run_pure, hz', newVar, newRow, run_newObj, World.alloc_eq]
    rw [hr', Oper.upon_value]
    have hb := (Below.refl w.heap.size w).alloc (Nat.le_refl _) (.cells z'.cells t)
    have hwr := h0.wr.grown hb
    have hnew : newsL (setL L pre.length) 0 ds = newsL L 0 ds := by
      have c1 : newsL (setL L pre.length) 0 pre = newsL L 0 pre := newsL_congr pre 0 fun j _ hj => by unfold setL; rw [if_neg (by omega)]
      have c2 : newsL (setL L pre.length) (0 + pre.length + 1) rest = newsL L (0 + pre.length + 1) rest := newsL_congr rest _ fun j hj _ => by unfold setL; rw [if_neg (by omega)]
      rw [hD, newsL_append, newsL_append, newsL_none rfl, newsL_none rfl, c1, c2]
    have hF : w0.F w.heap.size = none := h0.wr.fr.fresh (Nat.le_refl _)
    have hadd := hwr.frameAdd (g := w.heap.size) (o := .cells z'.cells t) (by show (w.alloc _).heap[w.heap.size]? = _; rw [heap_alloc_new]) (fun i hi e => by have := h0.wr.lt hi; omega) (fun k e hk hd ho heq => by have := (h0.wr.rowLt hk hd ho heq).2; omega)
    rw [← hnew] at hadd
    have hput := (h0.turn (w1 := withF w0 w.heap.size (.cells z'.cells t)) (w' := w.alloc (.cells z'.cells t)) (by rw [← hnew]; exact hadd)).put hdep hK ho hd hn (Agree.refl _ _ _) (fun _ _ _ _ _ _ => rfl) (v := .pointer (some ⟨w.heap.size, 0, none⟩)) (show Is ν SV.any _ from trivial) hadd
    refine hQ ν _ _ ⟨fun h => ?_, fun _ => ⟨w.heap.size, z'.cells, ?_, hzs', hF, h0.wr.below.size, hput⟩⟩
    · rw [hje] at h; simp [setL] at h
    · rw [getD_put, if_pos ⟨m2, by rw [h0.size]; exact hn dd m2⟩]
  | put y fl v hj hop hg hdst hy hc h1 =>
    have hmem : dd ∈ o.looksAt ops := List.mem_append_left _ (List.mem_filterMap.2 ⟨.tmp dd, by rw [hop]; simp [Op.operands], rfl⟩)
    have hlookj : looksB ops o ja = true := by
      unfold looksB
      rw [hja]
      exact List.any_eq_true.mpr ⟨dd, hmem, dstIs_iff.mpr j2⟩
    obtain ⟨_, e, he, hbd, hon⟩ := dep.looks ja hlookj
    have hLj : L ja = true := by rw [← hon]; exact hr e he hbd
    have hne : ja ≠ pre.length := fun e => by rw [e, hL] at hLj; cases hLj
    have hset : setL L pre.length ja = L ja := by unfold setL; rw [if_neg hne]
    obtain ⟨g, cur, k1, k2, k3, k4, k5⟩ := hI.yes hLj
    unfold wpOp
    simp only [ho]
    have hwn : Region.wanted o (yielded ops a.tmps) = true := by unfold Region.wanted; rw [hg]
    rw [if_pos hwn]
    left
    unfold Oper.wp
    have hexec := exec_same (a := a) (b := b) dep.sel hlook
    have hx : b.eval (.tmp dd) = .pointer (some ⟨g, 0, none⟩) := by
      show b.tmps.getD dd undef = _
      rw [hlook dd hmem]; exact k1
    have hey : b.eval y = v := eval_v (ht.of (s' := focus ops o pre s) rfl) hy
    have hgc : w.heap[g]? = some (.cells cur t (0, 0)) := k5.wr.fr.here g _ (by show (if g = g then _ else _) = _; rw [if_pos rfl])
    have hsb : storeB E.P t cur.toList 0 v = some v.cells.toList := by
      unfold storeB
      rw [hi]
      have e1 : v.cells.toList.length = sz := by rw [Array.length_toList, hc]
      have e2 : cur.toList.length = sz := by rw [Array.length_toList, k2]
      have hb : (Nat.beq v.cells.toList.length i.size && Nat.ble (0 + i.size) cur.toList.length && v.cells.toList.all Value.oneCell') = true := by
        rw [e1, e2, hsz, h1]
        have : Nat.ble (0 + sz) sz = true := Nat.ble_eq.mpr (by omega)
        rw [this]; simp
      simp only [hb, cond_true]
      unfold putQ
      rw [e1, e2]
      simp
    obtain ⟨w', r1, r2, r3, r4, r5, r6, r7⟩ := run_storeB (e := t) hsb w (by rw [Array.toArray_toList]; exact hgc)
    have hrun : (execOp a.eval o).run E.P w = .ok .skip w' := by
      rw [hexec]
      simp only [execOp, hop, hx, hey, Instr.storeAt, Instr.sureAddr, Sem.run_bind, Sem.run_pure, Result.andThen_ok, r1]
    rw [hrun, Oper.upon_skip]
    have hgr : w.grownBy w' (some g) := ⟨r5, r6, r7, by omega, fun k _ hk => r3 k (fun e => hk (by rw [e]))⟩
    have hturn := k5.wr.frameTurn k4 hgr r2 (by intro i b hi fl T e acc; exact nb i b hi fl T e acc)
    have hnew : newsL (setL L pre.length) 0 ds = newsL L 0 ds := by
      have c1 : newsL (setL L pre.length) 0 pre = newsL L 0 pre := newsL_congr pre 0 fun j _ hj => by unfold setL; rw [if_neg (by omega)]
      have c2 : newsL (setL L pre.length) (0 + pre.length + 1) rest = newsL L (0 + pre.length + 1) rest := newsL_congr rest _ fun j hj _ => by unfold setL; rw [if_neg (by omega)]
      rw [hD, newsL_append, newsL_append, newsL_none rfl, newsL_none rfl, c1, c2]
    have hput := (k5.turn hturn).put hdep hK ho hd hn (Agree.refl _ _ _) (fun _ _ _ _ _ _ => rfl) (v := undef) (show Is ν (.inl ([], undef)) undef from rfl) (by rw [hnew]; exact hturn)
    have k1' : (a.put o.dst undef).tmps.getD dd undef = .pointer (some ⟨g, 0, none⟩) := by rw [getD_put, if_neg (fun h => by rw [hdst] at h; cases h.1)]; exact k1
    refine hQ ν _ _ ⟨fun h => ?_, fun _ => ⟨g, v.cells.toList.toArray, k1', by rw [List.size_toArray, Array.length_toList, hc], k3, k4, hput⟩⟩
    rw [hset, hLj] at h; cases h
theorem simJ_st {E : Env} {n : Nat} {ops : Array Oper} {dj : Nat} {tj : TypeId} {sj : Nat} {s0 : Mem} : ∀ (rest : List Oper) (pre : List Dn) (s : St) (ds : List Dn) (s' : St), simJ E n ops dj tj sj rest pre s = some (ds, s') → s.own = s0 → KD s0 pre → (∀ p ∈ s.tmps, okV s0.b.length (s0.l.length + (newsL (fun _ => true) 0 pre).length) p.2) →
    (∃ r, ds = pre ++ r ∧ r.length = rest.length) ∧ s'.own = s0 ∧ s'.mem = s.mem ∧ s'.lo = s.lo ∧ s'.llo = s.llo ∧ (∀ p ∈ s.obl, p ∈ s'.obl) ∧ KD s0 ds ∧ ∀ p ∈ s'.tmps, okV s0.b.length (s0.l.length + (newsL (fun _ => true) 0 ds).length) p.2
  | [], pre, s, ds, s', h, ho, hK, ht => by
    simp only [simJ, Option.some.injEq, Prod.mk.injEq] at h
    obtain ⟨rfl, rfl⟩ := h
    exact ⟨⟨[], by simp, rfl⟩, ho, rfl, rfl, rfl, fun p hp => hp, hK, ht⟩
  | o :: rest, pre, s, ds, s', h, ho, hK, ht => by
    unfold simJ at h
    split at h
    · rename_i d s1 hs
      split at h
      · rename_i s2 hp
        obtain ⟨h1, h2, h3, h4, h5, h6, h7⟩ := (stepJ_is hs).st
        obtain ⟨p1, p2, p3, p4, p5, p6⟩ := putS_keep hp
        have hK' : KD s0 (pre ++ [d]) := fun i di hi => by
          rcases Nat.lt_or_ge i pre.length with hl | hl
          · rw [List.getElem?_append_left hl] at hi
            rw [List.take_append_of_le_length (by omega)]
            exact hK i di hi
          · have hl2 : i = pre.length := by
              have := lt_of_some_list hi
              simp at this; omega
            subst hl2
            simp at hi
            subst hi
            rw [List.take_left]
            rw [ho] at h7; exact h7
        have hlen : (newsL (fun _ => true) 0 pre).length ≤ (newsL (fun _ => true) 0 (pre ++ [d])).length := by rw [newsL_append]; simp
        obtain ⟨⟨r, r1, r2⟩, k2, k3, k4, k5, k6, k7, k8⟩ := simJ_st rest (pre ++ [d]) s2 ds s' h (by rw [p2, h1, ho]) hK' (fun p hp' => by
          have done : ∀ p ∈ s1.tmps, okV s0.b.length (s0.l.length + (newsL (fun _ => true) 0 (pre ++ [d])).length) p.2 := fun p hp' => by
            rcases h6 p hp' with h | ⟨b, h⟩
            · exact (ht p h).mono (Nat.le_refl _) (by omega)
            · rw [h]; trivial
          rcases p6 p hp' with h | h
          · exact done p h
          · rw [h]
            rw [ho] at h7
            rcases h7 with ⟨_, hx⟩ | ⟨e, he, _, _, hx⟩
            · exact hx.mono (Nat.le_refl _) (by omega)
            · rw [hx, newsL_append, newsL_some he]
              show _ < _
              simp)
        refine ⟨⟨d :: r, by rw [r1]; simp, by simp [r2]⟩, k2, by rw [k3, p3, h2], by rw [k4, p4, h3], by rw [k5, p5, h4], fun p hp' => k6 p (by rw [p1]; exact h5 p hp'), k7, k8⟩
      · cases h
    · cases h
theorem simJ_obl {E : Env} {n : Nat} {ops : Array Oper} {dj : Nat} {tj : TypeId} {sj : Nat} : ∀ (rest : List Oper) (pre : List Dn) (s : St) (ds : List Dn) (s' : St), simJ E n ops dj tj sj rest pre s = some (ds, s') → (∀ p ∈ s.obl, p ∈ s'.obl) ∧ ∃ r, ds = pre ++ r
  | [], pre, s, ds, s', h => by
    simp only [simJ, Option.some.injEq, Prod.mk.injEq] at h
    obtain ⟨rfl, rfl⟩ := h
    exact ⟨fun p hp => hp, [], by simp⟩
  | o :: rest, pre, s, ds, s', h => by
    unfold simJ at h
    split at h
    · rename_i d s1 hs
      split at h
      · rename_i s2 hp
        obtain ⟨_, _, _, _, h5, _⟩ := (stepJ_is hs).st
        obtain ⟨k1, r, k2⟩ := simJ_obl rest _ _ _ _ h
        exact ⟨fun p hp' => k1 p (by rw [(putS_keep hp).1]; exact h5 p hp'), d :: r, by rw [k2]; simp⟩
      · cases h
    · cases h
theorem simJ_ok {E : Env} (HC : CallOk E) {w0 : Base} (hG : GlobB E w0) {n : Nat} {ops : Array Oper} {ja dj : Nat} {tj : TypeId} {sj : Nat} (hbt : E.bt = none) {oj : Oper} (hja : ops[ja]? = some oj) (hjk : junkOf E.P oj = some (dj, tj, sj)) (hdep : depB ops = true) {s0 : Mem} (hok : OkB s0.b.length s0.l.length s0.b) (nb : ∀ (i : Nat) b, s0.b[i]? = some b → ∀ fl T e acc, b.kd ≠ .bld fl T e acc) {ν0 : Nu} {a0 : Act} (hz : a0.tmps.size = n) {ds : List Dn} (hK : KD s0 ds) :
    ∀ (rest : List Oper) (pops : List Oper) (pre : List Dn) (s s' : St), simJ E n ops dj tj sj rest pre s = some (ds, s') → ops.toList = pops ++ rest → pops.length = pre.length → Holds' s' → s.own = s0 →
      (∀ L ν a w, IDJ n ops w0 ν0 s0 a0 ds ja dj tj sj L ν a w → TR n ν s (actD L a ν 0 pops pre a0)) →
      (∀ k, pops.length ≤ k → ∀ o L ν a w, ops[k]? = some o → IDJ n ops w0 ν0 s0 a0 ds ja dj tj sj L ν a w → L k = false → (∀ e ∈ o.after, Region.binds .any e = true → L e.on = true) → ∀ (Q : Exit → Act → World → Prop) (K : Act → World → Prop), (∀ ν' a' w', IDJ n ops w0 ν0 s0 a0 ds ja dj tj sj (setL L k) ν' a' w' → K a' w') → wpOp E.P ops Q k K a w) ∧
        (∀ L ν a w, IDJ n ops w0 ν0 s0 a0 ds ja dj tj sj L ν a w → TR n ν s' (actD L a ν 0 ops.toList ds a0))
  | [], pops, pre, s, s', h, ho, hl, hh, hs, hT => by
    simp only [simJ, Option.some.injEq, Prod.mk.injEq] at h
    obtain ⟨rfl, rfl⟩ := h
    rw [List.append_nil] at ho
    refine ⟨fun k hk o L ν a w hko => ?_, fun L ν a w hI => by rw [ho]; exact hT L ν a w hI⟩
    exfalso
    have : k < ops.toList.length := by
      rcases Nat.lt_or_ge k ops.size with h | h
      · simpa using h
      · rw [Array.getElem?_eq_none h] at hko; cases hko
    rw [ho] at this; omega
  | o :: rest, pops, pre, s, s', h, ho, hl, hh, hs, hT => by
    unfold simJ at h
    split at h
    · rename_i d s1 hst
      split at h
      · rename_i s2 hp
        have hsd := stepJ_is hst
        obtain ⟨p1, p2, _⟩ := putS_keep hp
        obtain ⟨hob, r, hr⟩ := simJ_obl rest _ _ _ _ h
        have hh1 : Holds' s1 := fun p hp' => hh p (hob p (by rw [p1]; exact hp'))
        have hD : ds = pre ++ d :: r := by rw [hr]; simp
        have hd : ds[pre.length]? = some d := by rw [hD]; simp
        have get : ∀ (j : Nat), ops[j]? = (pops ++ o :: rest)[j]? := fun j => by rw [← ho]; simp
        have hok' : ops[pre.length]? = some o := by rw [get, ← hl]; simp
        have low : ∀ j, j < pops.length → ops[j]? = pops[j]? := fun j hj => by rw [get, List.getElem?_append_left hj]
        have IH := simJ_ok HC hG hbt hja hjk hdep hok nb hz hK rest (pops ++ [o]) (pre ++ [d]) s2 s' h (by rw [ho]; simp) (by simp [hl]) hh (by rw [p2, hsd.st.1, hs]) (fun L ν a w hI => by
          rw [actD_snoc L a ν o d pops pre 0 a0 hl, Nat.zero_add, hl]
          have ht1 := hsd.tr hh1 (hT L ν a w hI)
          cases hdst : o.dst with
          | none =>
            rw [hdst] at hp
            simp only [putS, Option.some.injEq] at hp
            subst hp
            exact ht1
          | some t =>
            have hv : Is ν d.x (valD L a ν pre.length o d) := by
              unfold valD
              simp only [hdst]
              by_cases hLk : L pre.length = true
              · rw [if_pos hLk]; exact hI.any.done pre.length o d t hok' hd hdst hLk
              · rw [if_neg hLk]; exact is_conc' ν d.x
            have := tr_put hp hv ht1
            rw [hdst] at this
            exact this)
        refine ⟨fun k hk o' L ν a w hko hI hL hrdy Q K hQ => ?_, IH.2⟩
        rcases Nat.lt_or_ge pops.length k with hlt | hge
        · exact IH.1 k (by simp; omega) o' L ν a w hko hI hL hrdy Q K hQ
        · obtain rfl : k = pre.length := by omega
          rw [hok'] at hko
          obtain rfl := Option.some.inj hko
          have dep := depB_ok hdep hok'
          refine hsd.ok HC hG hbt hh1 hdep hja hjk hs hok nb hD hK hok' (putS_lt hp) hI (hT L ν a w hI) hL hrdy (fun t ht => ?_) hQ
          have look : ∀ (j : Nat) oj, ops[j]? = some oj → oj.dst = some t → j < pre.length ∧ L j = true := fun j oj hj hjt => by
            have hb : looksB ops o j = true := by
              unfold looksB
              rw [hj]
              exact List.any_eq_true.mpr ⟨t, ht, dstIs_iff.mpr hjt⟩
            obtain ⟨k1, e, he, hbd, hon⟩ := dep.looks j hb
            exact ⟨k1, by rw [← hon]; exact hrdy e he hbd⟩
          refine actD_get L a ν t pops pre 0 a0 hl (by rw [hI.any.size, hz]) (fun j oj hj hjt => ?_) ?_
          · rw [Nat.zero_add]
            exact (look j oj (by rw [low j (lt_of_some_list hj)]; exact hj) hjt).2
          · by_cases hex : ∃ (j : Nat) (oj : Oper), pops[j]? = some oj ∧ oj.dst = some t
            · exact .inr hex
            · left
              refine (hI.any.base t fun i oi hoi hti => ?_).symm
              exfalso
              obtain ⟨k1, _⟩ := look i oi hoi hti
              exact hex ⟨i, oi, by rw [← low i (by omega)]; exact hoi, hti⟩
      · cases h
    · cases h
theorem findJ_ok {P : Program} : ∀ (l : List Oper) (k ja dd : Nat) (t : TypeId) (sz : Nat), findJ P l k = some (ja, dd, t, sz) → k ≤ ja ∧ ∃ o, l[ja - k]? = some o ∧ junkOf P o = some (dd, t, sz)
  | [], k, ja, dd, t, sz, h => by cases h
  | o :: r, k, ja, dd, t, sz, h => by
    unfold findJ at h
    split at h
    · rename_i d' t' sz' hj
      simp only [Option.some.injEq, Prod.mk.injEq] at h
      obtain ⟨rfl, rfl, rfl, rfl⟩ := h
      exact ⟨Nat.le_refl _, o, by simp, hj⟩
    · obtain ⟨h1, o', h2, h3⟩ := findJ_ok r (k + 1) ja dd t sz h
      refine ⟨by omega, o', ?_, h3⟩
      rw [show ja - k = (ja - (k + 1)) + 1 by omega]
      simpa using h2
theorem regionJ_some {E : Env} {n : Nat} {ops : Array Oper} {s s' : St} (h : regionJ E n ops s = some s') : ∃ (ja dd : Nat) (t : TypeId) (sz : Nat) (oj : Oper) (ds : List Dn) (s1 : St), ops[ja]? = some oj ∧ junkOf E.P oj = some (dd, t, sz) ∧ E.bt = none ∧ (∀ (i : Nat) b, s.own.b[i]? = some b → ∀ fl T e acc, b.kd ≠ .bld fl T e acc) ∧ depB ops = true ∧ simJ E n ops dd t sz ops.toList [] s = some (ds, s1) ∧ s' = { s1 with own := { s1.own with l := s1.own.l ++ newsL (fun _ => true) 0 ds } } := by
  unfold regionJ at h
  split at h
  · rename_i ja dd t sz hf
    obtain ⟨_, oj, h2, h3⟩ := findJ_ok _ _ _ _ _ _ hf
    rw [Nat.sub_zero] at h2
    cases hb : (E.bt.isNone && noBld s.own && depB ops)
    · rw [hb] at h; cases h
    · rw [hb] at h
      simp only [cond_true] at h
      simp only [Bool.and_eq_true, Option.isNone_iff_eq_none] at hb
      split at h
      · rename_i ds s1 hs
        simp only [Option.some.injEq] at h
        refine ⟨ja, dd, t, sz, oj, ds, s1, by simpa using h2, h3, hb.1.1, fun i b hi fl T e acc hk => ?_, hb.2, hs, h.symm⟩
        have := List.all_eq_true.mp hb.1.2 b (List.mem_of_getElem? hi)
        rw [hk] at this; cases this
      · cases h
  · cases h
theorem regionJ_st {E : Env} {n : Nat} {ops : Array Oper} {s s' : St} (h : regionJ E n ops s = some s') (hg : Good s) : Le s s' ∧ Good s' ∧ s'.mem = s.mem := by
  obtain ⟨ja, dj, tj, sj, oj, ds, s1, hja, hjk, hbt, nb, hd, hs, rfl⟩ := regionJ_some h
  obtain ⟨_, k2, k3, k4, k5, k6, k7, k8⟩ := simJ_st (s0 := s.own) _ _ _ _ _ hs rfl (fun i d hi => by simp at hi) (fun p hp => by simpa [newsL] using hg.ok p hp)
  refine ⟨⟨k6, by show _ ≤ s1.own.b.length; rw [k2]; exact Nat.le_refl _, by show _ ≤ (s1.own.l ++ _).length; rw [k2]; simp, k4, k5, fun i hi => by show s1.own.b[i]? = _; rw [k2], fun i hi => by show (s1.own.l ++ _)[i]? = _; rw [k2]; exact List.getElem?_append_left (Nat.lt_of_lt_of_le hi hg.llo)⟩, ⟨?_, ?_, fun p hp => ?_, ?_⟩, k3⟩
  · show s1.lo ≤ s1.own.b.length; rw [k4, k2]; exact hg.lo
  · show s1.llo ≤ (s1.own.l ++ newsL (fun _ => true) 0 ds).length; rw [k5, k2, List.length_append]; exact Nat.le_trans hg.llo (by omega)
  · show okV s1.own.b.length (s1.own.l ++ newsL (fun _ => true) 0 ds).length p.2; rw [k2, List.length_append]; exact k8 p hp
  · show OkB s1.own.b.length (s1.own.l ++ newsL (fun _ => true) 0 ds).length s1.own.b; rw [k2, List.length_append]; exact hg.okb.mono (Nat.le_refl _) (by omega)
theorem regionJ_ok {E : Env} (HC : CallOk E) {w0 : Base} (hG : GlobB E w0) {id n : Nat} {ops : Array Oper} {s s' : St} (hm : E.P.follows .mixedOrders = true) (h : regionJ E n ops s = some s') (hg : Good s) (hh : Holds' s') {Q : Exit → Act → World → Prop} {ν0 : Nu} {a0 : Act} {w : World} (ht : TR n ν0 s a0) (hw : WR w0 ν0 s.own true w)
    (hQ : ∀ ν' a' w', Ag s.own ν0 ν' → TR n ν' s' a' → WR w0 ν' s'.own true w' → Q .normal a' w') : (Code.region id ops true).wp E.P Q a0 w := by
  obtain ⟨ja, dj, tj, sj, oj, ds, s1, hja, hjk, hbt, nb, hd, hs, rfl⟩ := regionJ_some h
  obtain ⟨⟨r0, r1, r2⟩, k2, k3, k4, k5, k6, k7, k8⟩ := simJ_st (s0 := s.own) _ _ _ _ _ hs rfl (fun i d hi => by simp at hi) (fun p hp => by simpa [newsL] using hg.ok p hp)
  have hdl : ds.length = ops.size := by rw [r1, List.nil_append, r2]; simp
  obtain ⟨step, fin⟩ := simJ_ok HC hG hbt hja hjk hd hg.okb nb (ν0 := ν0) (a0 := a0) ht.size k7 ops.toList [] [] s s1 hs rfl rfl hh rfl (fun L ν a w hI => by
    show TR n ν s a0
    exact ht.move hg hI.any.ag rfl)
  have hrep : lstB (Array.replicate ops.size false) = fun _ => false := by
    funext j
    unfold lstB
    simp only [Array.getD_eq_getD_getElem?, Array.getElem?_replicate]
    split <;> rfl
  refine wp_region_any hm (wpAny_steps (I := fun L a w => ∃ ν, IDJ n ops w0 ν0 s.own a0 ds ja dj tj sj L ν a w) (fun L i o a w ho hI hL hr K hK => ?_) (fun L a w hall hI => ?_) (fun i o ho e he hb => (depB_ok hd ho).low e he hb) ops.size (Array.replicate ops.size false) a0 _ (by simp) ?_ ?_)
  · obtain ⟨ν, hI⟩ := hI
    exact step i (Nat.zero_le _) o L ν a w ho hI hL hr Q K fun ν' a' w' hI' => hK a' w' ⟨ν', hI'⟩
  · obtain ⟨ν, hI⟩ := hI
    have hT := fin L ν a w hI
    have same : ∀ t, (actD L a ν 0 ops.toList ds a0).tmps.getD t undef = a.tmps.getD t undef := fun t => by
      refine actD_get L a ν t ops.toList ds 0 a0 (by simp [hdl]) (by rw [hI.any.size, ht.size]) (fun j oj hj _ => by rw [Nat.zero_add]; exact hall j (by simpa using lt_of_some_list hj)) ?_
      by_cases hex : ∃ (j : Nat) (oj : Oper), ops.toList[j]? = some oj ∧ oj.dst = some t
      · exact .inr hex
      · left
        refine (hI.any.base t fun i oi hoi hti => ?_).symm
        exact absurd ⟨i, oi, by simpa using hoi, hti⟩ hex
    have hL : newsL L 0 ds = newsL (fun _ => true) 0 ds := newsL_congr ds 0 fun j _ hj => hall j (by omega)
    have hwr := hI.any.wr
    rw [hL] at hwr
    refine hQ ν a w hI.any.ag ⟨hI.any.size, fun t => ?_, hI.any.df⟩ (by show WR w0 ν { s1.own with l := s1.own.l ++ newsL (fun _ => true) 0 ds } true w; rw [k2]; exact hwr)
    have := hT.tm t
    rw [same t] at this
    exact this
  · have := List.length_filter_le (fun i => !lstB (Array.replicate ops.size false) i) (List.range ops.size)
    simpa using this
  · rw [hrep]
    refine ⟨ν0, ⟨fun _ => ⟨Agree.refl _ _ _, ht.size, ht.df, fun _ _ => rfl, fun i o d t _ _ _ hL => (by cases hL), ?_⟩, fun h => by cases h⟩⟩
    refine hw.drew.kill rfl (fun p e hp hde => ?_) (hg.okb.mono (Nat.le_refl _) (by simp))
    have hp : (s.own.l ++ newsL (fun _ => false) 0 ds)[p]? = some e := hp
    rcases Nat.lt_or_ge p s.own.l.length with hl | hl
    · rw [List.getElem?_append_left hl] at hp; exact hp
    · rw [List.getElem?_append_right hl] at hp
      rw [newsL_dead ds _ _ e hp] at hde; cases hde
end Go.Proofs.YtpmjfpdogbcigaaDoor.S2
