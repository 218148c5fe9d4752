/- The evaluator with lists answers what the call returns: from one operation to the next; regions. No word of the program. -/
import Derived.Test.YtagakdcinppeiaaDoorS2D
namespace Go.Proofs.YtagakdcinppeiaaDoor.S2
open Go Go.RowKit Sim
set_option linter.unusedVariables false
set_option linter.unusedSimpArgs false

theorem op_fx {E : Env} {n : Nat} {o : Oper} {s : St} {x : SV} {own : Mem} {q : List (Bool × Bool)} {w0 : World} {ν : Nu} {a : Act} {w : World} {K : Act → World → Prop} {Q : Exit → Act → World → Prop}
    (h : simFX E o s = some (x, own, q)) (hq : ∀ p ∈ q, p.1 = p.2) (ht : TR n ν s a) (hw : WR w0 ν s.own s.mem w)
    (hK : ∀ ν' v w', Ag s.own ν ν' → Is ν' x v → WR w0 ν' own true w' → K (a.put o.dst v) w') : o.wp E.P a w K Q := by
  unfold simFX at h
  unfold Oper.wp
  split at h
  · rename_i t ho
    split at h
    · rename_i i hi
      split at h
      · rename_i z hz
        simp only [Option.some.injEq, Prod.mk.injEq] at h
        obtain ⟨rfl, rfl, _⟩ := h
        have hr : (execOp a.eval o).run E.P w = .ok (.value (.pointer (some ⟨w.heap.size, 0, none⟩))) (w.alloc (.cells z.cells t)) := by
          simp only [execOp, ho, Instr.alloc, zeroValue, typeInfo, Sem.run_bind, run_program, Result.andThen_ok, hi, Sem.run_pure, hz, newVar, newRow, run_newObj, World.alloc_eq]
        rw [hr, Oper.upon_value]
        exact hK (extL ν s.own.b.length w.heap.size) _ (w.alloc (.cells z.cells t)) (extL_old _ _ _ _) (by show _ = _; simp [conc, extL_new]) (hw.grow z.cells.toList t _)
      · cases h
    · cases h
  · rename_i t x' ho
    split at h
    · rename_i fl y hx
      simp only [Option.some.injEq, Prod.mk.injEq] at h
      obtain ⟨rfl, rfl, _⟩ := h
      have he := eval_v ht hx
      have hr : (execOp a.eval o).run E.P w = .ok (.value (.pointer (some ⟨w.heap.size, 0, none⟩))) (w.alloc (.cells y.cells t)) := by
        simp only [execOp, ho, he, Instr.box, Sem.run_bind, Result.andThen_ok, Sem.run_pure, newVar, newRow, run_newObj, World.alloc_eq]
      rw [hr, Oper.upon_value]
      exact hK (extL ν s.own.b.length w.heap.size) _ (w.alloc (.cells y.cells t)) (extL_old _ _ _ _) (by show _ = _; simp [conc, extL_new]) (hw.grow y.cells.toList t _)
    · cases h
  · rename_i t x' y' ho
    split at h
    · rename_i i off fl u hx hy
      cases hlo : Nat.ble s.lo i
      · rw [hlo] at h; cases h
      · rw [hlo] at h
        simp only [cond_true] at h
        split at h
        · rename_i b hb
          split at h
          · rename_i cs hcs
            simp only [Option.some.injEq, Prod.mk.injEq] at h
            obtain ⟨rfl, rfl, _⟩ := h
            have hex := eval_own ht hx
            have hey := eval_v ht hy
            obtain ⟨w', r1, r2, r3, r4, r5, r6, r7⟩ := run_storeB hcs w (hw.blk i b hb).1
            have hr : (execOp a.eval o).run E.P w = .ok .skip w' := by
              simp only [execOp, ho, hex, hey, Instr.storeAt, Instr.sureAddr, Sem.run_bind, Sem.run_pure, Result.andThen_ok, r1]
            rw [hr, Oper.upon_skip]
            exact hK ν _ w' (Agree.refl _ _ _) rfl (hw.store hb r2 r3 r4 r5 r6 r7 _)
          · cases h
        · cases h
    · cases h
  · rename_i t len parts ho
    cases hb : parts.toList.all (fun p => isV (ev s p.2))
    · rw [hb] at h; cases h
    · rw [hb] at h
      simp only [cond_true] at h
      split at h
      · rename_i cells e hlit
        simp only [Option.some.injEq, Prod.mk.injEq] at h
        obtain ⟨rfl, rfl, _⟩ := h
        have hp : (parts.map fun (i, x) => (i, a.eval x)) = (parts.toList.map fun p => (p.1, rho s p.2)).toArray := by
          rw [← Array.toArray_toList (xs := parts.map _), Array.toList_map]
          congr 1
          refine List.map_congr_left fun p hp => ?_
          rw [List.all_eq_true] at hb
          show (p.1, a.eval p.2) = _
          rw [eval_rho ht (hb p hp)]
        have hr : (execOp a.eval o).run E.P w = .ok (.value (.slice (some ⟨w.heap.size, 0, none⟩) len len)) (w.alloc (.cells cells.toArray e)) := by
          simp only [execOp, ho, hp, Sem.run_bind, run_litB hlit w, Result.andThen_ok, Sem.run_pure]
        rw [hr, Oper.upon_value]
        exact hK (extL ν s.own.b.length w.heap.size) _ (w.alloc (.cells cells.toArray e)) (extL_old _ _ _ _) (by show _ = _; simp [conc, extL_new]) (hw.grow cells e _)
      · cases h
  · rename_i as ats ho
    split at h
    · rename_i x' y' t t' hl1 hl2
      have e1 : as = #[x', y'] := by rw [← Array.toArray_toList (xs := as), hl1]
      have e2 : ats = #[t, t'] := by rw [← Array.toArray_toList (xs := ats), hl2]
      cases hb : Nat.beq t t'
      · rw [hb] at h; cases h
      · rw [hb] at h
        have htt := Nat.eq_of_beq_eq_true hb
        subst htt
        simp only [cond_true] at h
        split at h
        · rename_i e hu
          split at h
          · rename_i i hi
            split at h
            · rename_i z hz
              simp only [cond_eq_ite] at h
              split at h
              · rename_i hcond
                simp only [Bool.and_eq_true] at hcond
                have hzs := Nat.eq_of_beq_eq_true hcond.1
                have hsz : 0 < i.size := by simpa [Nat.blt_eq] using hcond.2
                split at h
                · rename_i n' f o1 k? m g o2 hbase hnews
                  simp only [Option.some.injEq, Prod.mk.injEq] at h
                  obtain ⟨rfl, rfl, rfl⟩ := h
                  have hpre := hq (pre (decide (n' + m ≤ maxLen ∧ (n' + m) * i.bytes ≤ 140737488355328 ∧ 0 < m)), true) (by simp)
                  simp only [pre, decide_eq_true_eq] at hpre
                  obtain ⟨h63, hby, hm⟩ := hpre
                  obtain ⟨hown, hwf1, hne1, hk1, hv1⟩ := baseOf_ok hbase hw
                  obtain ⟨⟨ad, c, hy, hcell⟩, hwf2, hne2⟩ := newsOf_ok hnews hsz hm hw
                  have hex := eval_ev ht rfl hne1
                  have hey := (eval_ev ht rfl hne2).trans hy
                  have hl : ((List.range m).flatMap g).length = m * i.size := flat_len m (fun j hj => (hwf2 j hj).1)
                  have hone : ∀ u ∈ (List.range m).flatMap g, u.oneCell' = true := fun u hu => by
                    obtain ⟨j, hj, hju⟩ := List.mem_flatMap.mp hu
                    exact List.all_eq_true.mp (hwf2 j (List.mem_range.mp hj)).2 u hju
                  obtain ⟨v', w', hr, h2, h3, h4⟩ := run_append_own (P := E.P) w w0.heap.size t o.type e i z i.size i.bytes hu hi hz rfl rfl hzs hsz _ n' _ hown ad m c _ hl hcell hone h63 hby hw.below.size
                  have hwh := append_where hr hu hi hz hown hm hl hcell hone h63 hby
                  have hr' : (execOp a.eval o).run E.P w = .ok (.value v') w' := by
                    subst e1 e2
                    unfold execOp
                    simp only [ho, resolve, invoke, builtin, Sem.run_bind, Sem.run_pure, Result.andThen_ok, List.map_toArray, List.map_cons, List.map_nil, hex, hey, hr]
                  rw [hr', Oper.upon_value]
                  have hlen := killL_len s.own.l k?
                  refine hK (extV ν s.own.l.length v') v' w' (extV_old _ _ _ _) (by show _ = _; simp [conc, extV_new]) (hw.append (ne := ⟨e, i.size, n' + m, joinE n' f g, true, false, o1 || o2⟩) ⟨⟨hsz, fun j hj => ?_⟩, ?_⟩ rfl hv1 h3 hwh)
                  · show (joinE n' f g j).length = i.size ∧ (joinE n' f g j).all Value.oneCell' = true
                    unfold joinE
                    cases hjb : Nat.blt j n'
                    · have : ¬ j < n' := by intro hc; rw [← Nat.blt_eq, hjb] at hc; cases hc
                      have hj' : j < n' + m := hj
                      exact hwf2 (j - n') (by omega)
                    · exact hwf1 j (by simpa [Nat.blt_eq] using hjb)
                  · unfold LE.flat
                    show w'.ownsRow w0.heap.size e i.size v' (n' + m) ((List.range (n' + m)).flatMap (joinE n' f g))
                    rw [flat_join]; exact h2
                · cases h
              · cases h
            · cases h
          · cases h
        · cases h
    · cases h
  · cases h

/-! ### Calls in place -/
/-- What is asked of a callee, by itself. -/
def ClSt (cl : Callee) : Prop := ∀ f args s x s', s.lo ≤ s.own.b.length → s.llo ≤ s.own.l.length → (∀ y ∈ args, okV s.own.b.length s.own.l.length y) → cl f args s = some (x, s') → Le s s' ∧ okV s'.own.b.length s'.own.l.length x
/-- Values for slots' contents. -/
def IsL (ν : Nu) : List SV → List Value → Prop
  | [], [] => True
  | x :: r, v :: vs => Is ν x v ∧ IsL ν r vs
  | _, _ => False
/-- .. and of what it does. -/
def ClOk (E : Env) (w0 : World) (cl : Callee) : Prop := ∀ f args s x s', s.lo ≤ s.own.b.length → s.llo ≤ s.own.l.length → (∀ y ∈ args, okV s.own.b.length s.own.l.length y) → cl f args s = some (x, s') → Holds' s' → ∀ ν w vs, IsL ν args vs → WR w0 ν s.own s.mem w →
  (∃ fn, E.P.funcs[f]? = some fn ∧ (fn.name == "runtime.NumGoroutine") = false ∧ fn.body.isNone = false) ∧
    Calls E.P f vs.toArray w fun e w' => ∃ ν' v, Ag s.own ν ν' ∧ e = .returned v ∧ Is ν' x v ∧ WR w0 ν' s'.own s'.mem w'
theorem callArgs_ok {s : St} {o : Oper} {f : FuncId} {args : List SV} (h : callArgs s o = some (f, args)) : ∃ as ats, o.op = .call { callee := .value (.func f), args := as, argTypes := ats } ∧ args = as.toList.map (ev s) := by
  unfold callArgs at h
  split at h
  · rename_i f' as ats ho
    simp only [Option.some.injEq, Prod.mk.injEq] at h
    obtain ⟨rfl, rfl⟩ := h
    exact ⟨as, ats, ho, rfl⟩
  · cases h
theorem isL_map {n : Nat} {ν : Nu} {s : St} {a : Act} (ht : TR n ν s a) : ∀ (l : List Operand), IsL ν (l.map (ev s)) (l.map a.eval)
  | [] => trivial
  | x :: r => ⟨eval_is ht x, isL_map ht r⟩
theorem evals {a : Act} (as : Array Operand) : as.map a.eval = (as.toList.map a.eval).toArray := by rw [← Array.toArray_toList (xs := as.map a.eval), Array.toList_map]

/-! ### Regions -/
theorem Le.upd {s t : St} (h : Le s t) (s' : St) (h1 : s'.obl = t.obl) (h2 : s'.own = t.own) (h3 : s'.lo = s.lo) (h4 : s'.llo = s.llo) : Le s s' :=
  ⟨fun p hp => by rw [h1]; exact h.ext p hp, by rw [h2]; exact h.len, by rw [h2]; exact h.llen, h3, h4, fun i hi => by rw [h2]; exact h.keep i hi, fun i hi => by rw [h2]; exact h.lkeep i hi⟩
theorem more_ext (s : St) (q : List (Bool × Bool)) : ∀ p ∈ s.obl, p ∈ more s q := fun p hp => List.mem_append_right _ hp
theorem more_q {s : St} {q : List (Bool × Bool)} (h : ∀ p ∈ more s q, p.1 = p.2) : (∀ p ∈ q, p.1 = p.2) ∧ Holds' s := ⟨fun p hp => h p (List.mem_append_left _ hp), fun p hp => h p (List.mem_append_right _ hp)⟩
theorem Good.grow {s : St} (hg : Good s) {s' : St} (h1 : s'.tmps = s.tmps) (h2 : s'.lo = s.lo) (h3 : s'.llo = s.llo) (h4 : s.own.b.length ≤ s'.own.b.length) (h5 : s.own.l.length ≤ s'.own.l.length) : Good s' :=
  ⟨by rw [h2]; exact Nat.le_trans hg.lo h4, by rw [h3]; exact Nat.le_trans hg.llo h5, fun p hp => (hg.ok p (by rw [← h1]; exact hp)).mono h4 h5⟩
theorem simOps_st {E : Env} {cl : Callee} (hcl : ClSt cl) {n : Nat} {ops : Array Oper} {ro : Bool} : ∀ (l : List Oper) (s s' : St), Good s → simOps E cl n ops ro l s = some s' → Le s s' ∧ Good s' ∧ (ro = true → s'.own = s.own)
  | [], s, s', hg, h => by simp only [simOps, Option.some.injEq] at h; subst h; exact ⟨Le.refl s, hg, fun _ => rfl⟩
  | o :: rest, s, s', hg, h => by
    have go : ∀ (s1 s2 s3 : St) (x : SV), Le s s1 → Le s1 s2 → Good s2 → okV s2.own.b.length s2.own.l.length x → (ro = true → s2.own = s.own) → putS n o.dst x s2 = some s3 → simOps E cl n ops ro rest s3 = some s' → Le s s' ∧ Good s' ∧ (ro = true → s'.own = s.own) := fun s1 s2 s3 x k1 k2 k3 k4 k5 hp hr => by
      obtain ⟨g3, l3⟩ := putS_good hp k3 k4
      obtain ⟨r1, r2, r3⟩ := simOps_st hcl rest s3 s' g3 hr
      exact ⟨((k1.trans k2).trans l3).trans r1, r2, fun hro => by rw [r3 hro, (putS_keep hp).2.1, k5 hro]⟩
    unfold simOps at h
    split at h
    · cases h
    · rename_i s1 hw
      obtain ⟨k1, k2, k3, k4⟩ := wantS_st hw
      split at h
      · rename_i s2 hp
        exact go s1 s1 s2 (.inl ([], undef)) k1 (Le.refl _) (k4 hg) trivial (fun _ => k2) hp h
      · cases h
    · rename_i s1 hw
      obtain ⟨k1, k2, k3, k4⟩ := wantS_st hw
      have g1 := k4 hg
      split at h
      · rename_i x own q hfx
        cases ro with
        | true => cases hfx
        | false =>
          simp only [cond_false] at hfx
          obtain ⟨f1, f2, f3, f4, f5⟩ := simFX_st hfx g1
          split at h
          · rename_i s2 hp
            refine go s1 { s1 with own := own, mem := true, obl := more s1 q } s2 x k1 ⟨more_ext s1 q, f2, f3, rfl, rfl, f4, f5⟩ (g1.grow rfl rfl rfl f2 f3) f1 (fun h => by cases h) hp h
          · cases h
      · split at h
        · rename_i x c q hro
          have hx := simRO_st hro g1
          split at h
          · rename_i s2 hp
            exact go s1 { s1 with mem := s1.mem || c, obl := more s1 q } s2 x k1 (.same (more_ext s1 q) rfl rfl rfl) ⟨g1.lo, g1.llo, g1.ok⟩ hx (fun _ => k2) hp h
          · cases h
        · split at h
          · cases h
          · rename_i f args hca
            have hargs : ∀ y ∈ args, okV s1.own.b.length s1.own.l.length y := fun y hy => by
              obtain ⟨as, ats, _, rfl⟩ := callArgs_ok hca
              obtain ⟨x, _, rfl⟩ := List.mem_map.mp hy
              exact ev_ok g1 x
            cases ro with
            | true =>
              simp only [cond_true] at h
              split at h
              · rename_i fl x s2 hc
                obtain ⟨c1, c2⟩ := hcl f args { s1 with lo := s1.own.b.length, llo := s1.own.l.length } _ s2 (Nat.le_refl _) (Nat.le_refl _) hargs hc
                split at h
                · rename_i s3 hp
                  exact go s1 { s1 with mem := true, orc := s2.orc, obl := s2.obl } s3 (.inl (fl, x)) k1 (.same c1.ext rfl rfl rfl) ⟨g1.lo, g1.llo, g1.ok⟩ trivial (fun _ => k2) hp h
                · cases h
              · cases h
            | false =>
              simp only [cond_false] at h
              split at h
              · rename_i x s2 hc
                obtain ⟨c1, c2⟩ := hcl f args s1 _ s2 g1.lo g1.llo hargs hc
                split at h
                · rename_i s3 hp
                  exact go s1 { s1 with own := s2.own, mem := s2.mem, orc := s2.orc, obl := s2.obl } s3 _ k1 (c1.upd _ rfl rfl rfl rfl) (g1.grow rfl rfl rfl c1.len c1.llen) c2 (fun h => by cases h) hp h
                · cases h
              · cases h
theorem Ag.step {s s2 : St} {ν ν' ν'' : Nu} (h1 : Ag s.own ν ν') (h2 : Ag s2.own ν' ν'') (hn : s.own.b.length ≤ s2.own.b.length) (hm : s.own.l.length ≤ s2.own.l.length) : Ag s.own ν ν'' := Agree.trans h1 h2 hn hm
theorem simOps_wp {E : Env} (HC : CallOk E) {cl : Callee} (hst : ClSt cl) {w0 : World} (hok : ClOk E w0 cl) {n : Nat} {ops : Array Oper} (hG : Glob E w0) {Q : Exit → Act → World → Prop} :
    ∀ (l : List Oper) (s s' : St), simOps E cl n ops false l s = some s' → Good s → Holds' s' → ∀ ν a w, TR n ν s a → WR w0 ν s.own s.mem w →
      (∀ ν' a' w', Ag s.own ν ν' → TR n ν' s' a' → WR w0 ν' s'.own s'.mem w' → Q .normal a' w') → wpList E.P ops Q l a w
  | [], s, s', h, _, _, ν, a, w, ht, hw, hQ => by
    simp only [simOps, Option.some.injEq] at h; subst h
    exact wpList_nil (hQ ν a w (Agree.refl _ _ _) ht hw)
  | o :: rest, s, s', h, hg, hh, ν, a, w, ht, hw, hQ => by
    unfold simOps at h
    refine wpList_step fun K hK => ?_
    split at h
    · cases h
    · rename_i s1 hwant
      obtain ⟨k1, k2, k3, k4⟩ := wantS_st hwant
      have g1 := k4 hg
      split at h
      · rename_i s2 hp
        obtain ⟨p1, p2, p3, p4, _⟩ := putS_keep hp
        obtain ⟨g2, l2⟩ := putS_good hp g1 trivial
        have hh1 : Holds' s1 := (l2.trans (simOps_st hst rest s2 s' g2 h).1).holds hh
        obtain ⟨hwn, ht1⟩ := wantS_ok hwant hh1 ht
        rw [if_neg (by rw [hwn]; simp)]
        exact hK _ _ (simOps_wp HC hst hok hG rest s2 s' h g2 hh ν _ w (tr_put hp rfl ht1) (by rw [p2, p3, k2, k3]; exact hw) (fun ν' a' w' ha => hQ ν' a' w' (by rw [p2, k2] at ha; exact ha)))
      · cases h
    · rename_i s1 hwant
      obtain ⟨k1, k2, k3, k4⟩ := wantS_st hwant
      have g1 := k4 hg
      have hw1 : WR w0 ν s1.own s1.mem w := by rw [k2, k3]; exact hw
      split at h
      · rename_i x own q hfx
        simp only [cond_false] at hfx
        obtain ⟨f1, f2, f3, f4, f5⟩ := simFX_st hfx g1
        split at h
        · rename_i s2 hp
          obtain ⟨p1, p2, p3, p4, _⟩ := putS_keep hp
          have gm : Good { s1 with own := own, mem := true, obl := more s1 q } := g1.grow rfl rfl rfl f2 f3
          obtain ⟨g2, l2⟩ := putS_good hp gm f1
          obtain ⟨hq, hh1⟩ := more_q ((l2.trans (simOps_st hst rest s2 s' g2 h).1).holds hh)
          obtain ⟨hwn, ht1⟩ := wantS_ok hwant hh1 ht
          rw [if_pos hwn]
          refine op_fx hfx hq ht1 hw1 fun ν' v w' ha hv hw' => ?_
          exact hK _ _ (simOps_wp HC hst hok hG rest s2 s' h g2 hh ν' _ w' (tr_put hp hv (ht1.move g1 ha rfl)) (by rw [p2, p3]; exact hw')
            (fun ν'' a' w'' ha' => hQ ν'' a' w'' (by rw [← k2]; exact Agree.trans ha ha' (by rw [p2]; exact f2) (by rw [p2]; exact f3))))
        · cases h
      · split at h
        · rename_i x c q hro
          split at h
          · rename_i s2 hp
            obtain ⟨p1, p2, p3, p4, _⟩ := putS_keep hp
            have gm : Good { s1 with mem := s1.mem || c, obl := more s1 q } := ⟨g1.lo, g1.llo, g1.ok⟩
            have hx := simRO_st hro g1
            obtain ⟨g2, l2⟩ := putS_good hp gm hx
            obtain ⟨hq, hh1⟩ := more_q ((l2.trans (simOps_st hst rest s2 s' g2 h).1).holds hh)
            obtain ⟨hwn, ht1⟩ := wantS_ok hwant hh1 ht
            rw [if_pos hwn]
            refine op_ro HC hG hro hq g1 ht1 hw1 fun v w' hv hw' => ?_
            exact hK _ _ (simOps_wp HC hst hok hG rest s2 s' h g2 hh ν _ w' (tr_put hp hv (ht1.of rfl)) (by rw [p2, p3]; exact hw')
              (fun ν'' a' w'' ha' => hQ ν'' a' w'' (by rw [p2] at ha'; rw [← k2]; exact ha')))
          · cases h
        · split at h
          · cases h
          · rename_i f args hca
            obtain ⟨as, ats, hop, hargs⟩ := callArgs_ok hca
            have hok1 : ∀ y ∈ args, okV s1.own.b.length s1.own.l.length y := fun y hy => by
              rw [hargs] at hy
              obtain ⟨x, _, rfl⟩ := List.mem_map.mp hy
              exact ev_ok g1 x
            simp only [cond_false] at h
            split at h
            · rename_i x s2 hc
              obtain ⟨c1, c2⟩ := hst f args s1 _ s2 g1.lo g1.llo hok1 hc
              split at h
              · rename_i s3 hp
                obtain ⟨p1, p2, p3, p4, _⟩ := putS_keep hp
                have gm : Good { s1 with own := s2.own, mem := s2.mem, orc := s2.orc, obl := s2.obl } := g1.grow rfl rfl rfl c1.len c1.llen
                obtain ⟨g3, l3⟩ := putS_good hp gm c2
                have hh2 : Holds' s2 := fun p hp' => ((l3.trans (simOps_st hst rest s3 s' g3 h).1).holds hh) p hp'
                have hh1 : Holds' s1 := c1.holds hh2
                obtain ⟨hwn, ht1⟩ := wantS_ok hwant hh1 ht
                rw [if_pos hwn]
                obtain ⟨hf, hcalls⟩ := hok f args s1 x s2 g1.lo g1.llo hok1 hc hh2 ν w _ (by rw [hargs]; exact isL_map ht1 as.toList) hw1
                unfold Oper.wp
                rw [run_enter hop hf w, Oper.upon_enter, evals]
                refine hcalls.mono fun e w' ⟨ν', v, ha, he, hv, hw'⟩ => ?_
                subst he
                exact hK _ _ (simOps_wp HC hst hok hG rest s3 s' h g3 hh ν' _ w' (tr_put hp hv (ht1.move g1 ha rfl)) (by rw [p2, p3]; exact hw')
                  (fun ν'' a' w'' ha' => hQ ν'' a' w'' (by rw [← k2]; exact Agree.trans ha ha' (by rw [p2]; exact c1.len) (by rw [p2]; exact c1.llen))))
              · cases h
            · cases h
/-- A region that draws its order: it only reads and calls. -/
theorem simOps_quiet {E : Env} (HC : CallOk E) {cl : Callee} (hst : ClSt cl) {w0 : World} (hok : ClOk E w0 cl) {n : Nat} {ops : Array Oper} (hG : Glob E w0) {ν : Nu} {own : Mem} {Q : Act → Prop} :
    ∀ (l : List Oper) (s s' : St), simOps E cl n ops true l s = some s' → Good s → Holds' s' → s.own = own → s.mem = true → ∀ a, TR n ν s a →
      (s'.mem = true → ∀ a', TR n ν s' a' → Q a') → wpQuiet E.P ops (fun w => WR w0 ν own true w) Q l a
  | [], s, s', h, _, _, h1, h2, a, ht, hQ => by
    simp only [simOps, Option.some.injEq] at h; subst h
    exact wpQuiet_nil (hQ h2 a ht)
  | o :: rest, s, s', h, hg, hh, h1, h2, a, ht, hQ => by
    unfold simOps at h
    refine wpQuiet_step fun K hK => ?_
    split at h
    · cases h
    · rename_i s1 hwant
      obtain ⟨k1, k2, k3, k4⟩ := wantS_st hwant
      have g1 := k4 hg
      split at h
      · rename_i s2 hp
        obtain ⟨p1, p2, p3, p4, _⟩ := putS_keep hp
        obtain ⟨g2, l2⟩ := putS_good hp g1 trivial
        have hh1 : Holds' s1 := (l2.trans (simOps_st hst rest s2 s' g2 h).1).holds hh
        obtain ⟨hwn, ht1⟩ := wantS_ok hwant hh1 ht
        rw [if_neg (by rw [hwn]; simp)]
        exact hK _ (simOps_quiet HC hst hok hG rest s2 s' h g2 hh (by rw [p2, k2, h1]) (by rw [p3, k3, h2]) _ (tr_put hp rfl ht1) hQ)
      · cases h
    · rename_i s1 hwant
      obtain ⟨k1, k2, k3, k4⟩ := wantS_st hwant
      have g1 := k4 hg
      have e1 : s1.own = own := k2.trans h1
      split at h
      · rename_i x own' q hfx
        cases hfx
      · split at h
        · rename_i x c q hro
          split at h
          · rename_i s2 hp
            obtain ⟨p1, p2, p3, p4, _⟩ := putS_keep hp
            have gm : Good { s1 with mem := s1.mem || c, obl := more s1 q } := ⟨g1.lo, g1.llo, g1.ok⟩
            have hx := simRO_st hro g1
            obtain ⟨g2, l2⟩ := putS_good hp gm hx
            obtain ⟨hq, hh1⟩ := more_q ((l2.trans (simOps_st hst rest s2 s' g2 h).1).holds hh)
            obtain ⟨hwn, ht1⟩ := wantS_ok hwant hh1 ht
            rw [if_pos hwn]
            obtain ⟨v, hv, hdo⟩ := simRO_ok (mem := true) hro hq ht1 hG hx
            refine ⟨v, fun w hw => ?_, hK _ (simOps_quiet HC hst hok hG rest s2 s' h g2 hh (by rw [p2]; exact e1) (by rw [p3]; show (s1.mem || c) = true; rw [k3, h2]; rfl) _ (tr_put hp hv (ht1.of rfl)) hQ)⟩
            unfold Oper.quietAt
            rcases hdo with ⟨rfl, hd⟩ | ⟨rfl, f, args, hf, hd⟩
            · rw [hd w (by rw [e1]; exact hw)]; exact ⟨rfl, rfl⟩
            · rw [hd w]
              exact ⟨rfl, (HC.1 f args _ hf w (hG.below hw.below)).mono fun e w' ⟨he, hb⟩ => ⟨he, hw.grown hb⟩⟩
          · cases h
        · split at h
          · cases h
          · rename_i f args hca
            obtain ⟨as, ats, hop, hargs⟩ := callArgs_ok hca
            have hok1 : ∀ y ∈ args, okV s1.own.b.length s1.own.l.length y := fun y hy => by
              rw [hargs] at hy
              obtain ⟨x, _, rfl⟩ := List.mem_map.mp hy
              exact ev_ok g1 x
            simp only [cond_true] at h
            split at h
            · rename_i fl x s2 hc
              obtain ⟨c1, c2⟩ := hst f args { s1 with lo := s1.own.b.length, llo := s1.own.l.length } _ s2 (Nat.le_refl _) (Nat.le_refl _) hok1 hc
              split at h
              · rename_i s3 hp
                obtain ⟨p1, p2, p3, p4, _⟩ := putS_keep hp
                have gm : Good { s1 with mem := true, orc := s2.orc, obl := s2.obl } := ⟨g1.lo, g1.llo, g1.ok⟩
                obtain ⟨g3, l3⟩ := putS_good hp gm trivial
                have hh2 : Holds' s2 := fun p hp' => ((l3.trans (simOps_st hst rest s3 s' g3 h).1).holds hh) p hp'
                have hh1 : Holds' s1 := fun p hp' => hh2 p (c1.ext p hp')
                obtain ⟨hwn, ht1⟩ := wantS_ok hwant hh1 ht
                rw [if_pos hwn]
                refine ⟨x, fun w hw => ?_, hK _ (simOps_quiet HC hst hok hG rest s3 s' h g3 hh (by rw [p2]; exact e1) (by rw [p3]) _ (tr_put hp rfl (ht1.of rfl)) hQ)⟩
                obtain ⟨hf, hcalls⟩ := hok f args { s1 with lo := s1.own.b.length, llo := s1.own.l.length } _ s2 (Nat.le_refl _) (Nat.le_refl _) hok1 hc hh2 ν w _ (by rw [hargs]; exact isL_map ht1 as.toList) (by show WR w0 ν s1.own s1.mem w; rw [e1, k3, h2]; exact hw)
                unfold Oper.quietAt
                rw [run_enter hop hf w, evals]
                refine ⟨rfl, hcalls.mono fun e w' ⟨ν', v, ha, he, hv, hw'⟩ => ⟨by rw [he, (show v = x from hv)], ?_⟩⟩
                have := hw'.restrict (own := s1.own) ha c1.len (fun i hi => c1.keep i hi) (fun i hi => c1.lkeep i hi)
                rw [e1] at this
                exact this
              · cases h
            · cases h
end Go.Proofs.YtagakdcinppeiaaDoor.S2
