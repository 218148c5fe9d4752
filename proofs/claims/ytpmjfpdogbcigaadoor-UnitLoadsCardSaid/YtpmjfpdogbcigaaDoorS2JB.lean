/- The evaluator with lists answers what the call returns: regions that draw their order and make lists, run. No word of the program. -/
import Derived.Test.YtpmjfpdogbcigaaDoorS2J
namespace Go.Proofs.YtpmjfpdogbcigaaDoor.S2
open Go Go.RowKit Sim
set_option linter.unusedVariables false
set_option linter.unusedSimpArgs false

theorem getElem_of_getD {x y : Array Value} {t : Nat} (hs : x.size = y.size) (h : x.getD t undef = y.getD t undef) : x[t]? = y[t]? := by
  by_cases ht : t < x.size
  · have hy : t < y.size := by omega
    simp only [Array.getD, ht, hy, dite_true] at h
    rw [Array.getElem?_eq_getElem ht, Array.getElem?_eq_getElem hy]
    exact congrArg some h
  · rw [Array.getElem?_eq_none (by omega), Array.getElem?_eq_none (by omega)]
theorem exec_same {ops : Array Oper} {o : Oper} {a b : Act} (hs : ∀ cs b, o.op ≠ .select cs b) (h : ∀ t ∈ o.looksAt ops, b.tmps.getD t undef = a.tmps.getD t undef) : execOp a.eval o = execOp b.eval o :=
  execOp_congr o hs fun x hx => by
    cases x with
    | tmp t => exact (h t (List.mem_append_left _ (List.mem_filterMap.2 ⟨.tmp t, by simpa using hx, rfl⟩))).symm
    | _ => rfl
theorem wanted_same {ops : Array Oper} {o : Oper} {a b : Act} (hz : a.tmps.size = b.tmps.size) (h : ∀ t ∈ o.looksAt ops, b.tmps.getD t undef = a.tmps.getD t undef) : Region.wanted o (yielded ops a.tmps) = Region.wanted o (yielded ops b.tmps) := by
  unfold Region.wanted
  cases hg : o.guard with
  | none => rfl
  | some p =>
    obtain ⟨g, want⟩ := p
    have : yielded ops a.tmps g = yielded ops b.tmps g := by
      unfold yielded
      cases hd : (ops[g]?).bind (·.dst) with
      | none => rfl
      | some t =>
        have hm : t ∈ o.looksAt ops := by
          unfold Oper.looksAt
          rw [hg]
          refine List.mem_append_right _ ?_
          simp only [hd]; simp
        simp only [Option.bind_some]
        rw [getElem_of_getD hz (h t hm).symm]
    simp only [this]
theorem wantS_tm {n : Nat} {ops : Array Oper} {o : Oper} {s s1 : St} {t : Bool} (h : wantS n ops o s = some (t, s1)) : ∀ p ∈ s1.tmps, p ∈ s.tmps ∨ ∃ b, p.2 = .inl ([], .bool b) := by
  unfold wantS at h
  split at h
  · simp only [Option.some.injEq, Prod.mk.injEq] at h
    obtain ⟨_, rfl⟩ := h
    exact fun p hp => .inl hp
  · split at h
    · rename_i d hd
      cases hb : Nat.blt d n
      · rw [hb] at h; cases h
      · rw [hb] at h
        simp only [cond_true] at h
        split at h
        · rename_i fl b hl
          simp only [Option.some.injEq, Prod.mk.injEq] at h
          obtain ⟨_, rfl⟩ := h
          obtain ⟨_, _, h3, _⟩ := ask_ok s fl b
          intro p hp
          rcases List.mem_cons.mp hp with rfl | hp
          · exact .inr ⟨_, rfl⟩
          · rw [h3] at hp; exact .inl hp
        · simp only [Option.some.injEq, Prod.mk.injEq] at h
          obtain ⟨_, rfl⟩ := h
          exact fun p hp => .inl hp
        · cases h
    · cases h
/-- What one step is. -/
inductive StepD (E : Env) (n : Nat) (ops : Array Oper) (o : Oper) (pre : List Dn) (s : St) : Dn → St → Prop where
  | skip (s1) (h : wantS n ops o s = some (false, s1)) : StepD E n ops o pre s ⟨.inl ([], undef), none⟩ s1
  | ro (s1 x c q) (h : wantS n ops o s = some (true, s1)) (h1 : simRO E o (focus ops o pre s1) = some (x, c, q)) (h2 : okVB s1.own.b.length s1.own.l.length x = true) : StepD E n ops o pre s ⟨x, none⟩ { s1 with obl := more s1 q }
  | plain (s1 f args p s2) (h : wantS n ops o s = some (true, s1)) (h1 : callArgs (focus ops o pre s1) o = some (f, args)) (h2 : pcallS E f args (focus ops o pre s1) = some (.inl p, s2)) : StepD E n ops o pre s ⟨.inl p, none⟩ { s1 with obl := s2.obl }
  | lplain (s1 f args l fn v b) (h : wantS n ops o s = some (true, s1)) (h1 : callArgs (focus ops o pre s1) o = some (f, args)) (h2 : argsX (focus ops o pre s1) args = some l) (h3 : E.P.funcs[f]? = some fn) (h4 : (fn.name == "runtime.NumGoroutine") = false ∧ fn.body.isNone = false)
      (h5 : E.lcall f l = some (false, [.inl v], b)) : StepD E n ops o pre s ⟨.inl ([true], v), none⟩ { s1 with obl := (b, true) :: (subsO (focus ops o pre s1) args ++ s1.obl) }
  | lst (s1 f args l fn e b) (h : wantS n ops o s = some (true, s1)) (h1 : callArgs (focus ops o pre s1) o = some (f, args)) (h2 : argsX (focus ops o pre s1) args = some l) (h3 : E.P.funcs[f]? = some fn) (h4 : (fn.name == "runtime.NumGoroutine") = false ∧ fn.body.isNone = false)
      (h5 : E.lcall f l = some (false, [.inr e], b)) : StepD E n ops o pre s ⟨.c (s1.own.l.length + (newsL (fun _ => true) 0 pre).length), some { e with own := true, dead := false }⟩ { s1 with obl := (b, true) :: (subsO (focus ops o pre s1) args ++ s1.obl) }
theorem stepD_is {E : Env} {n : Nat} {ops : Array Oper} {o : Oper} {pre : List Dn} {s s1 : St} {d : Dn} (h : stepD E n ops o pre s = some (d, s1)) : StepD E n ops o pre s d s1 := by
  unfold stepD at h
  split at h
  · cases h
  · rename_i s0 hw
    simp only [Option.some.injEq, Prod.mk.injEq] at h
    obtain ⟨rfl, rfl⟩ := h
    exact .skip _ hw
  · rename_i s0 hw
    split at h
    · rename_i x c q hro
      cases hb : okVB s0.own.b.length s0.own.l.length x
      · rw [hb] at h; cases h
      · rw [hb] at h
        simp only [cond_true, Option.some.injEq, Prod.mk.injEq] at h
        obtain ⟨rfl, rfl⟩ := h
        exact .ro _ _ _ _ hw hro hb
    · split at h
      · cases h
      · rename_i f args hca
        split at h
        · rename_i p s2 hp
          simp only [Option.some.injEq, Prod.mk.injEq] at h
          obtain ⟨rfl, rfl⟩ := h
          exact .plain _ _ _ _ _ hw hca hp
        · cases h
        · split at h
          · rename_i l fn hl hf
            cases hn : (fn.name == "runtime.NumGoroutine" || fn.body.isNone)
            · rw [hn] at h
              simp only [cond_false] at h
              simp only [Bool.or_eq_false_iff] at hn
              split at h
              · rename_i v b hc
                simp only [Option.some.injEq, Prod.mk.injEq] at h
                obtain ⟨rfl, rfl⟩ := h
                exact .lplain _ _ _ _ _ _ _ hw hca hl hf hn hc
              · rename_i e b hc
                simp only [Option.some.injEq, Prod.mk.injEq] at h
                obtain ⟨rfl, rfl⟩ := h
                exact .lst _ _ _ _ _ _ _ hw hca hl hf hn hc
              · cases h
            · rw [hn] at h; cases h
          · cases h
/-- What a step leaves alone. -/
theorem StepD.st {E : Env} {n : Nat} {ops : Array Oper} {o : Oper} {pre : List Dn} {s s1 : St} {d : Dn} (h : StepD E n ops o pre s d s1) :
    s1.own = s.own ∧ s1.mem = s.mem ∧ s1.lo = s.lo ∧ s1.llo = s.llo ∧ (∀ p ∈ s.obl, p ∈ s1.obl) ∧ (∀ p ∈ s1.tmps, p ∈ s.tmps ∨ ∃ b, p.2 = .inl ([], .bool b)) ∧
      ((d.e = none ∧ okV s.own.b.length s.own.l.length d.x) ∨ ∃ e, d.e = some e ∧ e.own = true ∧ e.dead = false ∧ d.x = .c (s.own.l.length + (newsL (fun _ => true) 0 pre).length)) := by
  cases h with
  | skip _ h =>
    obtain ⟨k1, k2, k3, _⟩ := wantS_st h
    exact ⟨k2, k3, k1.lo, k1.llo, k1.ext, wantS_tm h, .inl ⟨rfl, trivial⟩⟩
  | ro s1 x c q h h1 h2 =>
    obtain ⟨k1, k2, k3, _⟩ := wantS_st h
    exact ⟨k2, k3, k1.lo, k1.llo, fun p hp => more_ext _ _ p (k1.ext p hp), wantS_tm (s1 := s1) h, .inl ⟨rfl, by rw [← k2]; exact okVB_ok h2⟩⟩
  | plain s1 f args p s2 h h1 h2 =>
    obtain ⟨k1, k2, k3, _⟩ := wantS_st h
    obtain ⟨l, v, b, fn, fl, _, _, _, _, _, _, rfl⟩ := pcallS_some h2
    exact ⟨k2, k3, k1.lo, k1.llo, fun p hp => List.mem_cons_of_mem _ (k1.ext p hp), wantS_tm (s1 := s1) h, .inl ⟨rfl, trivial⟩⟩
  | lplain s1 f args l fn v b h h1 h2 h3 h4 h5 =>
    obtain ⟨k1, k2, k3, _⟩ := wantS_st h
    exact ⟨k2, k3, k1.lo, k1.llo, fun p hp => List.mem_cons_of_mem _ (List.mem_append_right _ (k1.ext p hp)), wantS_tm (s1 := s1) h, .inl ⟨rfl, trivial⟩⟩
  | lst s1 f args l fn e b h h1 h2 h3 h4 h5 =>
    obtain ⟨k1, k2, k3, _⟩ := wantS_st h
    exact ⟨k2, k3, k1.lo, k1.llo, fun p hp => List.mem_cons_of_mem _ (List.mem_append_right _ (k1.ext p hp)), wantS_tm (s1 := s1) h, .inr ⟨_, rfl, rfl, rfl, by rw [k2]⟩⟩
theorem simD_st {E : Env} {n : Nat} {ops : Array Oper} {s0 : Mem} : ∀ (rest : List Oper) (pre : List Dn) (s : St) (ds : List Dn) (s' : St), simD E n ops rest pre s = some (ds, s') → s.own = s0 → KD s0 pre → (∀ p ∈ s.tmps, okV s0.b.length (s0.l.length + (newsL (fun _ => true) 0 pre).length) p.2) →
    (∃ r, ds = pre ++ r ∧ r.length = rest.length) ∧ s'.own = s0 ∧ s'.mem = s.mem ∧ s'.lo = s.lo ∧ s'.llo = s.llo ∧ (∀ p ∈ s.obl, p ∈ s'.obl) ∧ KD s0 ds ∧ ∀ p ∈ s'.tmps, okV s0.b.length (s0.l.length + (newsL (fun _ => true) 0 ds).length) p.2
  | [], pre, s, ds, s', h, ho, hK, ht => by
    simp only [simD, Option.some.injEq, Prod.mk.injEq] at h
    obtain ⟨rfl, rfl⟩ := h
    exact ⟨⟨[], by simp, rfl⟩, ho, rfl, rfl, rfl, fun p hp => hp, hK, ht⟩
  | o :: rest, pre, s, ds, s', h, ho, hK, ht => by
    unfold simD at h
    split at h
    · rename_i d s1 hs
      split at h
      · rename_i s2 hp
        obtain ⟨h1, h2, h3, h4, h5, h6, h7⟩ := (stepD_is hs).st
        obtain ⟨p1, p2, p3, p4, p5, p6⟩ := putS_keep hp
        have hK' : KD s0 (pre ++ [d]) := fun i di hi => by
          rcases Nat.lt_or_ge i pre.length with hl | hl
          · rw [List.getElem?_append_left hl] at hi
            rw [List.take_append_of_le_length (by omega)]
            exact hK i di hi
          · have hl2 : i = pre.length := by
              have := lt_of_some_list hi
              simp at this; omega
            subst hl2
            simp at hi
            subst hi
            rw [List.take_left]
            rw [ho] at h7; exact h7
        have hlen : (newsL (fun _ => true) 0 pre).length ≤ (newsL (fun _ => true) 0 (pre ++ [d])).length := by rw [newsL_append]; simp
        obtain ⟨⟨r, r1, r2⟩, k2, k3, k4, k5, k6, k7, k8⟩ := simD_st rest (pre ++ [d]) s2 ds s' h (by rw [p2, h1, ho]) hK' (fun p hp' => by
          have done : ∀ p ∈ s1.tmps, okV s0.b.length (s0.l.length + (newsL (fun _ => true) 0 (pre ++ [d])).length) p.2 := fun p hp' => by
            rcases h6 p hp' with h | ⟨b, h⟩
            · exact (ht p h).mono (Nat.le_refl _) (by omega)
            · rw [h]; trivial
          rcases p6 p hp' with h | h
          · exact done p h
          · rw [h]
            rw [ho] at h7
            rcases h7 with ⟨_, hx⟩ | ⟨e, he, _, _, hx⟩
            · exact hx.mono (Nat.le_refl _) (by omega)
            · rw [hx, newsL_append, newsL_some he]
              show _ < _
              simp)
        refine ⟨⟨d :: r, by rw [r1]; simp, by simp [r2]⟩, k2, by rw [k3, p3, h2], by rw [k4, p4, h3], by rw [k5, p5, h4], fun p hp' => k6 p (by rw [p1]; exact h5 p hp'), k7, k8⟩
      · cases h
    · cases h
theorem cnt_lt (F : Nat → Bool) : ∀ (ds : List Dn) (i k o : Nat) {di : Dn} {e : LE}, i < k → ds[i]? = some di → di.e = some e → (newsL F o (ds.take i)).length < (newsL F o (ds.take k)).length
  | [], i, k, o, di, e, _, h, _ => by simp at h
  | d :: r, 0, k + 1, o, di, e, _, h, he => by
    simp at h
    subst h
    rw [List.take_succ_cons, newsL_some he]
    simp [newsL]
  | d :: r, i + 1, k + 1, o, di, e, hik, h, he => by
    have ih := cnt_lt F r i k (o + 1) (by omega) (by simpa using h) he
    rw [List.take_succ_cons, List.take_succ_cons]
    cases hd : d.e with
    | none => rw [newsL_none hd, newsL_none hd]; exact ih
    | some e' => rw [newsL_some hd, newsL_some hd, List.length_cons, List.length_cons]; omega
  | d :: r, i, 0, o, di, e, hik, _, _ => by omega
theorem Fresh.of {w0 : Base} {w w' : World} {ν : Nu} {own : Mem} {mem : Bool} (h : WR w0 ν own mem w) {e : LE} {v : Value} (ho : OwnB w.heap.size w' e v) : ∀ g, v.ownBlock = some g → Fresh ν own g := fun g hg => by
  have hge := (ho.2.lt g hg).1
  exact ⟨fun i hi heq => by have := h.lt hi; omega, fun k e' hk hd ho' heq => by have := (h.rowLt hk hd ho' heq).2; omega⟩
/-- One operation, whenever it comes. -/
theorem StepD.ok {E : Env} (HC : CallOk E) {w0 : Base} (hG : GlobB E w0) {n : Nat} {ops : Array Oper} {o : Oper} {pre : List Dn} {s s1 : St} {d : Dn} (h : StepD E n ops o pre s d s1) (hh : Holds' s1) (hdep : depB ops = true) {s0 : Mem} (hs : s.own = s0) (hok : OkB s0.b.length s0.l.length s0.b)
    {ds rest : List Dn} (hD : ds = pre ++ d :: rest) (hK : KD s0 ds) (ho : ops[pre.length]? = some o) (hn : ∀ t, o.dst = some t → t < n) {L : Nat → Bool} {ν0 : Nu} {a0 : Act} {ν : Nu} {a b : Act} {w : World} (hI : ID n ops w0 ν0 s0 a0 ds L ν a w) (ht : TR n ν s b)
    (hL : L pre.length = false) (hr : ∀ e ∈ o.after, Region.binds .any e = true → L e.on = true) (hlook : ∀ t ∈ o.looksAt ops, b.tmps.getD t undef = a.tmps.getD t undef) {Q : Exit → Act → World → Prop} {K : Act → World → Prop}
    (hQ : ∀ ν' v w', ID n ops w0 ν0 s0 a0 ds (setL L pre.length) ν' (a.put o.dst v) w' → K (a.put o.dst v) w') : wpOp E.P ops Q pre.length K a w := by
  have dep := depB_ok hdep ho
  have hd : ds[pre.length]? = some d := by rw [hD]; simp
  have hexec := exec_same (a := a) (b := b) dep.sel hlook
  have hwant := wanted_same (a := a) (b := b) (hI.size.trans ht.size.symm) hlook
  have hlast := h.st.2.2.2.2.2.2
  have looks : ∀ j, looksB ops o j = true → L j = true := fun j hj => by
    obtain ⟨_, e, he, hb, hon⟩ := dep.looks j hj
    rw [← hon]; exact hr e he hb
  have hset : ∀ j, j ≠ pre.length → setL L pre.length j = L j := fun j hj => by unfold setL; rw [if_neg hj]
  have c1 : newsL (setL L pre.length) 0 pre = newsL L 0 pre := newsL_congr pre 0 fun j _ hj => hset j (by omega)
  have c2 : newsL (setL L pre.length) (0 + pre.length + 1) rest = newsL L (0 + pre.length + 1) rest := newsL_congr rest _ fun j hj _ => hset j (by omega)
  -- the lists, where none is made
  have none_ : d.e = none → newsL (setL L pre.length) 0 ds = newsL L 0 ds := fun he => by
    rw [hD, newsL_append, newsL_append, newsL_none he, newsL_none he, c1, c2]
  have go : ∀ (v : Value) (w' : World), d.e = none → Is ν d.x v → WR w0 ν { s0 with l := s0.l ++ newsL L 0 ds } true w' → K (a.put o.dst v) w' := fun v w' he hv hw =>
    hQ ν _ w' (hI.put hdep hK ho hd hn (Agree.refl _ _ _) (fun _ _ _ _ _ _ => rfl) hv (by rw [none_ he]; exact hw))
  have wrF : ∀ s2 : St, s2.own = s.own → WR w0 ν (focus ops o pre s2).own true w := fun s2 he => by
    refine hI.wr.kill (by show s2.own.b = s0.b; rw [he, hs]) (fun p e hp hde => ?_) ?_
    · have hp : (s2.own.l ++ newsL (looksB ops o) 0 pre)[p]? = some e := hp
      rw [he, hs] at hp
      show (s0.l ++ newsL L 0 ds)[p]? = some e
      rcases Nat.lt_or_ge p s0.l.length with hl | hl
      · rw [List.getElem?_append_left hl] at hp ⊢; exact hp
      · rw [List.getElem?_append_right hl] at hp ⊢
        have := newsL_le looks pre 0 _ e hp hde
        rw [hD, newsL_append, List.getElem?_append_left (lt_of_some_list this)]
        exact this
    · show OkB s2.own.b.length (s2.own.l ++ newsL (looksB ops o) 0 pre).length s2.own.b
      rw [he, hs]
      exact hok.mono (Nat.le_refl _) (by simp)
  unfold wpOp
  simp only [ho]
  cases h with
  | skip _ h =>
    obtain ⟨hwn, _⟩ := wantS_ok h hh ht
    rw [if_neg (by rw [hwant, hwn]; simp)]
    exact go undef w rfl rfl hI.wr
  | ro s1 x c q h h1 h2 =>
    obtain ⟨k1, k2, k3, _⟩ := wantS_st h
    obtain ⟨hq, hh1⟩ := more_q (s := s1) (q := q) hh
    obtain ⟨hwn, ht1⟩ := wantS_ok h hh1 ht
    rw [if_pos (by rw [hwant, hwn])]
    left
    have hV : okV (focus ops o pre s1).own.b.length (focus ops o pre s1).own.l.length x := (okVB_ok h2).mono (Nat.le_refl _) (by show _ ≤ (s1.own.l ++ _).length; simp)
    obtain ⟨v, hv, hdo⟩ := simRO_ok (mem := true) h1 hq (ht1.of rfl) hG hV
    unfold Oper.wp
    rw [hexec]
    rcases hdo with ⟨rfl, hdo⟩ | ⟨rfl, f, args, hf, hdo⟩
    · rw [hdo w (wrF s1 k2), Oper.upon_value]
      exact go v w rfl hv hI.wr
    · rw [hdo w, Oper.upon_enter]
      refine (HC.1 f args _ hf w (hG.below hI.wr.below)).mono fun e w' ⟨he, hb⟩ => ?_
      subst he
      exact go v w' rfl hv (hI.wr.grown hb)
  | plain s1 f args p s2 h h1 h2 =>
    obtain ⟨k1, k2, k3, _⟩ := wantS_st h
    obtain ⟨l, v, bb, fn, fl, hl, hb, hf, hn1, hbody, hx, rfl⟩ := pcallS_some h2
    simp only [SV.inl.injEq] at hx
    subst hx
    have e : bb = true := hh (bb, true) List.mem_cons_self
    subst e
    obtain ⟨hwn, ht1⟩ := wantS_ok h (fun p hp => hh p (List.mem_cons_of_mem _ hp)) ht
    rw [if_pos (by rw [hwant, hwn])]
    left
    obtain ⟨vs, hvs, hrun⟩ := callArgs_run (P := E.P) h1 (ht1.of (s' := focus ops o pre s1) rfl)
    unfold Oper.wp
    rw [hexec, hrun ⟨fn, hf, hn1, hbody⟩ w, Oper.upon_enter, argsV_isL hl hvs]
    refine (HC.2.1 f l v hb w (hG.below hI.wr.below)).mono fun e w' ⟨he, hbel⟩ => ?_
    subst he
    exact go v w' rfl rfl (hI.wr.grown hbel)
  | lplain s1 f args l fn v bb h h1 h2 h3 h4 h5 =>
    obtain ⟨k1, k2, k3, _⟩ := wantS_st h
    have e : bb = true := hh (bb, true) List.mem_cons_self
    subst e
    obtain ⟨hwn, ht1⟩ := wantS_ok h (fun p hp => hh p (List.mem_cons_of_mem _ (List.mem_append_right _ hp))) ht
    rw [if_pos (by rw [hwant, hwn])]
    left
    obtain ⟨vs, hvs, hrun⟩ := callArgs_run (P := E.P) h1 (ht1.of (s' := focus ops o pre s1) rfl)
    unfold Oper.wp
    rw [hexec, hrun ⟨fn, h3, h4.1, h4.2⟩ w, Oper.upon_enter]
    refine (HC.2.2.1 f l false _ h5 w vs (hG.below hI.wr.below) (argsX_ok (wrF s1 k2) h2 (fun p hp => hh p (List.mem_cons_of_mem _ (List.mem_append_left _ hp))) hvs)).mono fun e w' ⟨us, he, hout, hbel⟩ => ?_
    obtain rfl := outOk_v hout
    subst he
    exact go v w' rfl rfl (hI.wr.grown hbel)
  | lst s1 f args l fn e bb h h1 h2 h3 h4 h5 =>
    obtain ⟨k1, k2, k3, _⟩ := wantS_st h
    have eb : bb = true := hh (bb, true) List.mem_cons_self
    subst eb
    obtain ⟨hwn, ht1⟩ := wantS_ok h (fun p hp => hh p (List.mem_cons_of_mem _ (List.mem_append_right _ hp))) ht
    rw [if_pos (by rw [hwant, hwn])]
    left
    obtain ⟨vs, hvs, hrun⟩ := callArgs_run (P := E.P) h1 (ht1.of (s' := focus ops o pre s1) rfl)
    unfold Oper.wp
    rw [hexec, hrun ⟨fn, h3, h4.1, h4.2⟩ w, Oper.upon_enter]
    refine (HC.2.2.1 f l false _ h5 w vs (hG.below hI.wr.below) (argsX_ok (wrF s1 k2) h2 (fun p hp => hh p (List.mem_cons_of_mem _ (List.mem_append_left _ hp))) hvs)).mono fun ee w' ⟨us, he, hout, hbel⟩ => ?_
    obtain ⟨u, rfl, hou⟩ := outOk_l hout
    first
    | skip
      subst he
      have hpl : (newsL (fun _ => true) 0 pre).length = (newsL L 0 pre).length := newsL_len _ _ pre 0 0
      have hpos : (newsL L 0 ds) = newsL L 0 pre ++ ({ e with own := true, dead := !L (0 + pre.length) } : LE) :: newsL L (0 + pre.length + 1) rest := by rw [hD, newsL_append, newsL_some rfl]
      have hrow : OwnB w0.heap.size w' { e with own := true, dead := false } u := (show OwnB w.heap.size w' e u from hou).more hI.wr.below.size
      have hfr : ∀ g, u.ownBlock = some g → Fresh ν { s0 with l := s0.l ++ newsL L 0 ds } g := Fresh.of hI.wr hou
      have hlt : s0.l.length + (newsL L 0 pre).length < (s0.l ++ newsL L 0 ds).length := by rw [hpos]; simp
      have hrev := (hI.wr.grown hbel).revive (p := s0.l.length + (newsL L 0 pre).length) hlt (e := { e with own := true, dead := false }) rfl hrow hfr (fun g hg => hI.wr.fr.fresh (hou.2.lt g hg).1) (m := s0.l.length) (by omega) hok
      have hnew : (s0.l ++ newsL L 0 ds).set (s0.l.length + (newsL L 0 pre).length) { e with own := true, dead := false } = s0.l ++ newsL (setL L pre.length) 0 ds := by
        rw [List.set_append_right _ _ (by omega), show s0.l.length + (newsL L 0 pre).length - s0.l.length = (newsL L 0 pre).length by omega, hpos, List.set_append_right _ _ (Nat.le_refl _), Nat.sub_self, List.set_cons_zero]
        rw [hD, newsL_append, newsL_some rfl, c1, c2]
        simp [setL]
      rw [hs] at k2
      refine hQ _ _ w' (hI.put hdep hK ho hd hn ((extV_old ν s0.b.length (s0.l.length + (newsL L 0 pre).length) u).mono (Nat.le_refl _) (by omega)) (fun i di hik hdi e' he' => ?_) (v := u) ?_ (by rw [← hnew]; exact hrev))
      · unfold extV
        simp only
        rw [if_neg]
        intro heq
        have hlen : (newsL (fun _ => true) 0 (ds.take i)).length = (newsL (fun _ => true) 0 (ds.take pre.length)).length := by rw [hD, List.take_left, ← hD, hpl]; omega
        rcases Nat.lt_or_ge i pre.length with hl | hl
        · have := cnt_lt (fun _ => true) ds i pre.length 0 hl hdi he'
          omega
        · have := cnt_lt (fun _ => true) ds pre.length i 0 (by omega) hd rfl
          omega
      · show u = (extV ν _ u).v _
        rw [k2, hpl, extV_new]
theorem StepD.tr {E : Env} {n : Nat} {ops : Array Oper} {o : Oper} {pre : List Dn} {s s1 : St} {d : Dn} (h : StepD E n ops o pre s d s1) (hh : Holds' s1) {ν : Nu} {b : Act} (ht : TR n ν s b) : TR n ν s1 b := by
  cases h with
  | skip _ h => exact (wantS_ok h hh ht).2
  | ro s1 x c q h h1 h2 => exact ((wantS_ok h (more_q (s := s1) (q := q) hh).2 ht).2).of rfl
  | plain s1 f args p s2 h h1 h2 =>
    obtain ⟨l, v, bb, fn, fl, hl, hb, hf, hn1, hbody, hx, rfl⟩ := pcallS_some h2
    exact ((wantS_ok h (fun p hp => hh p (List.mem_cons_of_mem _ hp)) ht).2).of rfl
  | lplain s1 f args l fn v bb h h1 h2 h3 h4 h5 => exact ((wantS_ok h (fun p hp => hh p (List.mem_cons_of_mem _ (List.mem_append_right _ hp))) ht).2).of rfl
  | lst s1 f args l fn e bb h h1 h2 h3 h4 h5 => exact ((wantS_ok h (fun p hp => hh p (List.mem_cons_of_mem _ (List.mem_append_right _ hp))) ht).2).of rfl
theorem simD_obl {E : Env} {n : Nat} {ops : Array Oper} : ∀ (rest : List Oper) (pre : List Dn) (s : St) (ds : List Dn) (s' : St), simD E n ops rest pre s = some (ds, s') → (∀ p ∈ s.obl, p ∈ s'.obl) ∧ ∃ r, ds = pre ++ r
  | [], pre, s, ds, s', h => by
    simp only [simD, Option.some.injEq, Prod.mk.injEq] at h
    obtain ⟨rfl, rfl⟩ := h
    exact ⟨fun p hp => hp, [], by simp⟩
  | o :: rest, pre, s, ds, s', h => by
    unfold simD at h
    split at h
    · rename_i d s1 hs
      split at h
      · rename_i s2 hp
        obtain ⟨_, _, _, _, h5, _⟩ := (stepD_is hs).st
        obtain ⟨k1, r, k2⟩ := simD_obl rest _ _ _ _ h
        exact ⟨fun p hp' => k1 p (by rw [(putS_keep hp).1]; exact h5 p hp'), d :: r, by rw [k2]; simp⟩
      · cases h
    · cases h
theorem is_conc' (ν : Nu) (x : SV) : Is ν x (conc ν x) := by
  cases x <;> first | rfl | trivial
theorem putS_lt {n : Nat} {dst : Option Tmp} {x : SV} {s s' : St} (h : putS n dst x s = some s') : ∀ t, dst = some t → t < n := fun t ht => by
  subst ht
  unfold putS at h
  simp only at h
  cases hb : Nat.blt t n
  · rw [hb] at h; cases h
  · simpa [Nat.blt_eq] using hb
theorem simD_ok {E : Env} (HC : CallOk E) {w0 : Base} (hG : GlobB E w0) {n : Nat} {ops : Array Oper} (hdep : depB ops = true) {s0 : Mem} (hok : OkB s0.b.length s0.l.length s0.b) {ν0 : Nu} {a0 : Act} (hz : a0.tmps.size = n) {ds : List Dn} (hK : KD s0 ds) :
    ∀ (rest : List Oper) (pops : List Oper) (pre : List Dn) (s s' : St), simD E n ops rest pre s = some (ds, s') → ops.toList = pops ++ rest → pops.length = pre.length → Holds' s' → s.own = s0 →
      (∀ L ν a w, ID n ops w0 ν0 s0 a0 ds L ν a w → TR n ν s (actD L a ν 0 pops pre a0)) →
      (∀ k, pops.length ≤ k → ∀ o L ν a w, ops[k]? = some o → ID n ops w0 ν0 s0 a0 ds L ν a w → L k = false → (∀ e ∈ o.after, Region.binds .any e = true → L e.on = true) → ∀ (Q : Exit → Act → World → Prop) (K : Act → World → Prop), (∀ ν' a' w', ID n ops w0 ν0 s0 a0 ds (setL L k) ν' a' w' → K a' w') → wpOp E.P ops Q k K a w) ∧
        (∀ L ν a w, ID n ops w0 ν0 s0 a0 ds L ν a w → TR n ν s' (actD L a ν 0 ops.toList ds a0))
  | [], pops, pre, s, s', h, ho, hl, hh, hs, hT => by
    simp only [simD, Option.some.injEq, Prod.mk.injEq] at h
    obtain ⟨rfl, rfl⟩ := h
    rw [List.append_nil] at ho
    refine ⟨fun k hk o L ν a w hko => ?_, fun L ν a w hI => by rw [ho]; exact hT L ν a w hI⟩
    exfalso
    have : k < ops.toList.length := by
      rcases Nat.lt_or_ge k ops.size with h | h
      · simpa using h
      · rw [Array.getElem?_eq_none h] at hko; cases hko
    rw [ho] at this; omega
  | o :: rest, pops, pre, s, s', h, ho, hl, hh, hs, hT => by
    unfold simD at h
    split at h
    · rename_i d s1 hst
      split at h
      · rename_i s2 hp
        have hsd := stepD_is hst
        obtain ⟨p1, p2, _⟩ := putS_keep hp
        obtain ⟨hob, r, hr⟩ := simD_obl rest _ _ _ _ h
        have hh1 : Holds' s1 := fun p hp' => hh p (hob p (by rw [p1]; exact hp'))
        have hD : ds = pre ++ d :: r := by rw [hr]; simp
        have hd : ds[pre.length]? = some d := by rw [hD]; simp
        have get : ∀ (j : Nat), ops[j]? = (pops ++ o :: rest)[j]? := fun j => by rw [← ho]; simp
        have hok' : ops[pre.length]? = some o := by rw [get, ← hl]; simp
        have low : ∀ j, j < pops.length → ops[j]? = pops[j]? := fun j hj => by rw [get, List.getElem?_append_left hj]
        have IH := simD_ok HC hG hdep hok hz hK rest (pops ++ [o]) (pre ++ [d]) s2 s' h (by rw [ho]; simp) (by simp [hl]) hh (by rw [p2, hsd.st.1, hs]) (fun L ν a w hI => by
          rw [actD_snoc L a ν o d pops pre 0 a0 hl, Nat.zero_add, hl]
          have ht1 := hsd.tr hh1 (hT L ν a w hI)
          cases hdst : o.dst with
          | none =>
            rw [hdst] at hp
            simp only [putS, Option.some.injEq] at hp
            subst hp
            exact ht1
          | some t =>
            have hv : Is ν d.x (valD L a ν pre.length o d) := by
              unfold valD
              simp only [hdst]
              by_cases hLk : L pre.length = true
              · rw [if_pos hLk]; exact hI.done pre.length o d t hok' hd hdst hLk
              · rw [if_neg hLk]; exact is_conc' ν d.x
            have := tr_put hp hv ht1
            rw [hdst] at this
            exact this)
        refine ⟨fun k hk o' L ν a w hko hI hL hrdy Q K hQ => ?_, IH.2⟩
        rcases Nat.lt_or_ge pops.length k with hlt | hge
        · exact IH.1 k (by simp; omega) o' L ν a w hko hI hL hrdy Q K hQ
        · obtain rfl : k = pre.length := by omega
          rw [hok'] at hko
          obtain rfl := Option.some.inj hko
          have dep := depB_ok hdep hok'
          refine hsd.ok HC hG hh1 hdep hs hok hD hK hok' (putS_lt hp) hI (hT L ν a w hI) hL hrdy (fun t ht => ?_) fun ν' v w' => hQ ν' _ w'
          have look : ∀ (j : Nat) oj, ops[j]? = some oj → oj.dst = some t → j < pre.length ∧ L j = true := fun j oj hj hjt => by
            have hb : looksB ops o j = true := by
              unfold looksB
              rw [hj]
              exact List.any_eq_true.mpr ⟨t, ht, dstIs_iff.mpr hjt⟩
            obtain ⟨k1, e, he, hbd, hon⟩ := dep.looks j hb
            exact ⟨k1, by rw [← hon]; exact hrdy e he hbd⟩
          refine actD_get L a ν t pops pre 0 a0 hl (by rw [hI.size, hz]) (fun j oj hj hjt => ?_) ?_
          · rw [Nat.zero_add]
            exact (look j oj (by rw [low j (lt_of_some_list hj)]; exact hj) hjt).2
          · by_cases hex : ∃ (j : Nat) (oj : Oper), pops[j]? = some oj ∧ oj.dst = some t
            · exact .inr hex
            · left
              refine (hI.base t fun i oi hoi hti => ?_).symm
              exfalso
              obtain ⟨k1, _⟩ := look i oi hoi hti
              exact hex ⟨i, oi, by rw [← low i (by omega)]; exact hoi, hti⟩
      · cases h
    · cases h
theorem newsL_dead : ∀ (ds : List Dn) (i p : Nat) (e : LE), (newsL (fun _ => false) i ds)[p]? = some e → e.dead = true
  | [], _, _, _, h => by simp [newsL] at h
  | d :: r, i, p, e, h => by
    cases hd : d.e with
    | none => rw [newsL_none hd] at h; exact newsL_dead r _ _ _ h
    | some e' =>
      rw [newsL_some hd] at h
      cases p with
      | zero => simp at h; subst h; rfl
      | succ p => simp at h; exact newsL_dead r _ _ _ h
theorem regionD_st {E : Env} {n : Nat} {ops : Array Oper} {s s' : St} (h : regionD E n ops s = some s') (hg : Good s) : Le s s' ∧ Good s' ∧ s'.mem = s.mem := by
  unfold regionD at h
  cases hd : depB ops
  · rw [hd] at h; cases h
  · rw [hd] at h
    simp only [cond_true] at h
    split at h
    · rename_i ds s1 hs
      simp only [Option.some.injEq] at h
      subst h
      obtain ⟨_, k2, k3, k4, k5, k6, k7, k8⟩ := simD_st (s0 := s.own) _ _ _ _ _ hs rfl (fun i d hi => by simp at hi) (fun p hp => by simpa [newsL] using hg.ok p hp)
      refine ⟨⟨k6, by show _ ≤ s1.own.b.length; rw [k2]; exact Nat.le_refl _, by show _ ≤ (s1.own.l ++ _).length; rw [k2]; simp, k4, k5, fun i hi => by show s1.own.b[i]? = _; rw [k2], fun i hi => by show (s1.own.l ++ _)[i]? = _; rw [k2]; exact List.getElem?_append_left (Nat.lt_of_lt_of_le hi hg.llo)⟩, ⟨?_, ?_, fun p hp => ?_, ?_⟩, k3⟩
      · show s1.lo ≤ s1.own.b.length; rw [k4, k2]; exact hg.lo
      · show s1.llo ≤ (s1.own.l ++ newsL (fun _ => true) 0 ds).length; rw [k5, k2, List.length_append]; exact Nat.le_trans hg.llo (by omega)
      · show okV s1.own.b.length (s1.own.l ++ newsL (fun _ => true) 0 ds).length p.2; rw [k2, List.length_append]; exact k8 p hp
      · show OkB s1.own.b.length (s1.own.l ++ newsL (fun _ => true) 0 ds).length s1.own.b; rw [k2, List.length_append]; exact hg.okb.mono (Nat.le_refl _) (by omega)
    · cases h
theorem unsnoc_eq : ∀ {l a : List Oper} {o : Oper}, unsnoc l = some (a, o) → l = a ++ [o]
  | [], a, o, h => by cases h
  | x :: r, a, o, h => by
    unfold unsnoc at h
    split at h
    · rename_i b o' hr
      simp only [Option.some.injEq, Prod.mk.injEq] at h
      obtain ⟨rfl, rfl⟩ := h
      rw [unsnoc_eq hr]; rfl
    · rename_i hr
      simp only [Option.some.injEq, Prod.mk.injEq] at h
      obtain ⟨rfl, rfl⟩ := h
      cases r with
      | nil => rfl
      | cons y r =>
        exfalso
        unfold unsnoc at hr
        split at hr <;> cases hr
theorem lastD_st {E : Env} {n : Nat} {ops : Array Oper} {s s' : St} (h : lastD E n ops s = some s') (hg : Good s) : Le s s' ∧ Good s' ∧ s'.mem = true := by
  unfold lastD at h
  split at h
  · rename_i l o _
    simp only [cond_eq_ite] at h
    split at h
    · split at h
      · rename_i s2 hr
        obtain ⟨l1, g1, _⟩ := regionD_st hr hg
        split at h
        · rename_i x own q hfx
          simp only [Option.some.injEq] at h
          subst h
          obtain ⟨f1, f2, f3, f4, f5, f6⟩ := simFX_st hfx g1
          exact ⟨l1.trans ⟨more_ext s2 q, f2, f3, rfl, rfl, f4, f5⟩, g1.grow rfl rfl rfl f2 f3 f6, rfl⟩
        · cases h
      · cases h
    · cases h
  · cases h
theorem lastD_ok {E : Env} (HC : CallOk E) {w0 : Base} (hG : GlobB E w0) {id n : Nat} {ops : Array Oper} {s s' : St} (hm : E.P.follows .mixedOrders = true) (hsm : s.mem = true) (h : lastD E n ops s = some s') (hg : Good s) (hh : Holds' s') {Q : Exit → Act → World → Prop} {ν0 : Nu} {a0 : Act} {w : World} (ht : TR n ν0 s a0) (hw : WR w0 ν0 s.own true w)
    (hQ : ∀ ν' a' w', Ag s.own ν0 ν' → TR n ν' s' a' → WR w0 ν' s'.own true w' → Q .normal a' w') : (Code.region id ops true).wp E.P Q a0 w := by
  unfold lastD at h
  split at h
  rotate_left
  · cases h
  rename_i l o hu
  have hops := unsnoc_eq hu
  simp only [cond_eq_ite] at h
  split at h
  rotate_left
  · cases h
  rename_i hc
  simp only [Bool.and_eq_true] at hc
  obtain ⟨⟨⟨c1, c2⟩, c3⟩, hd⟩ := hc
  split at h
  rotate_left
  · cases h
  rename_i s2 hr
  obtain ⟨l1, g2, _⟩ := regionD_st hr hg
  split at h
  rotate_left
  · cases h
  rename_i x own q hfx
  simp only [Option.some.injEq] at h
  subst h
  obtain ⟨hq, hh2⟩ := more_q (s := s2) hh
  have hdst : o.dst = none := by cases hx : o.dst <;> simp_all
  have hgrd : o.guard = none := by cases hx : o.guard <;> simp_all
  obtain ⟨ops0, hops0⟩ : ∃ ops0, (l ++ [noopOf o]).toArray = ops0 := ⟨_, rfl⟩
  rw [hops0] at hd hr
  have hl0 : ops0.toList = l ++ [noopOf o] := by rw [← hops0]
  have hsz0 : ops0.size = l.length + 1 := by rw [← hops0]; simp
  have hsz : ops.size = l.length + 1 := by rw [← Array.length_toList, hops]; simp
  have get : ∀ i, i < l.length → ops[i]? = ops0[i]? := fun i hi => by
    rw [← Array.getElem?_toList, ← Array.getElem?_toList, hops, hl0, List.getElem?_append_left hi, List.getElem?_append_left hi]
  have getm : ops[l.length]? = some o := by rw [← Array.getElem?_toList, hops]; simp
  have getm0 : ops0[l.length]? = some (noopOf o) := by rw [← Array.getElem?_toList, hl0]; simp
  have getn : ∀ i, l.length + 1 ≤ i → ops[i]? = none ∧ ops0[i]? = none := fun i hi => ⟨Array.getElem?_eq_none (by omega), Array.getElem?_eq_none (by omega)⟩
  have hyl : ∀ tm, yielded ops tm = yielded ops0 tm := fun tm => by
    funext j
    unfold yielded
    rcases Nat.lt_trichotomy j l.length with hj | hj | hj
    · rw [get j hj]
    · subst hj; rw [getm, getm0]; simp [hdst, noopOf]
    · obtain ⟨e1, e2⟩ := getn j (by omega)
      rw [e1, e2]
  have hbnd : ∀ i, i < l.length → ∃ e ∈ o.after, Region.binds .any e = true ∧ e.on = i := fun i hi => by
    have := List.all_eq_true.mp c3 i (List.mem_range.mpr hi)
    obtain ⟨e, he, hb⟩ := List.any_eq_true.mp this
    simp only [Bool.and_eq_true] at hb
    exact ⟨e, by simpa using he, hb.1, Nat.eq_of_beq_eq_true hb.2⟩
  unfold regionD at hr
  rw [hd] at hr
  simp only [cond_true] at hr
  split at hr
  rotate_left
  · cases hr
  rename_i ds s1 hs
  simp only [Option.some.injEq] at hr
  subst hr
  obtain ⟨⟨r0, r1, r2⟩, k2, k3, k4, k5, k6, k7, k8⟩ := simD_st (s0 := s.own) _ _ _ _ _ hs rfl (fun i d hi => by simp at hi) (fun p hp => by simpa [newsL] using hg.ok p hp)
  have hdl : ds.length = ops0.size := by rw [r1, List.nil_append, r2]; simp
  have SD := fun Q' : Exit → Act → World → Prop => simD_ok HC hG hd hg.okb (ν0 := ν0) (a0 := a0) ht.size k7 ops0.toList [] [] s s1 hs rfl rfl hh2 rfl (fun L ν a w hI => by
    show TR n ν s a0
    exact ht.move hg hI.ag rfl)
  obtain ⟨step, fin⟩ := SD Q
  have hrep : lstB (Array.replicate ops.size false) = fun _ => false := by
    funext j
    unfold lstB
    simp only [Array.getD_eq_getD_getElem?, Array.getElem?_replicate]
    split <;> rfl
  refine wp_region_any hm (wpAny_steps (I := fun L a w => (L l.length = false ∧ ∃ ν, ID n ops0 w0 ν0 s.own a0 ds L ν a w) ∨ ((∀ j, j < l.length + 1 → L j = true) ∧ Q .normal a w)) (fun L i o' a w ho hI hL hr K hK => ?_) (fun L a w hall hI => ?_) (fun i o' ho e he hb => ?_) ops.size (Array.replicate ops.size false) a0 _ (by simp) ?_ ?_)
  · have hi : i < l.length + 1 := by
      rcases Nat.lt_or_ge i (l.length + 1) with h | h
      · exact h
      · rw [(getn i h).1] at ho; cases ho
    rcases hI with ⟨hLm, ν, hI⟩ | ⟨hLa, hQn⟩
    · rcases Nat.lt_or_ge i l.length with hlt | hge
      · have ho0 : ops0[i]? = some o' := by rw [← get i hlt]; exact ho
        have := step i (Nat.zero_le _) o' L ν a w ho0 hI hL hr Q K fun ν' a' w' hI' => hK a' w' (.inl ⟨by unfold setL; rw [if_neg (by omega)]; exact hLm, ν', hI'⟩)
        unfold wpOp at this ⊢
        rw [ho0] at this
        rw [ho, hyl]
        exact this
      · obtain rfl : i = l.length := by omega
        rw [getm] at ho
        obtain rfl := Option.some.inj ho
        have hLall : ∀ j, j < l.length → L j = true := fun j hj => by
          obtain ⟨e, he, hb, hon⟩ := hbnd j hj
          rw [← hon]; exact hr e he hb
        have hnoop := (SD fun _ _ _ => False).1 l.length (Nat.zero_le _) (noopOf o) L ν a w getm0 hI hL hr (fun _ _ _ => False) (fun a' w' => ∃ ν', ID n ops0 w0 ν0 s.own a0 ds (setL L l.length) ν' a' w') fun ν' a' w' hI' => ⟨ν', hI'⟩
        obtain ⟨ν', hI'⟩ : ∃ ν', ID n ops0 w0 ν0 s.own a0 ds (setL L l.length) ν' a w := by
          unfold wpOp at hnoop
          rw [getm0] at hnoop
          have hwt : Region.wanted (noopOf o) (yielded ops0 a.tmps) = true := by simp [Region.wanted, noopOf, hgrd]
          simp only [hwt, if_true] at hnoop
          rcases hnoop with hn | ⟨_, _, _, hf⟩
          · unfold Oper.wp at hn
            rw [show (execOp a.eval (noopOf o)).run E.P w = .ok (.value undef) w by simp [execOp, noopOf, Act.eval], Oper.upon_value] at hn
            have e : a.put (noopOf o).dst undef = a := by rw [show (noopOf o).dst = none from hdst]; rfl
            rw [e] at hn; exact hn
          · exact hf.elim
        have hall' : ∀ j, j < ops0.size → setL L l.length j = true := fun j hj => by
          unfold setL
          by_cases hjl : j = l.length
          · rw [if_pos hjl]
          · rw [if_neg hjl]; exact hLall j (by omega)
        have hT := fin (setL L l.length) ν' a w hI'
        have same : ∀ t, (actD (setL L l.length) a ν' 0 ops0.toList ds a0).tmps.getD t undef = a.tmps.getD t undef := fun t => by
          refine actD_get (setL L l.length) a ν' t ops0.toList ds 0 a0 (by simp [hdl]) (by rw [hI'.size, ht.size]) (fun j oj hj _ => by rw [Nat.zero_add]; exact hall' j (by simpa using lt_of_some_list hj)) ?_
          by_cases hex : ∃ (j : Nat) (oj : Oper), ops0.toList[j]? = some oj ∧ oj.dst = some t
          · exact .inr hex
          · left
            refine (hI'.base t fun i oi hoi hti => ?_).symm
            exact absurd ⟨i, oi, by simpa using hoi, hti⟩ hex
        have hLn : newsL (setL L l.length) 0 ds = newsL (fun _ => true) 0 ds := newsL_congr ds 0 fun j _ hj => hall' j (by omega)
        have hwr := hI'.wr
        rw [hLn] at hwr
        have tr2 : TR n ν' { s1 with own := { s1.own with l := s1.own.l ++ newsL (fun _ => true) 0 ds } } a := ⟨hI'.size, fun t => by
          have := hT.tm t
          rw [same t] at this
          exact this, hI'.df⟩
        have wr2 : WR w0 ν' { s1.own with l := s1.own.l ++ newsL (fun _ => true) 0 ds } true w := by rw [k2]; exact hwr
        unfold wpOp
        rw [getm]
        have hwt : Region.wanted o (yielded ops a.tmps) = true := by simp [Region.wanted, hgrd]
        simp only [hwt, if_true]
        left
        refine op_fx hfx hq g2 tr2 (by
          show WR w0 ν' _ s1.mem w
          rw [show s1.mem = true from k3.trans hsm]; exact wr2) fun ν'' v w' ha hv hw' => ?_
        refine hK _ _ (.inr ⟨fun j hj => hall' j (by omega), hQ ν'' _ w' ?_ ?_ hw'⟩)
        · exact Agree.trans hI'.ag ha (by show s.own.b.length ≤ s1.own.b.length; rw [k2]; exact Nat.le_refl _) (by show s.own.l.length ≤ (s1.own.l ++ newsL (fun _ => true) 0 ds).length; rw [k2]; simp)
        · rw [hdst]
          exact (tr2.move g2 ha rfl)
    · have := hLa i hi
      rw [hL] at this; cases this
  · rcases hI with ⟨hLm, _⟩ | ⟨_, hQn⟩
    · rw [hall l.length (by omega)] at hLm; cases hLm
    · exact hQn
  · rcases Nat.lt_trichotomy i l.length with hi | hi | hi
    · exact (depB_ok hd (by rw [← get i hi]; exact ho)).low e he hb
    · subst hi
      rw [getm] at ho
      obtain rfl := Option.some.inj ho
      exact (depB_ok hd getm0).low e he hb
    · rw [(getn i (by omega)).1] at ho; cases ho
  · have := List.length_filter_le (fun i => !lstB (Array.replicate ops.size false) i) (List.range ops.size)
    simpa using this
  · rw [hrep]
    refine .inl ⟨rfl, ν0, ⟨Agree.refl _ _ _, ht.size, ht.df, fun _ _ => rfl, fun i o d t _ _ _ hL => (by cases hL), ?_⟩⟩
    refine hw.drew.kill rfl (fun p e hp hde => ?_) (hg.okb.mono (Nat.le_refl _) (by simp))
    have hp : (s.own.l ++ newsL (fun _ => false) 0 ds)[p]? = some e := hp
    rcases Nat.lt_or_ge p s.own.l.length with hl | hl
    · rw [List.getElem?_append_left hl] at hp; exact hp
    · rw [List.getElem?_append_right hl] at hp
      rw [newsL_dead ds _ _ e hp] at hde; cases hde
theorem regionD_ok {E : Env} (HC : CallOk E) {w0 : Base} (hG : GlobB E w0) {id n : Nat} {ops : Array Oper} {s s' : St} (hm : E.P.follows .mixedOrders = true) (h : regionD E n ops s = some s') (hg : Good s) (hh : Holds' s') {Q : Exit → Act → World → Prop} {ν0 : Nu} {a0 : Act} {w : World} (ht : TR n ν0 s a0) (hw : WR w0 ν0 s.own true w)
    (hQ : ∀ ν' a' w', Ag s.own ν0 ν' → TR n ν' s' a' → WR w0 ν' s'.own true w' → Q .normal a' w') : (Code.region id ops true).wp E.P Q a0 w := by
  unfold regionD at h
  cases hd : depB ops
  · rw [hd] at h; cases h
  · rw [hd] at h
    simp only [cond_true] at h
    split at h
    · rename_i ds s1 hs
      simp only [Option.some.injEq] at h
      subst h
      obtain ⟨⟨r0, r1, r2⟩, k2, k3, k4, k5, k6, k7, k8⟩ := simD_st (s0 := s.own) _ _ _ _ _ hs rfl (fun i d hi => by simp at hi) (fun p hp => by simpa [newsL] using hg.ok p hp)
      have hdl : ds.length = ops.size := by rw [r1, List.nil_append, r2]; simp
      obtain ⟨step, fin⟩ := simD_ok HC hG hd hg.okb (ν0 := ν0) (a0 := a0) ht.size k7 ops.toList [] [] s s1 hs rfl rfl hh rfl (fun L ν a w hI => by
        show TR n ν s a0
        exact ht.move hg hI.ag rfl)
      have hrep : lstB (Array.replicate ops.size false) = fun _ => false := by
        funext j
        unfold lstB
        simp only [Array.getD_eq_getD_getElem?, Array.getElem?_replicate]
        split <;> rfl
      refine wp_region_any hm (wpAny_steps (I := fun L a w => ∃ ν, ID n ops w0 ν0 s.own a0 ds L ν a w) (fun L i o a w ho hI hL hr K hK => ?_) (fun L a w hall hI => ?_) (fun i o ho e he hb => (depB_ok hd ho).low e he hb) ops.size (Array.replicate ops.size false) a0 _ (by simp) ?_ ?_)
      · obtain ⟨ν, hI⟩ := hI
        exact step i (Nat.zero_le _) o L ν a w ho hI hL hr Q K fun ν' a' w' hI' => hK a' w' ⟨ν', hI'⟩
      · obtain ⟨ν, hI⟩ := hI
        have hT := fin L ν a w hI
        have same : ∀ t, (actD L a ν 0 ops.toList ds a0).tmps.getD t undef = a.tmps.getD t undef := fun t => by
          refine actD_get L a ν t ops.toList ds 0 a0 (by simp [hdl]) (by rw [hI.size, ht.size]) (fun j oj hj _ => by rw [Nat.zero_add]; exact hall j (by simpa using lt_of_some_list hj)) ?_
          by_cases hex : ∃ (j : Nat) (oj : Oper), ops.toList[j]? = some oj ∧ oj.dst = some t
          · exact .inr hex
          · left
            refine (hI.base t fun i oi hoi hti => ?_).symm
            exact absurd ⟨i, oi, by simpa using hoi, hti⟩ hex
        have hL : newsL L 0 ds = newsL (fun _ => true) 0 ds := newsL_congr ds 0 fun j _ hj => hall j (by omega)
        have hwr := hI.wr
        rw [hL] at hwr
        refine hQ ν a w hI.ag ⟨hI.size, fun t => ?_, hI.df⟩ (by show WR w0 ν { s1.own with l := s1.own.l ++ newsL (fun _ => true) 0 ds } true w; rw [k2]; exact hwr)
        have := hT.tm t
        rw [same t] at this
        exact this
      · have := List.length_filter_le (fun i => !lstB (Array.replicate ops.size false) i) (List.range ops.size)
        simpa using this
      · rw [hrep]
        refine ⟨ν0, ⟨Agree.refl _ _ _, ht.size, ht.df, fun _ _ => rfl, fun i o d t _ _ _ hL => (by cases hL), ?_⟩⟩
        refine hw.drew.kill rfl (fun p e hp hde => ?_) (hg.okb.mono (Nat.le_refl _) (by simp))
        have hp : (s.own.l ++ newsL (fun _ => false) 0 ds)[p]? = some e := hp
        rcases Nat.lt_or_ge p s.own.l.length with hl | hl
        · rw [List.getElem?_append_left hl] at hp; exact hp
        · rw [List.getElem?_append_right hl] at hp
          rw [newsL_dead ds _ _ e hp] at hde; cases hde
    · cases h
end Go.Proofs.YtpmjfpdogbcigaaDoor.S2
