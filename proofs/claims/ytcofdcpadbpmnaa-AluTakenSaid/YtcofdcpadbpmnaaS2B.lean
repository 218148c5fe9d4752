/- The evaluator with lists answers what the call returns: operations. No word of the program. -/
import Derived.Test.YtcofdcpadbpmnaaS2A
namespace Go.Proofs.Ytcofdcpadbpmnaa.S2
open Go Go.RowKit Sim
set_option linter.unusedVariables false
set_option linter.unusedSimpArgs false

/-- What an operation that writes nothing does. -/
def Does (E : Env) (o : Oper) (a : Act) (C : World → Prop) (V : Value → Prop) (isCall : Bool) : Prop :=
  ∃ v, V v ∧ ((isCall = false ∧ ∀ w, C w → (execOp a.eval o).run E.P w = .ok (.value v) w) ∨
    (isCall = true ∧ ∃ f args, E.call f args = some v ∧ ∀ w, (execOp a.eval o).run E.P w = .ok (.enter f args) w))
theorem Does.val {E : Env} {o : Oper} {a : Act} {C : World → Prop} {ν : Nu} {x : SV} {v : Value} (hv : Is ν x v) (h : ∀ w, C w → (execOp a.eval o).run E.P w = .ok (.value v) w) : Does E o a C (Is ν x) false := ⟨v, hv, .inl ⟨rfl, h⟩⟩
theorem generic_st {E : Env} {o : Oper} {s : St} {x : SV} {c : Bool} {q : List (Bool × Bool)} (h : generic E o s = some (x, c, q)) : ∃ fl v, x = .inl (fl, v) := by
  unfold generic at h
  cases hb : (notSel o.op && o.op.operands.toList.all (fun x => isV (ev s x)))
  · rw [hb] at h; cases h
  · rw [hb] at h
    simp only [cond_true] at h
    split at h
    · simp only [Option.some.injEq, Prod.mk.injEq] at h; exact ⟨_, _, h.1.symm⟩
    · split at h
      · simp only [Option.some.injEq, Prod.mk.injEq] at h; exact ⟨_, _, h.1.symm⟩
      · cases h
    · cases h
theorem generic_ok {E : Env} {o : Oper} {s : St} {x : SV} {c : Bool} {q : List (Bool × Bool)} {n : Nat} {ν : Nu} {a : Act} (C : World → Prop) (h : generic E o s = some (x, c, q)) (ht : TR n ν s a) : Does E o a C (Is ν x) c := by
  unfold generic at h
  cases hb : (notSel o.op && o.op.operands.toList.all (fun x => isV (ev s x)))
  · rw [hb] at h; cases h
  · rw [hb] at h
    simp only [cond_true] at h
    simp only [Bool.and_eq_true, List.all_eq_true] at hb
    have he : execOp a.eval o = execOp (rho s) o := execOp_congr o (fun cs b e => by rw [e] at hb; exact absurd hb.1 (by simp [notSel])) fun y hy => eval_rho ht (hb.2 y (by simpa using hy))
    cases hp : evalPure E.P (execOp (rho s) o) with
    | none => rw [hp] at h; cases h
    | some q =>
      have hrun := evalPure_run _ hp
      rw [hp] at h
      cases q <;> simp only [Option.some.injEq, Prod.mk.injEq, reduceCtorEq] at h
      case value v =>
        obtain ⟨rfl, rfl, _⟩ := h
        exact .val (v := v) rfl fun w _ => by rw [he]; exact hrun w
      case enter f args =>
        cases hcall : E.call f args with
        | none => rw [hcall] at h; cases h
        | some v =>
          rw [hcall] at h
          simp only [Option.some.injEq, Prod.mk.injEq] at h
          obtain ⟨rfl, rfl, _⟩ := h
          exact ⟨v, rfl, .inr ⟨rfl, f, args, hcall, fun w => by rw [he]; exact hrun w⟩⟩
theorem arS_st {E : Env} {o : Oper} {s : St} {op : BinOp} {g : List Bool} {k j : IntKind} {a b : Int} {x : SV} {c : Bool} {q : List (Bool × Bool)} (h : arS E o s op g k j a b = some (x, c, q)) : ∃ fl v, x = .inl (fl, v) := by
  unfold arS at h
  simp only [cond_eq_ite] at h
  repeat' (first | exact generic_st h | (cases h; done) | split at h)
  all_goals (simp only [Option.some.injEq, Prod.mk.injEq] at h; exact ⟨_, _, h.1.symm⟩)
theorem equal_nil {P : Program} {t : TypeId} {F : Fn} {xs ys : Array Value} (h : ∃ a b c, P.underlying t = some (.func a b c)) (w : World) : (Op.equal t (.func F xs ys) .nilFunc).run P w = .ok false w := by
  obtain ⟨a, b, c, h⟩ := h
  have : ∀ d, (Op.equalIn (d + 1) t (.func F xs ys) .nilFunc).run P w = .ok false w := fun d => by simp [Op.equalIn, run_underlying h]
  exact this 9999
theorem nilFS_ok {E : Env} {o : Oper} {s : St} {op : BinOp} {t yt : TypeId} {y z : Operand} {x : SV} {c : Bool} {q : List (Bool × Bool)} {n : Nat} {ν : Nu} {a : Act} {f : FuncId} {fs cs : List CV} {g : List Bool} (C : World → Prop) (ho : o.op = .binOp op t y z yt) (h : nilFS E op t = some (x, c, q)) (ht : TR n ν s a) (hy : ev s y = .fn f fs cs) (hz : ev s z = .inl (g, .nilFunc)) : Does E o a C (Is ν x) c := by
  have he := eval_fn ht hy
  have he' := eval_v ht hz
  unfold nilFS at h
  split at h <;> first | (cases h; done) | skip
  all_goals
    rename_i hu
    simp only [Option.some.injEq, Prod.mk.injEq] at h
    obtain ⟨rfl, rfl, _⟩ := h
  · refine .val (v := .bool false) rfl fun w _ => ?_
    have hq := equal_nil (F := .func f) (xs := (fs.map (concC ν)).toArray) (ys := (cs.map (concC ν)).toArray) ⟨_, _, _, hu⟩ w
    simp [execOp, ho, he, he', binOp, eqGuard, hq]
  · refine .val (v := .bool true) rfl fun w _ => ?_
    have hq := equal_nil (F := .func f) (xs := (fs.map (concC ν)).toArray) (ys := (cs.map (concC ν)).toArray) ⟨_, _, _, hu⟩ w
    simp [execOp, ho, he, he', binOp, eqGuard, hq]
theorem nilFS_st {E : Env} {op : BinOp} {t : TypeId} {x : SV} {c : Bool} {q : List (Bool × Bool)} (h : nilFS E op t = some (x, c, q)) : ∃ fl v, x = .inl (fl, v) := by
  unfold nilFS at h
  split at h <;> first | (cases h; done) | (simp only [Option.some.injEq, Prod.mk.injEq] at h; exact ⟨_, _, h.1.symm⟩)
theorem binS_st {E : Env} {o : Oper} {s : St} {op : BinOp} {t : TypeId} {y z : Operand} {x : SV} {c : Bool} {q : List (Bool × Bool)} (h : binS E o s op t y z = some (x, c, q)) : ∃ fl v, x = .inl (fl, v) := by
  unfold binS at h
  simp only [cond_eq_ite] at h
  repeat' (first | exact generic_st h | exact arS_st h | exact nilFS_st h | (cases h; done) | split at h)
  all_goals (simp only [Option.some.injEq, Prod.mk.injEq] at h; exact ⟨_, _, h.1.symm⟩)
theorem wrap_in {x : Int} (h : inI x = true) : IntKind.i64.wrap x = x := by
  unfold inI at h
  simp only [decide_eq_true_eq] at h
  rw [IntKind.wrap_i64]; omega
theorem arS_ok {E : Env} {o : Oper} {s : St} {op : BinOp} {t yt : TypeId} {y z : Operand} {x : SV} {c : Bool} {q : List (Bool × Bool)} {n : Nat} {ν : Nu} {a : Act} {f g : List Bool} {k j : IntKind} {u v : Int} (C : World → Prop) (ho : o.op = .binOp op t y z yt)
    (h : arS E o s op g k j u v = some (x, c, q)) (hq : ∀ p ∈ q, p.1 = p.2) (ht : TR n ν s a) (hy : ev s y = .inl (f, .int k u)) (hz : ev s z = .inl (g, .int j v)) : Does E o a C (Is ν x) c := by
  have he := eval_v ht hy
  have he' := eval_v ht hz
  have sh : shOp op = true → 0 ≤ v → Does E o a C (Is ν (.inl ([true], .int k (arZ op k u v)))) false := fun hs h0 => by
    refine .val (v := .int k (arZ op k u v)) rfl fun w _ => ?_
    have hn : ¬ v < 0 := by omega
    rw [arZ_eq]
    cases op <;> first | (cases hs; done) | simp [execOp, ho, he, he', binOp, eqGuard, Op.shift, arF, hn]
  unfold arS at h
  cases hs : shOp op
  · rw [hs] at h
    simp only [cond_false] at h
    cases hb : (bitOp op && decide (k = j))
    · rw [hb] at h
      simp only [cond_false] at h
      cases hd : (divOp op && decide (k = j))
      · rw [hd] at h; exact generic_ok C h ht
      · rw [hd] at h
        simp only [cond_true] at h
        simp only [Bool.and_eq_true, decide_eq_true_eq] at hd
        obtain ⟨hd, rfl⟩ := hd
        have dv : v ≠ 0 → Does E o a C (Is ν (.inl ([true], .int k (arZ op k u v)))) false := fun h0 => by
          refine .val (v := .int k (arZ op k u v)) rfl fun w _ => ?_
          rw [arZ_eq]
          cases op <;> first | (cases hd; done) | simp [execOp, ho, he, he', binOp, eqGuard, Op.intDiv, arF, h0]
        cases hg : anyF g
        · rw [hg] at h
          simp only [cond_false] at h
          cases hz : decide (v ≠ 0)
          · rw [hz] at h; cases h
          · rw [hz] at h
            simp only [cond_true, Option.some.injEq, Prod.mk.injEq] at h
            obtain ⟨rfl, rfl, _⟩ := h
            exact dv (of_decide_eq_true hz)
        · rw [hg] at h
          simp only [cond_true, Option.some.injEq, Prod.mk.injEq] at h
          obtain ⟨rfl, rfl, rfl⟩ := h
          have h0 : decide (v ≠ 0) = true := hq (pre (decide (v ≠ 0)), true) (by simp)
          exact dv (of_decide_eq_true h0)
    · rw [hb] at h
      simp only [cond_true, Option.some.injEq, Prod.mk.injEq] at h
      obtain ⟨rfl, rfl, _⟩ := h
      simp only [Bool.and_eq_true, decide_eq_true_eq] at hb
      obtain ⟨hb, rfl⟩ := hb
      refine .val (v := .int k (arZ op k u v)) rfl fun w _ => ?_
      rw [arZ_eq]
      cases op <;> first | (cases hb; done) | simp [execOp, ho, he, he', binOp, eqGuard, Op.intArith, arF, intBits_and, intBits_or, intBits_xor, intBits_andNot]
  · rw [hs] at h
    simp only [cond_true] at h
    cases hg : anyF g
    · rw [hg] at h
      simp only [cond_false] at h
      cases hd : decide (0 ≤ v)
      · rw [hd] at h; cases h
      · rw [hd] at h
        simp only [cond_true, Option.some.injEq, Prod.mk.injEq] at h
        obtain ⟨rfl, rfl, _⟩ := h
        exact sh hs (of_decide_eq_true hd)
    · rw [hg] at h
      simp only [cond_true, Option.some.injEq, Prod.mk.injEq] at h
      obtain ⟨rfl, rfl, rfl⟩ := h
      have h0 : decide (0 ≤ v) = true := hq (pre (decide (0 ≤ v)), true) (by simp)
      exact sh hs (of_decide_eq_true h0)
theorem binS_ok {E : Env} {o : Oper} {s : St} {op : BinOp} {t yt : TypeId} {y z : Operand} {x : SV} {c : Bool} {q : List (Bool × Bool)} {n : Nat} {ν : Nu} {a : Act} (C : World → Prop) (ho : o.op = .binOp op t y z yt) (h : binS E o s op t y z = some (x, c, q)) (hq : ∀ p ∈ q, p.1 = p.2) (ht : TR n ν s a) : Does E o a C (Is ν x) c := by
  unfold binS at h
  split at h
  · rename_i f k a' g j b' hx hy
    split at h
    · rename_i r hk hr
      simp only [Option.some.injEq, Prod.mk.injEq] at h
      obtain ⟨rfl, rfl, _⟩ := h
      have hk := of_decide_eq_true hk
      subst hk
      have he := eval_v ht hx
      have he' := eval_v ht hy
      refine .val (v := .bool r) rfl fun w _ => ?_
      unfold cmpI at hr
      split at hr <;> first | (cases hr; done) | (simp only [Option.some.injEq] at hr; subst hr; simp [execOp, ho, he, he', binOp, eqGuard, Op.intCmp])
    · split at h
      · rename_i r hk hr
        simp only [Option.some.injEq, Prod.mk.injEq] at h
        obtain ⟨rfl, rfl, rfl⟩ := h
        simp only [Bool.and_eq_true, decide_eq_true_eq] at hk
        obtain ⟨⟨_, rfl⟩, rfl⟩ := hk
        have hi : inI r = true := hq (pre (inI r), true) (by simp)
        have he := eval_v ht hx
        have he' := eval_v ht hy
        refine .val (v := .int .i64 r) rfl fun w _ => ?_
        unfold arith at hr
        split at hr <;> first | (cases hr; done) | (simp only [Option.some.injEq] at hr; subst hr; have hw := wrap_in hi; simp [execOp, ho, he, he', binOp, eqGuard, Op.intArith, hw])
      · cases hop : (E.opq && (anyF f || anyF g))
        · rw [hop] at h; exact generic_ok C h ht
        · rw [hop] at h; exact arS_ok C ho h hq ht hx hy
  · rename_i f a' g b' hx hy
    split at h
    · rename_i r hr
      simp only [Option.some.injEq, Prod.mk.injEq] at h
      obtain ⟨rfl, rfl, _⟩ := h
      have he := eval_v ht hx
      have he' := eval_v ht hy
      refine .val (v := .bool r) rfl fun w _ => ?_
      have hq := eqTop_ok hr y z w
      simp only [Sem.run_bind] at hq
      simp only [execOp, ho, he, he', Sem.run_bind]
      rw [hq]; rfl
    · exact generic_ok C h ht
  · rename_i f a' g b' hx hy
    cases hb : (isAdd op && (anyF f || anyF g))
    · rw [hb] at h; exact generic_ok C h ht
    · rw [hb] at h
      simp only [cond_true, Option.some.injEq, Prod.mk.injEq] at h
      obtain ⟨rfl, rfl, rfl⟩ := h
      simp only [Bool.and_eq_true] at hb
      have hop : op = .add := by
        cases op <;> first | rfl | (simp [isAdd] at hb; done)
      subst hop
      have hf : fitS a' b' = true := hq (pre (fitS a' b'), true) (by simp)
      have hf : a'.size + b'.size ≤ 9223372036854775807 := by simpa [fitS] using hf
      have hmax : IntKind.i64.max = 9223372036854775807 := by decide
      have hn : ¬ (((a'.size + b'.size : Nat) : Int) > IntKind.i64.max) := by rw [hmax]; omega
      have he := eval_v ht hx
      have he' := eval_v ht hy
      refine .val (v := .string (catZ a' b')) rfl fun w _ => ?_
      rw [catZ_eq]
      simp only [execOp, ho, he, he', eqGuard, binOp, Op.stringOp, Sem.run_bind, Sem.run_pure, Result.andThen_ok, if_neg hn]
      rfl
  · rename_i f a' b' g hx hy
    exact nilFS_ok C ho h ht hx hy
  · exact generic_ok C h ht
/-! ### Function values -/
theorem cvL_okC {n m : Nat} : ∀ {l : List SV} {r : List CV}, cvL l = some r → (∀ x ∈ l, okV n m x) → ∀ y ∈ r, okC n m y
  | [], r, h, _ => by simp only [cvL, Option.some.injEq] at h; subst h; intro y hy; cases hy
  | x :: l, r, h, hx => by
    unfold cvL at h
    split at h
    · rename_i y l' hy hl
      simp only [Option.some.injEq] at h
      subst h
      have h0 := hx x (List.mem_cons_self)
      intro z hz
      rcases List.mem_cons.mp hz with rfl | hz
      · unfold cvOf at hy
        split at hy <;> first | (cases hy; done) | (simp only [Option.some.injEq] at hy; subst hy; first | trivial | exact h0)
      · exact cvL_okC hl (fun x hx' => hx x (List.mem_cons_of_mem _ hx')) z hz
    · cases h
theorem cvL_conc {n : Nat} {ν : Nu} {s : St} {a : Act} (ht : TR n ν s a) : ∀ {l : List Operand} {r : List CV}, cvL (l.map (ev s)) = some r → l.map a.eval = r.map (concC ν)
  | [], r, h => by simp only [List.map_nil, cvL, Option.some.injEq] at h; subst h; rfl
  | x :: l, r, h => by
    rw [List.map_cons] at h
    unfold cvL at h
    split at h
    · rename_i y l' hy hl
      simp only [Option.some.injEq] at h
      subst h
      rw [List.map_cons, List.map_cons, cvL_conc ht hl]
      congr 1
      unfold cvOf at hy
      split at hy
      · rename_i fl v hx
        simp only [Option.some.injEq] at hy; subst hy
        exact eval_v ht hx
      · rename_i i off hx
        simp only [Option.some.injEq] at hy; subst hy
        exact eval_own ht hx
      · rename_i k hx
        simp only [Option.some.injEq] at hy; subst hy
        exact eval_c ht hx
      · cases hy
    · cases h
theorem mkFn_okV {n m : Nat} {f : FuncId} {fs cs : List CV} (h1 : ∀ x ∈ fs, okC n m x) (h2 : ∀ x ∈ cs, okC n m x) : okV n m (mkFn f fs cs) := by
  unfold mkFn
  split
  · trivial
  · exact ⟨h1, h2⟩
theorem mkFn_is {ν : Nu} {f : FuncId} {fs cs : List CV} : Is ν (mkFn f fs cs) (.func (.func f) (fs.map (concC ν)).toArray (cs.map (concC ν)).toArray) := by
  unfold mkFn
  split
  · rfl
  · rfl
theorem map_eval (a : Act) (as : Array Operand) : as.map a.eval = (as.toList.map a.eval).toArray := by rw [← Array.toArray_toList (xs := as.map a.eval), Array.toList_map]
/-! ### Cells -/
theorem valsS_conc {ν : Nu} : ∀ {cs : List SV} {vs : List Value}, valsS cs = some vs → concB ν cs = vs
  | [], vs, h => by simp only [valsS, Option.some.injEq] at h; subst h; rfl
  | .inl (fl, v) :: r, vs, h => by
    unfold valsS at h
    split at h
    · rename_i l hl
      simp only [Option.some.injEq] at h
      subst h
      show v :: concB ν r = _
      rw [valsS_conc hl]
    · cases h
  | .inr _ :: _, vs, h => by simp [valsS] at h
  | .c _ :: _, vs, h => by simp [valsS] at h
  | .lp _ _ _ _ :: _, vs, h => by simp [valsS] at h
  | .tp _ :: _, vs, h => by simp [valsS] at h
  | .fn _ _ _ :: _, vs, h => by simp [valsS] at h
  | .sub _ _ _ _ :: _, vs, h => by simp [valsS] at h
  | .any :: _, vs, h => by simp [valsS] at h
theorem loadS_ok {P : Program} {t : TypeId} {cs : List SV} {off : Nat} {x : SV} (h : loadS P t cs off = some x) (ν : Nu) : x ≠ .any ∧ loadB P t (concB ν cs) off = some (conc ν x) := by
  unfold loadS at h
  unfold loadB
  split at h
  · rename_i d i hu hi
    simp only [hu, hi]
    cases hd : aggD d
    · rw [hd] at h
      simp only [cond_false] at h ⊢
      split at h
      · cases h
      · rename_i hne
        refine ⟨fun e => hne (by rw [h, e]), ?_⟩
        unfold concB
        rw [List.getElem?_map, h]; rfl
    · rw [hd] at h
      simp only [cond_true] at h ⊢
      cases hb : Nat.ble (off + i.size) cs.length
      · rw [hb] at h; cases h
      · rw [hb] at h
        have hb' : Nat.ble (off + i.size) (concB ν cs).length = true := by unfold concB; rw [List.length_map]; exact hb
        simp only [cond_true, hb'] at h ⊢
        split at h
        · rename_i vs hvs
          simp only [Option.some.injEq] at h
          subst h
          refine ⟨by simp, ?_⟩
          have := valsS_conc (ν := ν) hvs
          unfold concB at this ⊢
          rw [← this, List.map_take, List.map_drop]; rfl
        · cases h
  · cases h
theorem loadS_okV {P : Program} {t : TypeId} {cs : List SV} {off : Nat} {x : SV} {n m : Nat} (h : loadS P t cs off = some x) (hc : ∀ c ∈ cs, okV n m c) : okV n m x := by
  unfold loadS at h
  split at h
  · rename_i d i hu hi
    cases hd : aggD d
    · rw [hd] at h
      simp only [cond_false] at h
      split at h
      · cases h
      · exact hc x (List.mem_of_getElem? h)
    · rw [hd] at h
      simp only [cond_true] at h
      cases hb : Nat.ble (off + i.size) cs.length
      · rw [hb] at h; cases h
      · rw [hb] at h
        simp only [cond_true] at h
        split at h
        · simp only [Option.some.injEq] at h
          subst h; trivial
        · cases h
  · cases h
theorem simRO_st {E : Env} {o : Oper} {s : St} {x : SV} {c : Bool} {q : List (Bool × Bool)} (h : simRO E o s = some (x, c, q)) (hg : Good s) : okV s.own.b.length s.own.l.length x := by
  have gen : ∀ {x : SV} {c : Bool} {q : List (Bool × Bool)}, generic E o s = some (x, c, q) → okV s.own.b.length s.own.l.length x := fun h => by
    obtain ⟨_, _, rfl⟩ := generic_st h; trivial
  have gbin : ∀ {x : SV} {c : Bool} {q : List (Bool × Bool)} {op : BinOp} {t : TypeId} {y z : Operand}, binS E o s op t y z = some (x, c, q) → okV s.own.b.length s.own.l.length x := fun h => by
    obtain ⟨_, _, rfl⟩ := binS_st h; trivial
  have ev1 : ∀ {y : Operand} {i off : Nat}, ev s y = .inr (i, off, none) → i < s.own.b.length := fun {y i off} hy => by
    have := ev_ok hg y; rw [hy] at this; exact this
  have ev2 : ∀ {y : Operand} {i off l k : Nat}, ev s y = .inr (i, off, some (l, k)) → i < s.own.b.length := fun {y i off l k} hy => by
    have := ev_ok hg y; rw [hy] at this; exact this
  have ev3 : ∀ {y : Operand} {k : Nat}, ev s y = .c k → k < s.own.l.length := fun {y k} hy => by
    have := ev_ok hg y; rw [hy] at this; exact this
  have ev4 : ∀ {y : Operand} {k j p z : Nat}, ev s y = .lp k j p z → k < s.own.l.length := fun {y k j p z} hy => by
    have := ev_ok hg y; rw [hy] at this; exact this
  have ev5 : ∀ {y : Operand} {l : List (Sum (List Bool × Value) Nat)} {i k : Nat}, ev s y = .tp l → l[i]? = some (.inr k) → k < s.own.l.length := fun {y l i k} hy hl => by
    have := ev_ok hg y; rw [hy] at this; exact this _ (List.mem_of_getElem? hl) k rfl
  have ev6 : ∀ {y z : Array Operand} {fs cs : List CV} {f : FuncId}, cvL (y.toList.map (ev s)) = some fs → cvL (z.toList.map (ev s)) = some cs → okV s.own.b.length s.own.l.length (mkFn f fs cs) := fun {y z fs cs f} h1 h2 =>
    mkFn_okV (cvL_okC h1 fun x hx => by obtain ⟨x0, _, rfl⟩ := List.mem_map.mp hx; exact ev_ok hg x0) (cvL_okC h2 fun x hx => by obtain ⟨x0, _, rfl⟩ := List.mem_map.mp hx; exact ev_ok hg x0)
  have ev7 : ∀ {i : Nat} {b : Blk} {t : TypeId} {off : Nat} {y : SV}, getB s i = some b → loadS E.P t b.cells off = some y → okV s.own.b.length s.own.l.length y := fun {i b t off y} hb hl => loadS_okV hl (hg.okb i b (getB_some hb).1)
  unfold simRO at h
  simp only [cond_eq_ite] at h
  repeat' (first | exact gen h | exact gbin h | (cases h; done) | split at h)
  all_goals (simp only [Option.some.injEq, Prod.mk.injEq] at h; try obtain ⟨rfl, _⟩ := h)
  all_goals first | exact True.intro | exact ev_ok hg _ | exact ev1 ‹_› | exact ev2 ‹_› | exact ev3 ‹_› | exact ev4 ‹_› | exact ev5 ‹_› ‹_› | exact ev6 ‹_› ‹_› | exact ev7 ‹_› ‹_› | skip
theorem fieldB_add {P : Program} {t : TypeId} {f o o' : Nat} (h : fieldB P t f o = some o') (c : Nat) : fieldB P t f (c + o) = some (c + o') := by
  unfold fieldB at *
  split at h
  · split at h
    · split at h
      · rename_i i hi
        cases hb : Nat.beq i.size 0
        · rw [hb] at h
          simp only [cond_false, Option.some.injEq] at h
          simp only [hb, cond_false, Option.some.injEq]
          omega
        · rw [hb] at h; cases h
      · cases h
    · cases h
  · cases h
/-- A load from a row in the midst of a block. -/
theorem run_loadAt {P : Program} {t : TypeId} {cs : List Value} {off b o : Nat} {v : Value} (h : loadB P t cs off = some v) (w : World)
    (hc : ∀ (i : Nat) u, cs[i]? = some u → w.cell? ⟨b, o + i, none⟩ = some u) : (loadVar t ⟨b, o + off, none⟩).run P w = .ok v w := by
  unfold loadB at h
  cases hu : P.underlying t with
  | none => simp [hu] at h
  | some d =>
    cases hi : P.info? t with
    | none => simp [hu, hi] at h
    | some i =>
      simp only [hu, hi] at h
      have hagg : (isAgg t).run P w = .ok (aggD d) w := by
        unfold isAgg
        rw [Sem.run_bind, run_underlying hu w]
        cases d <;> rfl
      cases hd : aggD d
      · rw [hd] at h
        simp only [cond_false] at h
        have h0 := hc off v h
        simp only [loadVar, Sem.run_bind, hagg, hd, Result.andThen_ok, Bool.false_eq_true, if_false, run_load, h0]
      · rw [hd] at h
        simp only [cond_true] at h
        cases hb : Nat.ble (off + i.size) cs.length
        · rw [hb] at h; cases h
        · rw [hb] at h
          simp only [cond_true, Option.some.injEq] at h
          have hle : off + i.size ≤ cs.length := Nat.le_of_ble_eq_true hb
          have hl : ((cs.drop off).take i.size).length = i.size := by simp; omega
          have hrun := run_loadCells_list (P := P) w ⟨b, o + off, none⟩ ((cs.drop off).take i.size) (fun j u hj => by
            rw [add_plain, Nat.add_assoc]
            refine hc _ _ ?_
            rw [List.getElem?_take] at hj
            split at hj
            · rw [List.getElem?_drop] at hj; exact hj
            · cases hj)
          rw [hl] at hrun
          simp only [loadVar, Sem.run_bind, hagg, hd, Result.andThen_ok, if_true, sizeOf, typeInfo, run_program, hi, Sem.run_pure, hrun, h]
theorem boundS_ok {n : Nat} {ν : Nu} {s : St} {a : Act} (ht : TR n ν s a) {d : Nat} {x : Option Operand} {l : Int} (h : boundS s d x = some l) : (x = none ∧ l = d) ∨ ∃ k, x.map a.eval = some (.int k l) := by
  unfold boundS at h
  split at h
  · simp only [Option.some.injEq] at h
    exact .inl ⟨rfl, h.symm⟩
  · split at h
    · rename_i y fl k m he
      simp only [Option.some.injEq] at h
      subst h
      exact .inr ⟨k, by rw [Option.map_some, eval_v ht he]⟩
    · cases h
theorem run_sliceE {P : Program} {t : TypeId} {i : TypeInfo} (hu : P.underlying t = some (.slice (P.elem t))) (hi : P.info? (P.elem t) = some i) {a : Option Addr} {len cap : Nat} {lo hi' : Option Value} {l h : Int} (hl : (lo = none ∧ l = 0) ∨ ∃ k, lo = some (.int k l)) (hh : (hi' = none ∧ h = len) ∨ ∃ k, hi' = some (.int k h))
    (h0 : 0 ≤ l) (h1 : l ≤ h) (h2 : h ≤ len) (hc : len ≤ cap) (w : World) : (Instr.sliceAt t (.slice a len cap) lo hi' none).run P w = .ok (subOf (.slice a len cap) l.toNat (h.toNat - l.toNat) i.size) w := by
  have hs : (sizeOf (P.elem t)).run P w = .ok i.size w := by simp [sizeOf, typeInfo, hi]
  rw [run_sliceAt_slice (h := hu)]
  rcases hl with ⟨rfl, rfl⟩ | ⟨kl, rfl⟩
  · rcases hh with ⟨rfl, rfl⟩ | ⟨kh, rfl⟩
    · rw [run_slice_all (ht := hu), hs]; simp [Result.andThen, sliced, subOf]
    · rw [run_slice_h (ht := hu) (h0 := by omega) (h2 := by omega), hs]; simp [Result.andThen, sliced, subOf]
  · rcases hh with ⟨rfl, rfl⟩ | ⟨kh, rfl⟩
    · rw [run_slice_l (ht := hu) (h0 := h0) (h1 := by omega), hs]; simp [Result.andThen, sliced, subOf]
    · rw [run_slice_lh (ht := hu) (h0 := h0) (h1 := h1) (h2 := by omega), hs]; simp [Result.andThen, sliced, subOf]
theorem run_sliceS {P : Program} {t : TypeId} (hu : P.underlying t = some .string) {sa : ByteArray} {lo hi' : Option Value} {l h : Int} (hl : (lo = none ∧ l = 0) ∨ ∃ k, lo = some (.int k l)) (hh : (hi' = none ∧ h = sa.size) ∨ ∃ k, hi' = some (.int k h))
    (h0 : 0 ≤ l) (h1 : l ≤ h) (h2 : h ≤ sa.size) (w : World) : (Instr.sliceAt t (.string sa) lo hi' none).run P w = .ok (.string (sa.extract l.toNat h.toNat)) w := by
  rw [run_sliceAt_string (h := hu)]
  have e : (h.toNat : Int) = h := Int.toNat_of_nonneg (by omega)
  rcases hl with ⟨rfl, rfl⟩ | ⟨kl, rfl⟩
  · rcases hh with ⟨rfl, rfl⟩ | ⟨kh, rfl⟩
    · simp [Instr.slice, run_underlying hu, Instr.sliceBounds]
    · simp [Instr.slice, run_underlying hu, Instr.sliceBounds, run_sliceBound, show 0 ≤ h by omega, h2]
  · rcases hh with ⟨rfl, rfl⟩ | ⟨kh, rfl⟩
    · simp [Instr.slice, run_underlying hu, Instr.sliceBounds, run_sliceBound, h0, h1]
    · simp [Instr.slice, run_underlying hu, Instr.sliceBounds, run_sliceBound, h0, show 0 ≤ h by omega, h2, e, h1]
theorem simRO_ok {E : Env} {o : Oper} {s : St} {x : SV} {c : Bool} {q : List (Bool × Bool)} {n : Nat} {ν : Nu} {a : Act} {w0 : World} {mem : Bool} (h : simRO E o s = some (x, c, q)) (hq : ∀ p ∈ q, p.1 = p.2) (ht : TR n ν s a) (hG : Glob E w0) (hV : okV s.own.b.length s.own.l.length x) : Does E o a (fun w => WR w0 ν s.own mem w) (Is ν x) c := by
  unfold simRO at h
  split at h
  · rename_i x' ho
    simp only [Option.some.injEq, Prod.mk.injEq] at h
    obtain ⟨rfl, rfl, _⟩ := h
    exact .val (eval_is ht x') fun w _ => by simp only [execOp, ho, Sem.run_pure]
  · rename_i x' ho
    simp only [Option.some.injEq, Prod.mk.injEq] at h
    obtain ⟨rfl, rfl, _⟩ := h
    exact .val (eval_is ht x') fun w _ => by simp only [execOp, ho, Sem.run_pure]
  · rename_i x' ho
    split at h
    · rename_i i off hx
      simp only [Option.some.injEq, Prod.mk.injEq] at h
      obtain ⟨rfl, rfl, _⟩ := h
      have he := eval_own ht hx
      exact .val (v := .pointer (some ⟨ν.l i, off, none⟩)) rfl fun w _ => by simp only [execOp, ho, he, Sem.run_pure]
    · exact generic_ok _ h ht
    · cases h
  · rename_i t x' ho
    split at h
    · rename_i i off hx
      split at h
      · rename_i b hb
        split at h
        · rename_i v hv
          simp only [Option.some.injEq, Prod.mk.injEq] at h
          obtain ⟨rfl, rfl, _⟩ := h
          have he := eval_own ht hx
          obtain ⟨hne, hv⟩ := loadS_ok hv ν
          refine .val (v := conc ν v) (by cases v <;> first | rfl | exact absurd rfl hne) fun w hw => ?_
          have hl := run_loadB (g := ν.l i) hv w (cells_of_blk ((hw.blk i b (getB_some hb).1).1.cells (getB_some hb).2))
          simp only [execOp, ho, he, Instr.loadAt, Instr.sureAddr, Sem.run_bind, Sem.run_pure, Result.andThen_ok, hl]
        · cases h
      · cases h
    · rename_i fl g off hx
      split at h
      · rename_i cs hg
        split at h
        · rename_i v hv
          simp only [Option.some.injEq, Prod.mk.injEq] at h
          obtain ⟨rfl, rfl, _⟩ := h
          have he := eval_v ht hx
          refine .val (v := v) rfl fun w hw => ?_
          have hl := run_loadB (g := g) hv w (hG.below hw.below g cs hg).1
          simp only [execOp, ho, he, Instr.loadAt, Instr.sureAddr, Sem.run_bind, Sem.run_pure, Result.andThen_ok, hl]
        · cases h
      · cases h
    · rename_i k j p sz hx
      split at h
      · rename_i e he0
        obtain ⟨hk, hd⟩ := getL_some he0
        split at h
        · rename_i v hv
          cases hb : Nat.beq sz e.size
          · rw [hb] at h; cases h
          · rw [hb] at h
            simp only [cond_true, Option.some.injEq, Prod.mk.injEq] at h
            obtain ⟨rfl, rfl, rfl⟩ := h
            have hsz := Nat.eq_of_beq_eq_true hb
            have hlt : j < e.n := by have := hq (pre (decide (j < e.n)), true) (by simp); simpa [pre] using this
            have he := eval_lp ht hx
            refine .val (v := v) rfl fun w hw => ?_
            obtain ⟨_, aa, cap, hv0, _, hc0⟩ := hw.inB hk hd
            obtain ⟨b, off, rfl, hb, hc⟩ := hc0 (by omega)
            rw [hv0] at he
            have hl := run_loadAt (b := b) (o := off + j * e.size) hv w (hc j hlt)
            simp only [placeOf, hsz, ← Nat.add_assoc] at he
            simp only [execOp, ho, he, Instr.loadAt, Instr.sureAddr, Sem.run_bind, Sem.run_pure, Result.andThen_ok, hl]
        · cases h
      · cases h
    · cases h
  · rename_i t x' f ho
    split at h
    · rename_i i off hx
      split at h
      · rename_i off' hf
        simp only [Option.some.injEq, Prod.mk.injEq] at h
        obtain ⟨rfl, rfl, _⟩ := h
        have he := eval_own ht hx
        refine .val (v := .pointer (some ⟨ν.l i, off', none⟩)) rfl fun w hw => ?_
        have hl := run_fieldB (g := ν.l i) hf w
        simp only [execOp, ho, he, Sem.run_bind, hl, Result.andThen_ok, Sem.run_pure]
      · cases h
    · rename_i k j p sz hx
      split at h
      · rename_i e o' he0 hf
        obtain ⟨hk, hd⟩ := getL_some he0
        cases hb : Nat.beq sz e.size
        · rw [hb] at h; cases h
        · rw [hb] at h
          simp only [cond_true, Option.some.injEq, Prod.mk.injEq] at h
          obtain ⟨rfl, rfl, rfl⟩ := h
          have hlt : j < e.n := by have := hq (pre (decide (j < e.n)), true) (by simp); simpa [pre] using this
          have he := eval_lp ht hx
          refine ⟨placeOf (ν.v k) (j * sz + o'), rfl, .inl ⟨rfl, fun w hw => ?_⟩⟩
          obtain ⟨_, aa, cap, hv0, _, hc0⟩ := hw.inB hk hd
          obtain ⟨b, off, rfl, hb, hc⟩ := hc0 (by omega)
          rw [hv0] at he ⊢
          simp only [placeOf, ← Nat.add_assoc] at he ⊢
          have hl := run_fieldB (g := b) (fieldB_add hf (off + j * sz)) w
          simp only [execOp, ho, he, Sem.run_bind, hl, Result.andThen_ok, Sem.run_pure]
      · cases h
    · exact generic_ok _ h ht
    · cases h
  · rename_i t x' ix ho
    split at h
    · rename_i i off fl k m hx hix
      split at h
      · rename_i len e hu
        split at h
        · rename_i off' hf
          simp only [Option.some.injEq, Prod.mk.injEq] at h
          obtain ⟨rfl, rfl, _⟩ := h
          have he := eval_own ht hx
          have hei := eval_v ht hix
          refine .val (v := .pointer (some ⟨ν.l i, off', none⟩)) rfl fun w hw => ?_
          have hl := (run_elemB (P := E.P) (t := t) (g := ν.l i) (k := k) hf w).1 hu
          simp only [execOp, ho, he, hei, Sem.run_bind, hl, Result.andThen_ok, Sem.run_pure]
        · cases h
      · cases h
    · rename_i i off len cap fl k m hx hix
      split at h
      · rename_i e hu
        split at h
        · rename_i off' hf
          simp only [Option.some.injEq, Prod.mk.injEq] at h
          obtain ⟨rfl, rfl, _⟩ := h
          have he := eval_sl ht hx
          have hei := eval_v ht hix
          refine .val (v := .pointer (some ⟨ν.l i, off', none⟩)) rfl fun w hw => ?_
          have hl := (run_elemB (P := E.P) (t := t) (g := ν.l i) (k := k) hf w).2 hu cap
          simp only [execOp, ho, he, hei, Sem.run_bind, hl, Result.andThen_ok, Sem.run_pure]
        · cases h
      · cases h
    · rename_i k fl kk m hx hix
      split at h
      · rename_i e et he0 hu
        obtain ⟨hk, hd⟩ := getL_some he0
        split at h
        · rename_i i hi
          cases hb : Nat.beq i.size e.size
          · rw [hb] at h; cases h
          · rw [hb] at h
            simp only [cond_true, Option.some.injEq, Prod.mk.injEq] at h
            obtain ⟨rfl, rfl, rfl⟩ := h
            have hsz := Nat.eq_of_beq_eq_true hb
            have hidx : 0 ≤ m ∧ m < (e.n : Int) := by have := hq (pre (idxB m e.n), true) (by simp); simpa [pre, idxB] using this
            have he := eval_c ht hx
            have hei := eval_v ht hix
            refine ⟨placeOf (ν.v k) (m.toNat * e.size + 0), rfl, .inl ⟨rfl, fun w hw => ?_⟩⟩
            obtain ⟨_, aa, cap, hv0, _, hc0⟩ := hw.inB hk hd
            obtain ⟨b, off, rfl, hb, hc⟩ := hc0 (by omega)
            rw [hv0] at he ⊢
            have hel : elemB E.P et e.n off m = some (off + m.toNat * i.size) := by unfold elemB; rw [hi]; simp only [decide_eq_true hidx, cond_true]
            have hl := (run_elemB (P := E.P) (t := t) (g := b) (k := kk) hel w).2 hu cap
            simp only [placeOf, Nat.add_zero, ← hsz]
            simp only [execOp, ho, he, hei, Sem.run_bind, hl, Result.andThen_ok, Sem.run_pure]
        · cases h
      · cases h
    · exact generic_ok _ h ht
  · rename_i op t x' y' yt ho
    exact binS_ok _ ho h hq ht
  · split at h
    · rename_i fl v c' hgen
      simp only [Option.some.injEq, Prod.mk.injEq] at h
      obtain ⟨rfl, rfl, _⟩ := h
      exact generic_ok (x := .inl (fl, v)) _ hgen ht
    · exact generic_ok _ h ht
  · split at h
    · rename_i fl v c' hgen
      simp only [Option.some.injEq, Prod.mk.injEq] at h
      obtain ⟨rfl, rfl, _⟩ := h
      exact generic_ok (x := .inl (fl, v)) _ hgen ht
    · exact generic_ok _ h ht
  · rename_i x' i ho
    split at h
    · rename_i l hx
      have he := eval_tp ht hx
      split at h
      · rename_i p hl
        simp only [Option.some.injEq, Prod.mk.injEq] at h
        obtain ⟨rfl, rfl, _⟩ := h
        refine .val (v := p.2) rfl fun w hw => ?_
        have : ((l.map (concT ν)).toArray)[i]? = some p.2 := by simp [hl, concT]
        simp [execOp, ho, he, Instr.extract, this]
      · rename_i k hl
        simp only [Option.some.injEq, Prod.mk.injEq] at h
        obtain ⟨rfl, rfl, _⟩ := h
        refine .val (v := ν.v k) rfl fun w hw => ?_
        have : ((l.map (concT ν)).toArray)[i]? = some (ν.v k) := by simp [hl, concT]
        simp [execOp, ho, he, Instr.extract, this]
      · cases h
    · exact generic_ok _ h ht
  · rename_i t x' lo hi' ho
    split at h
    · rename_i k hx
      split at h
      · rename_i e et he0 hu
        obtain ⟨hk, hd⟩ := getL_some he0
        split at h
        · rename_i i l hh hi hl hhh
          cases hb : (Nat.beq i.size e.size && Nat.beq (E.P.elem t) et)
          · rw [hb] at h; cases h
          · rw [hb] at h
            simp only [cond_true, Option.some.injEq, Prod.mk.injEq] at h
            obtain ⟨rfl, rfl, rfl⟩ := h
            simp only [Bool.and_eq_true] at hb
            have hsz := Nat.eq_of_beq_eq_true hb.1
            have het := Nat.eq_of_beq_eq_true hb.2
            subst het
            have hr : 0 ≤ l ∧ l ≤ hh ∧ hh ≤ (e.n : Int) := by have := hq (pre (decide (0 ≤ l ∧ l ≤ hh ∧ hh ≤ (e.n : Int))), true) (by simp); simpa [pre] using this
            have he := eval_c ht hx
            refine .val (v := subOf (ν.v k) l.toNat (hh.toNat - l.toNat) e.size) rfl fun w hw => ?_
            obtain ⟨_, aa, cap, hv0, hcap, _⟩ := hw.inB hk hd
            rw [hv0] at he ⊢
            rw [← hsz]
            have hbl : (lo.map a.eval = none ∧ l = 0) ∨ ∃ k, lo.map a.eval = some (.int k l) := by
              rcases boundS_ok ht hl with ⟨rfl, rfl⟩ | h'
              · exact .inl ⟨rfl, rfl⟩
              · exact .inr h'
            have hbh : (hi'.map a.eval = none ∧ hh = e.n) ∨ ∃ k, hi'.map a.eval = some (.int k hh) := by
              rcases boundS_ok ht hhh with ⟨rfl, rfl⟩ | h'
              · exact .inl ⟨rfl, rfl⟩
              · exact .inr h'
            have hrun := run_sliceE hu hi (a := aa) (cap := cap) hbl hbh hr.1 hr.2.1 hr.2.2 hcap w
            simp only [execOp, ho, he, Sem.run_bind, hrun, Result.andThen_ok, Sem.run_pure, Option.map_none]
        · cases h
      · cases h
    · rename_i fl sa hx
      cases hop : openS s o.op.operands.toList
      · rw [hop] at h; exact generic_ok _ h ht
      · rw [hop] at h
        simp only [cond_true] at h
        split at h
        · rename_i l hh hu hl hhh
          simp only [Option.some.injEq, Prod.mk.injEq] at h
          obtain ⟨rfl, rfl, rfl⟩ := h
          have hr : 0 ≤ l ∧ l ≤ hh ∧ hh ≤ (sa.size : Int) := by have := hq (pre (decide (0 ≤ l ∧ l ≤ hh ∧ hh ≤ (sa.size : Int))), true) (by simp); simpa [pre] using this
          have he := eval_v ht hx
          have hbl : (lo.map a.eval = none ∧ l = 0) ∨ ∃ k, lo.map a.eval = some (.int k l) := by
            rcases boundS_ok ht hl with ⟨rfl, rfl⟩ | h'
            · exact .inl ⟨rfl, rfl⟩
            · exact .inr h'
          have hbh : (hi'.map a.eval = none ∧ hh = sa.size) ∨ ∃ k, hi'.map a.eval = some (.int k hh) := by
            rcases boundS_ok ht hhh with ⟨rfl, rfl⟩ | h'
            · exact .inl ⟨rfl, rfl⟩
            · exact .inr h'
          refine .val (v := .string (extZ sa l hh)) rfl fun w _ => ?_
          rw [extZ_eq]
          have hrun := run_sliceS hu hbl hbh hr.1 hr.2.1 hr.2.2 w
          simp only [execOp, ho, he, Sem.run_bind, hrun, Result.andThen_ok, Sem.run_pure, Option.map_none]
        · cases h
    · exact generic_ok _ h ht
  · rename_i t x' ix ho
    split at h
    · rename_i fl sa fl' k m hx hix
      cases hop : (anyF fl || anyF fl')
      · rw [hop] at h; exact generic_ok _ h ht
      · rw [hop] at h
        simp only [cond_true] at h
        split at h
        · rename_i hu
          simp only [Option.some.injEq, Prod.mk.injEq] at h
          obtain ⟨rfl, rfl, rfl⟩ := h
          have hidx : 0 ≤ m ∧ m < (sa.size : Int) := by have := hq (pre (idxB m sa.size), true) (by simp); simpa [pre, idxB] using this
          have he := eval_v ht hx
          have hei := eval_v ht hix
          refine .val (v := .int .u8 (chrZ sa m)) rfl fun w _ => ?_
          rw [chrZ_eq]
          have hlt : m.toNat < sa.size := by omega
          have hget : sa[m.toNat]? = some sa[m.toNat] := getElem?_pos sa m.toNat hlt
          simp only [execOp, ho, he, hei, Instr.index, asIntOf, Sem.run_bind, Sem.run_pure, Result.andThen_ok, run_underlying hu, if_pos hidx.1, hget, Option.getD_some]
        · cases h
    · exact generic_ok _ h ht
  · rename_i f first captured ho
    split at h
    · rename_i fs cs hfs hcs
      simp only [Option.some.injEq, Prod.mk.injEq] at h
      obtain ⟨rfl, rfl, _⟩ := h
      refine .val (v := .func (.func f) (fs.map (concC ν)).toArray (cs.map (concC ν)).toArray) mkFn_is fun w _ => ?_
      have e1 := cvL_conc ht hfs
      have e2 := cvL_conc ht hcs
      simp only [execOp, ho]
      rw [map_eval a first, map_eval a captured, e1, e2]
      rfl
    · cases h
  · rename_i as ats ho
    split at h
    · rename_i x' t hl1 hl2
      have e1 : as = #[x'] := by rw [← Array.toArray_toList (xs := as), hl1]
      have e2 : ats = #[t] := by rw [← Array.toArray_toList (xs := ats), hl2]
      split at h
      · rename_i i off len cap e hx hu
        simp only [Option.some.injEq, Prod.mk.injEq] at h
        obtain ⟨rfl, rfl, _⟩ := h
        refine .val (v := .int .i64 len) rfl fun w hw => ?_
        have he := eval_sl ht hx
        subst e1 e2
        obtain ⟨dst, op, type, pos, after, guard⟩ := o
        simp only at ho
        subst ho
        unfold execOp
        simp [resolve, invoke, builtin, Builtin.len_, he, run_underlying hu, goInt]
      · rename_i k e hx hu
        split at h
        · rename_i e' he0
          obtain ⟨hk, hd⟩ := getL_some he0
          simp only [Option.some.injEq, Prod.mk.injEq] at h
          obtain ⟨rfl, rfl, _⟩ := h
          refine .val (v := .int .i64 e'.n) rfl fun w hw => ?_
          have he := eval_c ht hx
          obtain ⟨_, aa, cap, hv0, _⟩ := hw.inB hk hd
          rw [hv0] at he
          subst e1 e2
          obtain ⟨dst, op, type, pos, after, guard⟩ := o
          simp only at ho
          subst ho
          unfold execOp
          simp [resolve, invoke, builtin, Builtin.len_, he, run_underlying hu, goInt]
        · cases h
      · exact generic_ok _ h ht
    · exact generic_ok _ h ht
  · exact generic_ok _ h ht
end Go.Proofs.Ytcofdcpadbpmnaa.S2
