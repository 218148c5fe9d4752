/- The evaluator with lists answers what the call returns: operations. No word of the program. -/
import Derived.Test.YtmaffamhjmlonaaS2A
set_option linter.unusedVariables false
set_option linter.unusedSimpArgs false
namespace Go.Proofs.Ytmaffamhjmlonaa.S2
open Go Go.RowKit Sim
def Does (E : Env) (o : Oper) (a : Act) (C : World -> Prop) (V : Value -> Prop) (isCall : Bool) : Prop :=
 ∃ v, V v /\ ((isCall = false /\ ∀ w, C w -> (execOp a.eval o).run E.P w = .ok (.value v) w) \/
   (isCall = true /\ ∃ f args, E.call f args = some v /\ ∀ w, (execOp a.eval o).run E.P w = .ok (.enter f args) w))
theorem Does.val {E : Env} {o : Oper} {a : Act} {C : World -> Prop} {ν : Nu} {x : SV} {v : Value} (hv : Is ν x v) (h : ∀ w, C w -> (execOp a.eval o).run E.P w = .ok (.value v) w) : Does E o a C (Is ν x) false := ⟨v, hv, .inl ⟨rfl, h⟩⟩
theorem generic_st {E : Env} {o : Oper} {s : St} {x : SV} {c : Bool} {q : List (Bool × Bool)} (h : generic E o s = some (x, c, q)) : ∃ fl v, x = .inl (fl, v) := by
 unfold generic at h
 cases hb : (notSel o.op && o.op.operands.toList.all (fun x => isV (ev s x)))
 . rw [hb] at h; cases h
 . rw [hb] at h
   simp only [cond_true] at h
   cases hmk : isMkO o.op
   case true => rw [hmk] at h; cases h
   rw [hmk] at h
   simp only [cond_false] at h
   split at h
   . simp only [qS, qP] at h; exact ⟨_, _, h.1.symm⟩
   . split at h
     . simp only [qS, qP] at h; exact ⟨_, _, h.1.symm⟩
     . cases h
   . cases h
theorem generic_ok {E : Env} {o : Oper} {s : St} {x : SV} {c : Bool} {q : List (Bool × Bool)} {n : Nat} {ν : Nu} {a : Act} (C : World -> Prop) (h : generic E o s = some (x, c, q)) (ht : TR n ν s a) : Does E o a C (Is ν x) c := by
 unfold generic at h
 cases hb : (notSel o.op && o.op.operands.toList.all (fun x => isV (ev s x)))
 . rw [hb] at h; cases h
 . rw [hb] at h
   simp only [cond_true] at h
   cases hmk : isMkO o.op
   case true => rw [hmk] at h; cases h
   rw [hmk] at h
   simp only [cond_false] at h
   simp only [Bool.and_eq_true, List.all_eq_true] at hb
   have he : execOp a.eval o = execOp (rho s) o := execOp_congr o (fun cs b e => by rw [e] at hb; exact absurd hb.1 (by simp [notSel])) fun y hy => eval_rho ht (hb.2 y (by simpa using hy))
   cases hp : evalPure E.P (execOp (rho s) o) with
   | none => rw [hp] at h; cases h
   | some q =>
     have hrun := evalPure_run _ hp
     rw [hp] at h
     cases q <;> simp only [qS, qP, reduceCtorEq] at h
     case value v =>
       obtain ⟨rfl, rfl, _⟩ := h
       exact .val (v := v) rfl fun w _ => by rw [he]; exact hrun w
     case enter f args =>
       cases hcall : E.call f args with
       | none => rw [hcall] at h; cases h
       | some v =>
         rw [hcall] at h
         simp only [qS, qP] at h
         obtain ⟨rfl, rfl, _⟩ := h
         exact ⟨v, rfl, .inr ⟨rfl, f, args, hcall, fun w => by rw [he]; exact hrun w⟩⟩
theorem arS_st {E : Env} {o : Oper} {s : St} {op : BinOp} {g : List Bool} {k j : IntKind} {a b : Int} {x : SV} {c : Bool} {q : List (Bool × Bool)} (h : arS E o s op g k j a b = some (x, c, q)) : ∃ fl v, x = .inl (fl, v) := by
 unfold arS at h
 simp only [cond_eq_ite] at h
 repeat' (first | exact generic_st h | (cases h; done) | split at h)
 all_goals (simp only [qS, qP] at h; exact ⟨_, _, h.1.symm⟩)
theorem equal_nil {P : Program} {t : TypeId} {F : Fn} {xs ys : Array Value} (h : ∃ a b c, P.underlying t = some (.func a b c)) (w : World) : (Op.equal t (.func F xs ys) .nilFunc).run P w = .ok false w := by
 obtain ⟨a, b, c, h⟩ := h
 have : ∀ d, (Op.equalIn (d + 1) t (.func F xs ys) .nilFunc).run P w = .ok false w := fun d => by simp [Op.equalIn, run_underlying h]
 exact this 9999
theorem nilFS_ok {E : Env} {o : Oper} {s : St} {op : BinOp} {t yt : TypeId} {y z : Operand} {x : SV} {c : Bool} {q : List (Bool × Bool)} {n : Nat} {ν : Nu} {a : Act} {f : FuncId} {fs cs : List CV} {g : List Bool} (C : World -> Prop) (ho : o.op = .binOp op t y z yt) (h : nilFS E op t = some (x, c, q)) (ht : TR n ν s a) (hy : ev s y = .fn f fs cs) (hz : ev s z = .inl (g, .nilFunc)) : Does E o a C (Is ν x) c := by
 have he := eval_fn ht hy
 have he' := eval_v ht hz
 unfold nilFS at h
 split at h <;> first | (cases h; done) | skip
 all_goals
   rename_i hu
   simp only [qS, qP] at h
   obtain ⟨rfl, rfl, _⟩ := h
 . refine .val (v := .bool false) rfl fun w _ => ?_
   have hq := equal_nil (F := .func f) (xs := (fs.map (concC ν)).toArray) (ys := (cs.map (concC ν)).toArray) ⟨_, _, _, hu⟩ w
   simp [execOp, ho, he, he', binOp, eqGuard, hq]
 . refine .val (v := .bool true) rfl fun w _ => ?_
   have hq := equal_nil (F := .func f) (xs := (fs.map (concC ν)).toArray) (ys := (cs.map (concC ν)).toArray) ⟨_, _, _, hu⟩ w
   simp [execOp, ho, he, he', binOp, eqGuard, hq]
theorem nilFS_st {E : Env} {op : BinOp} {t : TypeId} {x : SV} {c : Bool} {q : List (Bool × Bool)} (h : nilFS E op t = some (x, c, q)) : ∃ fl v, x = .inl (fl, v) := by
 unfold nilFS at h
 split at h <;> first | (cases h; done) | (simp only [qS, qP] at h; exact ⟨_, _, h.1.symm⟩)
theorem binS_st {E : Env} {o : Oper} {s : St} {op : BinOp} {t : TypeId} {y z : Operand} {x : SV} {c : Bool} {q : List (Bool × Bool)} (h : binS E o s op t y z = some (x, c, q)) : ∃ fl v, x = .inl (fl, v) := by
 unfold binS at h
 simp only [cond_eq_ite] at h
 repeat' (first | exact generic_st h | exact arS_st h | exact nilFS_st h | (cases h; done) | split at h)
 all_goals (simp only [qS, qP] at h; exact ⟨_, _, h.1.symm⟩)
theorem wrap_in {x : Int} (h : inI x = true) : IntKind.i64.wrap x = x := by
 unfold inI at h
 simp only [decide_eq_true_eq] at h
 rw [IntKind.wrap_i64]; omega
theorem arS_ok {E : Env} {o : Oper} {s : St} {op : BinOp} {t yt : TypeId} {y z : Operand} {x : SV} {c : Bool} {q : List (Bool × Bool)} {n : Nat} {ν : Nu} {a : Act} {f g : List Bool} {k j : IntKind} {u v : Int} (C : World -> Prop) (ho : o.op = .binOp op t y z yt)
   (h : arS E o s op g k j u v = some (x, c, q)) (hq : ∀ p ∈ q, p.1 = p.2) (ht : TR n ν s a) (hy : ev s y = .inl (f, .int k u)) (hz : ev s z = .inl (g, .int j v)) : Does E o a C (Is ν x) c := by
 have he := eval_v ht hy
 have he' := eval_v ht hz
 have sh : shOp op = true -> 0 <= v -> Does E o a C (Is ν (.inl ([true], .int k (arZ op k u v)))) false := fun hs h0 => by
   refine .val (v := .int k (arZ op k u v)) rfl fun w _ => ?_
   have hn : ¬ v < 0 := by omega
   rw [arZ_eq]
   cases op <;> first | (cases hs; done) | simp [execOp, ho, he, he', binOp, eqGuard, Op.shift, arF, hn]
 unfold arS at h
 cases hs : shOp op
 . rw [hs] at h
   simp only [cond_false] at h
   cases hb : (bitOp op && decide (k = j))
   . rw [hb] at h
     simp only [cond_false] at h
     cases hd : (divOp op && decide (k = j))
     . rw [hd] at h; exact generic_ok C h ht
     . rw [hd] at h
       simp only [cond_true] at h
       simp only [Bool.and_eq_true, decide_eq_true_eq] at hd
       obtain ⟨hd, rfl⟩ := hd
       have dv : v ≠ 0 -> Does E o a C (Is ν (.inl ([true], .int k (arZ op k u v)))) false := fun h0 => by
         refine .val (v := .int k (arZ op k u v)) rfl fun w _ => ?_
         rw [arZ_eq]
         cases op <;> first | (cases hd; done) | simp [execOp, ho, he, he', binOp, eqGuard, Op.intDiv, arF, h0]
       cases hg : anyF g
       . rw [hg] at h
         simp only [cond_false] at h
         cases hz : decide (v ≠ 0)
         . rw [hz] at h; cases h
         . rw [hz] at h
           simp only [cond_true, qS, qP] at h
           obtain ⟨rfl, rfl, _⟩ := h
           exact dv (of_decide_eq_true hz)
       . rw [hg] at h
         simp only [cond_true, qS, qP] at h
         obtain ⟨rfl, rfl, rfl⟩ := h
         have h0 : decide (v ≠ 0) = true := hq (pre (decide (v ≠ 0)), true) (by simp)
         exact dv (of_decide_eq_true h0)
   . rw [hb] at h
     simp only [cond_true, qS, qP] at h
     obtain ⟨rfl, rfl, _⟩ := h
     simp only [Bool.and_eq_true, decide_eq_true_eq] at hb
     obtain ⟨hb, rfl⟩ := hb
     refine .val (v := .int k (arZ op k u v)) rfl fun w _ => ?_
     rw [arZ_eq]
     cases op <;> first | (cases hb; done) | simp [execOp, ho, he, he', binOp, eqGuard, Op.intArith, arF, intBits_and, intBits_or, intBits_xor, intBits_andNot]
 . rw [hs] at h
   simp only [cond_true] at h
   cases hg : anyF g
   . rw [hg] at h
     simp only [cond_false] at h
     cases hd : decide (0 <= v)
     . rw [hd] at h; cases h
     . rw [hd] at h
       simp only [cond_true, qS, qP] at h
       obtain ⟨rfl, rfl, _⟩ := h
       exact sh hs (of_decide_eq_true hd)
   . rw [hg] at h
     simp only [cond_true, qS, qP] at h
     obtain ⟨rfl, rfl, rfl⟩ := h
     have h0 : decide (0 <= v) = true := hq (pre (decide (0 <= v)), true) (by simp)
     exact sh hs (of_decide_eq_true h0)
theorem binS_ok {E : Env} {o : Oper} {s : St} {op : BinOp} {t yt : TypeId} {y z : Operand} {x : SV} {c : Bool} {q : List (Bool × Bool)} {n : Nat} {ν : Nu} {a : Act} (C : World -> Prop) (ho : o.op = .binOp op t y z yt) (h : binS E o s op t y z = some (x, c, q)) (hq : ∀ p ∈ q, p.1 = p.2) (ht : TR n ν s a) : Does E o a C (Is ν x) c := by
 unfold binS at h
 split at h
 . rename_i f k a' g j b' hx hy
   split at h
   . rename_i r hk hr
     simp only [qS, qP] at h
     obtain ⟨rfl, rfl, _⟩ := h
     have hk := of_decide_eq_true hk
     subst hk
     have he := eval_v ht hx
     have he' := eval_v ht hy
     refine .val (v := .bool r) rfl fun w _ => ?_
     unfold cmpI at hr
     split at hr <;> first | (cases hr; done) | (simp only [qS] at hr; subst hr; simp [execOp, ho, he, he', binOp, eqGuard, Op.intCmp])
   . split at h
     . rename_i r hk hr
       simp only [qS, qP] at h
       obtain ⟨rfl, rfl, rfl⟩ := h
       simp only [Bool.and_eq_true, decide_eq_true_eq] at hk
       obtain ⟨⟨_, rfl⟩, rfl⟩ := hk
       have hi : inI r = true := hq (pre (inI r), true) (by simp)
       have he := eval_v ht hx
       have he' := eval_v ht hy
       refine .val (v := .int .i64 r) rfl fun w _ => ?_
       unfold arith at hr
       split at hr <;> first | (cases hr; done) | (simp only [qS] at hr; subst hr; have hw := wrap_in hi; simp [execOp, ho, he, he', binOp, eqGuard, Op.intArith, hw])
     . cases hop : (E.opq && (anyF f || anyF g))
       . rw [hop] at h; exact generic_ok C h ht
       . rw [hop] at h; exact arS_ok C ho h hq ht hx hy
 . rename_i f a' g b' hx hy
   split at h
   . rename_i r hr
     simp only [qS, qP] at h
     obtain ⟨rfl, rfl, _⟩ := h
     have he := eval_v ht hx
     have he' := eval_v ht hy
     refine .val (v := .bool r) rfl fun w _ => ?_
     have hq := eqTop_ok hr y z w
     simp only [Sem.run_bind] at hq
     simp only [execOp, ho, he, he', Sem.run_bind]
     rw [hq]; rfl
   . exact generic_ok C h ht
 . rename_i f a' g b' hx hy
   cases hb : (isAdd op && (anyF f || anyF g))
   . rw [hb] at h; exact generic_ok C h ht
   . rw [hb] at h
     simp only [cond_true, qS, qP] at h
     obtain ⟨rfl, rfl, rfl⟩ := h
     simp only [Bool.and_eq_true] at hb
     have hop : op = .add := by
       cases op <;> first | rfl | (simp [isAdd] at hb; done)
     subst hop
     have hf : fitS a' b' = true := hq (pre (fitS a' b'), true) (by simp)
     have hf : a'.size + b'.size <= 9223372036854775807 := by simpa [fitS] using hf
     have hmax : IntKind.i64.max = 9223372036854775807 := by decide
     have hn : ¬ (((a'.size + b'.size : Nat) : Int) > IntKind.i64.max) := by rw [hmax]; omega
     have he := eval_v ht hx
     have he' := eval_v ht hy
     refine .val (v := .string (catZ a' b')) rfl fun w _ => ?_
     rw [catZ_eq]
     simp only [execOp, ho, he, he', eqGuard, binOp, Op.stringOp, Sem.run_bind, Sem.run_pure, Result.andThen_ok, if_neg hn]
     rfl
 . rename_i f a' b' g hx hy
   exact nilFS_ok C ho h ht hx hy
 . exact generic_ok C h ht
theorem cvL_okC {n m : Nat} : ∀ {l : List SV} {r : List CV}, cvL l = some r -> (∀ x ∈ l, okV n m x) -> ∀ y ∈ r, okC n m y
 | [], r, h, _ => by simp only [cvL, qS] at h; subst h; intro y hy; cases hy
 | x :: l, r, h, hx => by
   unfold cvL at h
   split at h
   . rename_i y l' hy hl
     simp only [qS] at h
     subst h
     have h0 := hx x (List.mem_cons_self)
     intro z hz
     rcases List.mem_cons.mp hz with rfl | hz
     . unfold cvOf at hy
       split at hy <;> first | (cases hy; done) | (simp only [qS] at hy; subst hy; first | trivial | exact h0)
     . exact cvL_okC hl (fun x hx' => hx x (List.mem_cons_of_mem _ hx')) z hz
   . cases h
theorem cvL_conc {n : Nat} {ν : Nu} {s : St} {a : Act} (ht : TR n ν s a) : ∀ {l : List Operand} {r : List CV}, cvL (l.map (ev s)) = some r -> l.map a.eval = r.map (concC ν)
 | [], r, h => by simp only [List.map_nil, cvL, qS] at h; subst h; rfl
 | x :: l, r, h => by
   rw [List.map_cons] at h
   unfold cvL at h
   split at h
   . rename_i y l' hy hl
     simp only [qS] at h
     subst h
     rw [List.map_cons, List.map_cons, cvL_conc ht hl]
     congr 1
     unfold cvOf at hy
     split at hy
     . rename_i fl v hx
       simp only [qS] at hy; subst hy
       exact eval_v ht hx
     . rename_i i off hx
       simp only [qS] at hy; subst hy
       exact eval_own ht hx
     . rename_i k hx
       simp only [qS] at hy; subst hy
       exact eval_c ht hx
     . cases hy
   . cases h
theorem cvL_concB {ν : Nu} : ∀ {l : List SV} {r : List CV}, cvL l = some r -> concB ν l = r.map (concC ν)
 | [], r, h => by simp only [cvL, qS] at h; subst h; rfl
 | x :: l, r, h => by
   unfold cvL at h
   split at h
   . rename_i y l' hy hl
     simp only [qS] at h
     subst h
     show conc ν x :: concB ν l = _
     rw [cvL_concB hl, List.map_cons]
     congr 1
     unfold cvOf at hy
     split at hy <;> first | (cases hy; done) | (simp only [qS] at hy; subst hy; rfl)
   . cases h
theorem svC_conc (ν : Nu) (c : CV) : conc ν (svC c) = concC ν c := by cases c <;> rfl
theorem svC_okV1 {n m : Nat} {c : CV} (h : okC n m c) : okV n m (svC c) := by cases c <;> first | trivial | exact h
theorem svC_any (c : CV) : svC c ≠ .any := by cases c <;> simp [svC]
theorem plC_ok {ν : Nu} : ∀ {cs : List CV} {g : List Bool} {l : List Value}, plC cs = some (g, l) -> cs.map (concC ν) = l
 | [], g, l, h => by simp only [plC, qS, qP] at h; rw [<- h.2]; rfl
 | .v fl x :: r, g, l, h => by
   unfold plC at h
   split at h
   . rename_i g' l' hr
     simp only [qS, qP] at h
     rw [<- h.2, List.map_cons, plC_ok hr]; rfl
   . cases h
 | .a _ _ :: _, g, l, h => by simp [plC] at h
 | .l _ :: _, g, l, h => by simp [plC] at h
theorem cutC_ok (cs : List CV) (ν : Nu) : cutC cs ≠ .any /\ conc ν (cutC cs) = .agg (cs.map (concC ν)).toArray := by
 unfold cutC
 split
 . rename_i g l h
   exact ⟨by simp, by rw [plC_ok h]; rfl⟩
 . exact ⟨by simp, rfl⟩
theorem cutC_okV {n m : Nat} {cs : List CV} (h : ∀ x ∈ cs, okC n m x) : okV n m (cutC cs) := by
 unfold cutC
 split
 . trivial
 . exact h
theorem Is_of {ν : Nu} {x : SV} {v : Value} (hne : x ≠ .any) (h : v = conc ν x) : Is ν x v := by
 cases x <;> first | exact h | exact absurd rfl hne
theorem fieldS_ok {P : Program} {t : TypeId} {f : Nat} {cs : List CV} {y : SV} (h : fieldS P t f cs = some y) (ν : Nu) : y ≠ .any /\ ∀ w, (Instr.field t (.agg (cs.map (concC ν)).toArray) f).run P w = .ok (conc ν y) w := by
 unfold fieldS at h
 split at h
 . rename_i fs hu
   split at h
   . rename_i fl hf
     split at h
     . rename_i d i hd hi
       have hagg : ∀ w, (isAgg fl.type).run P w = .ok (aggD d) w := fun w => by
         unfold isAgg
         rw [Sem.run_bind, run_underlying hd w]
         cases d <;> rfl
       have hsz : ∀ w, (sizeOf fl.type).run P w = .ok i.size w := fun w => by simp [sizeOf, typeInfo, hi]
       cases ha : aggD d
       . rw [ha] at h
         simp only [cond_false] at h
         split at h
         . rename_i c hc
           simp only [qS] at h
           subst h
           refine ⟨svC_any c, fun w => ?_⟩
           rw [svC_conc]
           simp [Instr.field, run_underlying hu w, hf, asAgg, part, hagg w, ha, hc]
         . cases h
       . rw [ha] at h
         simp only [cond_true] at h
         cases hb : Nat.ble (fl.offset + i.size) cs.length
         . rw [hb] at h; cases h
         . rw [hb] at h
           simp only [cond_true, qS] at h
           subst h
           obtain ⟨c1, c2⟩ := cutC_ok ((cs.drop fl.offset).take i.size) ν
           refine ⟨c1, fun w => ?_⟩
           have h1 : (cs.map (concC ν)).toArray.extract fl.offset (fl.offset + i.size) = (((cs.drop fl.offset).take i.size).map (concC ν)).toArray := by
             refine Array.ext' ?_
             rw [Array.toList_extract, List.extract_eq_take_drop]
             simp [List.map_take, List.map_drop]
           rw [c2, <- h1]
           simp [Instr.field, run_underlying hu w, hf, asAgg, part, hagg w, ha, hsz w]
     . cases h
   . cases h
 . cases h
theorem fieldS_okV {P : Program} {t : TypeId} {f : Nat} {cs : List CV} {y : SV} {n m : Nat} (h : fieldS P t f cs = some y) (hc : ∀ x ∈ cs, okC n m x) : okV n m y := by
 unfold fieldS at h
 simp only [cond_eq_ite] at h
 repeat' (first | (cases h; done) | split at h)
 all_goals (simp only [qS] at h; subst h)
 . exact cutC_okV fun x hx => hc x (List.mem_of_mem_drop (List.mem_of_mem_take hx))
 . exact svC_okV1 (hc _ (List.mem_of_getElem? ‹_›))
theorem mkCV_conc (ν : Nu) : ∀ (vs : List Value) (fl : List Bool), (mkCV vs fl).map (concC ν) = vs
 | [], _ => rfl
 | v :: r, [] => by show v :: (mkCV r []).map (concC ν) = _; rw [mkCV_conc ν r]
 | v :: r, b :: fl => by show v :: (mkCV r fl).map (concC ν) = _; rw [mkCV_conc ν r]
theorem mkCV_okC {n m : Nat} : ∀ (vs : List Value) (fl : List Bool), ∀ x ∈ mkCV vs fl, okC n m x
 | [], _, x, h => by cases h
 | v :: r, [], x, h => by
   rcases List.mem_cons.mp (show x ∈ .v [false] v :: mkCV r [] from h) with rfl | h
   . trivial
   . exact mkCV_okC r [] x h
 | v :: r, b :: fl, x, h => by
   rcases List.mem_cons.mp (show x ∈ .v [b] v :: mkCV r fl from h) with rfl | h
   . trivial
   . exact mkCV_okC r fl x h
theorem putC_conc (ν : Nu) : ∀ (v c : List CV) (o : Nat), (putC c o v).map (concC ν) = putL (c.map (concC ν)) o (v.map (concC ν))
 | [], c, o => rfl
 | x :: r, c, o => by
   show (putC (c.set o x) (o + 1) r).map (concC ν) = putL ((c.map (concC ν)).set o (concC ν x)) (o + 1) (r.map (concC ν))
   rw [putC_conc ν r, List.map_set]
theorem putC_okC {n m : Nat} : ∀ (v c : List CV) (o : Nat), (∀ x ∈ c, okC n m x) -> (∀ x ∈ v, okC n m x) -> ∀ x ∈ putC c o v, okC n m x
 | [], c, o, hc, _ => hc
 | y :: r, c, o, hc, hv => putC_okC r (c.set o y) (o + 1) (fun x hx => by
     rcases List.mem_or_eq_of_mem_set hx with h | h
     . exact hc x h
     . rw [h]; exact hv y List.mem_cons_self) fun x hx => hv x (List.mem_cons_of_mem _ hx)
theorem foldl_put : ∀ (vs : List Value) (k off : Nat) (cells : Array Value), ((vs.zipIdx k).foldl (fun cs p => cs.setIfInBounds (off + p.2) p.1) cells).toList = putL cells.toList (off + k) vs
 | [], k, off, cells => rfl
 | v :: r, k, off, cells => by
   show ((r.zipIdx (k + 1)).foldl _ (cells.setIfInBounds (off + k) v)).toList = putL (cells.toList.set (off + k) v) (off + k + 1) r
   rw [foldl_put r (k + 1) off, Array.toList_setIfInBounds, Nat.add_assoc]
def PartsRel (ν : Nu) : List (Nat × List CV) -> List (Nat × Value) -> Prop
 | [], [] => True
 | (i, c) :: r, (k, v) :: vs => i = k /\ v.cells.toList = c.map (concC ν) /\ PartsRel ν r vs
 | _, _ => False
theorem fillC_ok {ν : Nu} {place : Nat -> Option (Nat × Nat)} : ∀ {parts : List (Nat × List CV)} {vals : List (Nat × Value)} {cs r : List CV}, fillC place cs parts = some r -> PartsRel ν parts vals -> Instr.fill place (cs.map (concC ν)).toArray vals = some (r.map (concC ν)).toArray
 | [], vals, cs, r, h, hr => by
   simp only [fillC, qS] at h
   subst h
   cases vals with
   | nil => rfl
   | cons v vs => exact hr.elim
 | (i, c) :: parts, vals, cs, r, h, hr => by
   cases vals with
   | nil => exact hr.elim
   | cons p vs =>
     obtain ⟨k, v⟩ := p
     obtain ⟨rfl, hv, hr⟩ := hr
     unfold fillC at h
     split at h
     . rename_i off size hp
       cases hb : (Nat.beq c.length size && Nat.ble (off + c.length) cs.length)
       . rw [hb] at h; cases h
       . rw [hb] at h
         simp only [cond_true] at h
         simp only [Bool.and_eq_true] at hb
         have h1 := qB hb.1
         have h2 := Nat.le_of_ble_eq_true hb.2
         have hs : v.cells.size = c.length := by rw [<- Array.length_toList, hv, List.length_map]
         have ih := fillC_ok h hr
         unfold Instr.fill
         rw [hp]
         have hne : ¬ (v.cells.size ≠ size \/ off + v.cells.size > (cs.map (concC ν)).toArray.size) := by simp [hs, h1]; omega
         simp only [Bool.or_eq_true, decide_eq_true_eq]
         rw [if_neg (by simpa using hne)]
         rw [<- ih]
         congr 1
         refine Array.ext' ?_
         rw [<- Array.foldl_toList, Array.toList_zipIdx]
         have := foldl_put v.cells.toList 0 off (cs.map (concC ν)).toArray
         rw [Nat.add_zero] at this
         refine Eq.trans this ?_
         rw [hv]
         exact (putC_conc ν c cs off).symm
     . cases h
theorem fillC_okC {n m : Nat} {place : Nat -> Option (Nat × Nat)} : ∀ {parts : List (Nat × List CV)} {cs r : List CV}, fillC place cs parts = some r -> (∀ x ∈ cs, okC n m x) -> (∀ p ∈ parts, ∀ x ∈ p.2, okC n m x) -> ∀ x ∈ r, okC n m x
 | [], cs, r, h, hc, _ => by simp only [fillC, qS] at h; subst h; exact hc
 | (i, c) :: parts, cs, r, h, hc, hp => by
   unfold fillC at h
   split at h
   . rename_i off size _
     cases hb : (Nat.beq c.length size && Nat.ble (off + c.length) cs.length)
     . rw [hb] at h; cases h
     . rw [hb] at h
       simp only [cond_true] at h
       exact fillC_okC h (putC_okC c cs off hc (hp (i, c) List.mem_cons_self)) fun p hp' => hp p (List.mem_cons_of_mem _ hp')
   . cases h
theorem partC_ok {s : St} {x : SV} {c : List CV} {w0 : Base} {w : World} {ν : Nu} {mem : Bool} {v : Value} (h : partC s x = some c) (hw : WR w0 ν s.own mem w) (hv : Is ν x v) : v.cells.toList = c.map (concC ν) := by
 unfold partC at h
 split at h
 . rename_i fl u
   simp only [qS] at h
   subst h
   rw [show v = u from hv, mkCV_conc]
 . simp only [qS] at h
   subst h
   rename_i i off
   rw [show v = .pointer (some ⟨ν.l i, off, none⟩) from hv]; rfl
 . rename_i k
   split at h
   . rename_i e he
     simp only [qS] at h
     subst h
     obtain ⟨hk, hd⟩ := getL_some he
     obtain ⟨_, a, cap, hva, _⟩ := hw.inB hk hd
     rw [show v = ν.v k from hv, hva]
     show [Value.slice a e.n cap] = [ν.v k]
     rw [hva]
   . cases h
 . rename_i cs
   simp only [qS] at h
   subst h
   rw [show v = .agg (cs.map (concC ν)).toArray from hv]; rfl
 . cases h
theorem partC_okC {s : St} {x : SV} {c : List CV} (h : partC s x = some c) {n m : Nat} (hx : okV n m x) : ∀ y ∈ c, okC n m y := by
 unfold partC at h
 split at h
 . simp only [qS] at h; subst h; exact mkCV_okC _ _
 . simp only [qS] at h
   subst h
   intro y hy
   rw [List.mem_singleton] at hy
   subst hy; exact hx
 . split at h
   . simp only [qS] at h
     subst h
     intro y hy
     rw [List.mem_singleton] at hy
     subst hy; exact hx
   . cases h
 . simp only [qS] at h; subst h; exact hx
 . cases h
theorem partsC_ok {s : St} {w0 : Base} {w : World} {ν : Nu} {mem : Bool} (hw : WR w0 ν s.own mem w) : ∀ {ps : List (Nat × SV)} {l : List (Nat × List CV)} {vals : List (Nat × Value)}, partsC s ps = some l -> ps.length = vals.length -> (∀ (j : Nat) p q, ps[j]? = some p -> vals[j]? = some q -> p.1 = q.1 /\ Is ν p.2 q.2) -> PartsRel ν l vals
 | [], l, vals, h, hl, _ => by
   simp only [partsC, qS] at h
   subst h
   cases vals with
   | nil => trivial
   | cons _ _ => simp at hl
 | (i, x) :: r, l, vals, h, hl, hi => by
   unfold partsC at h
   split at h
   . rename_i c l' hc hl'
     simp only [qS] at h
     subst h
     cases vals with
     | nil => simp at hl
     | cons q vs =>
       obtain ⟨k, v⟩ := q
       obtain ⟨h1, h2⟩ := hi 0 (i, x) (k, v) rfl rfl
       exact ⟨h1, partC_ok hc hw h2, partsC_ok hw hl' (by simpa using hl) fun j p q hp hq => hi (j + 1) p q (by simpa using hp) (by simpa using hq)⟩
   . cases h
theorem partsC_okC {s : St} {n m : Nat} : ∀ {ps : List (Nat × SV)} {l : List (Nat × List CV)}, partsC s ps = some l -> (∀ p ∈ ps, okV n m p.2) -> ∀ p ∈ l, ∀ y ∈ p.2, okC n m y
 | [], l, h, _ => by simp only [partsC, qS] at h; subst h; intro p hp; cases hp
 | (i, x) :: r, l, h, hi => by
   unfold partsC at h
   split at h
   . rename_i c l' hc hl'
     simp only [qS] at h
     subst h
     intro p hp
     rcases List.mem_cons.mp hp with rfl | hp
     . exact partC_okC hc (hi (i, x) List.mem_cons_self)
     . exact partsC_okC hl' (fun p hp => hi p (List.mem_cons_of_mem _ hp)) p hp
   . cases h
theorem placesB_ok {P : Program} : ∀ {fs : List Field} {l : List (Nat × Nat)}, placesB P fs = some l -> fs.mapM (fun f => (P.info? f.type).map fun i => (f.offset, i.size)) = some l
 | [], l, h => by simp only [placesB, qS] at h; subst h; rfl
 | f :: r, l, h => by
   unfold placesB at h
   split at h
   . rename_i i l' hi hl
     simp only [qS] at h
     subst h
     simp [List.mapM_cons, hi, placesB_ok hl]
   . cases h
theorem buildS_ok {P : Program} {s : St} {t : TypeId} {parts : Array (Nat × Operand)} {x : SV} (h : buildS P s t (parts.toList.map fun p => (p.1, ev s p.2)) = some x) {w0 : Base} {w : World} {ν : Nu} {mem : Bool} {n : Nat} {a : Act} (ht : TR n ν s a) (hw : WR w0 ν s.own mem w) :
   x ≠ .any /\ (Instr.build t (parts.map fun p => (p.1, a.eval p.2))).run P w = .ok (conc ν x) w := by
 unfold buildS at h
 split at h
 . rename_i fs i hu hi
   split at h
   . rename_i z pl l hz hpl hl
     split at h
     . rename_i cs hcs
       simp only [qS] at h
       subst h
       refine ⟨by simp, ?_⟩
       have hr : PartsRel ν l (parts.map fun p => (p.1, a.eval p.2)).toList := by
         refine partsC_ok hw hl (by simp) fun j p q hp hq => ?_
         rw [Array.toList_map] at hq
         rw [List.getElem?_map] at hp hq
         cases hj : parts.toList[j]? with
         | none => rw [hj] at hp; cases hp
         | some y =>
           rw [hj] at hp hq
           simp only [Option.map_some, qS] at hp hq
           subst hp hq
           exact ⟨rfl, eval_is ht y.2⟩
       have hf := fillC_ok hcs hr
       rw [mkCV_conc] at hf
       refine run_build w t _ _ ?_
       unfold Program.built
       simp only [hi, hu, hz, placesB_ok hpl]
       have e : (fun k => pl.toArray[k]?) = fun k => pl[k]? := funext fun k => List.getElem?_toArray
       rw [e]
       exact hf
     . cases h
   . cases h
 . cases h
theorem buildS_any {P : Program} {s : St} {t : TypeId} {parts : List (Nat × SV)} {x : SV} (h : buildS P s t parts = some x) : x ≠ .any := by
 unfold buildS at h
 repeat' (first | (cases h; done) | split at h)
 simp only [qS] at h
 subst h; simp
theorem buildS_okV {P : Program} {s : St} {t : TypeId} {parts : Array (Nat × Operand)} {x : SV} (h : buildS P s t (parts.toList.map fun p => (p.1, ev s p.2)) = some x) (hg : Good s) : okV s.own.b.length s.own.l.length x := by
 unfold buildS at h
 split at h
 . split at h
   . rename_i z pl l _ _ hl
     split at h
     . rename_i cs hcs
       simp only [qS] at h
       subst h
       refine fillC_okC hcs (mkCV_okC _ _) (partsC_okC hl fun p hp => ?_)
       obtain ⟨y, _, rfl⟩ := List.mem_map.mp hp
       exact ev_ok hg y.2
     . cases h
   . cases h
 . cases h
theorem mkFn_okV {n m : Nat} {f : FuncId} {fs cs : List CV} (h1 : ∀ x ∈ fs, okC n m x) (h2 : ∀ x ∈ cs, okC n m x) : okV n m (mkFn f fs cs) := by
 unfold mkFn
 split
 . trivial
 . exact ⟨h1, h2⟩
theorem mkFn_is {ν : Nu} {f : FuncId} {fs cs : List CV} : Is ν (mkFn f fs cs) (.func (.func f) (fs.map (concC ν)).toArray (cs.map (concC ν)).toArray) := by
 unfold mkFn
 split
 . rfl
 . rfl
theorem map_eval (a : Act) (az : Array Operand) : az.map a.eval = (az.toList.map a.eval).toArray := by rw [<- Array.toArray_toList (xs := az.map a.eval), Array.toList_map]
theorem valsS_conc {ν : Nu} : ∀ {cs : List SV} {vs : List Value}, valsS cs = some vs -> concB ν cs = vs
 | [], vs, h => by simp only [valsS, qS] at h; subst h; rfl
 | .inl (fl, v) :: r, vs, h => by
   unfold valsS at h
   split at h
   . rename_i l hl
     simp only [qS] at h
     subst h
     show v :: concB ν r = _
     rw [valsS_conc hl]
   . cases h
 | .inr _ :: _, vs, h => by simp [valsS] at h
 | .c _ :: _, vs, h => by simp [valsS] at h
 | .lp _ _ _ _ :: _, vs, h => by simp [valsS] at h
 | .tp _ :: _, vs, h => by simp [valsS] at h
 | .fn _ _ _ :: _, vs, h => by simp [valsS] at h
 | .sub _ _ _ _ :: _, vs, h => by simp [valsS] at h
 | .mp _ :: _, vs, h => by simp [valsS] at h
 | .ia _ _ _ _ :: _, vs, h => by simp [valsS] at h
 | .rp _ _ _ _ :: _, vs, h => by simp [valsS] at h
 | .any :: _, vs, h => by simp [valsS] at h
theorem loadS_ok {P : Program} {t : TypeId} {cs : List SV} {off : Nat} {x : SV} (h : loadS P t cs off = some x) (ν : Nu) : x ≠ .any /\ loadB P t (concB ν cs) off = some (conc ν x) := by
 unfold loadS at h
 unfold loadB
 split at h
 . rename_i d i hu hi
   simp only [hu, hi]
   cases hd : aggD d
   . rw [hd] at h
     simp only [cond_false] at h ⊢
     split at h
     . cases h
     . rename_i hne
       refine ⟨fun e => hne (by rw [h, e]), ?_⟩
       unfold concB
       rw [List.getElem?_map, h]; rfl
   . rw [hd] at h
     simp only [cond_true] at h ⊢
     cases hb : Nat.ble (off + i.size) cs.length
     . rw [hb] at h; cases h
     . rw [hb] at h
       have hb' : Nat.ble (off + i.size) (concB ν cs).length = true := by unfold concB; rw [List.length_map]; exact hb
       simp only [cond_true, hb'] at h ⊢
       split at h
       . rename_i vs hvs
         simp only [qS] at h
         subst h
         refine ⟨by simp, ?_⟩
         have := valsS_conc (ν := ν) hvs
         unfold concB at this ⊢
         rw [<- this, List.map_take, List.map_drop]; rfl
       . split at h
         . rename_i l hl
           simp only [qS] at h
           subst h
           refine ⟨by simp, ?_⟩
           have := cvL_concB (ν := ν) hl
           unfold concB at this ⊢
           show _ = some (Value.agg (l.map (concC ν)).toArray)
           rw [<- this, List.map_take, List.map_drop]
         . cases h
 . cases h
theorem loadS_okV {P : Program} {t : TypeId} {cs : List SV} {off : Nat} {x : SV} {n m : Nat} (h : loadS P t cs off = some x) (hc : ∀ c ∈ cs, okV n m c) : okV n m x := by
 unfold loadS at h
 split at h
 . rename_i d i hu hi
   cases hd : aggD d
   . rw [hd] at h
     simp only [cond_false] at h
     split at h
     . cases h
     . exact hc x (List.mem_of_getElem? h)
   . rw [hd] at h
     simp only [cond_true] at h
     cases hb : Nat.ble (off + i.size) cs.length
     . rw [hb] at h; cases h
     . rw [hb] at h
       simp only [cond_true] at h
       split at h
       . simp only [qS] at h
         subst h; trivial
       . split at h
         . rename_i l hl
           simp only [qS] at h
           subst h
           exact cvL_okC hl fun x hx => hc x (List.mem_of_mem_drop (List.mem_of_mem_take hx))
         . cases h
 . cases h
theorem simRO0_st {E : Env} {o : Oper} {s : St} {x : SV} {c : Bool} {q : List (Bool × Bool)} (h : simRO0 E o s = some (x, c, q)) (hg : Good s) : okV s.own.b.length s.own.l.length x := by
 have gen : ∀ {x : SV} {c : Bool} {q : List (Bool × Bool)}, generic E o s = some (x, c, q) -> okV s.own.b.length s.own.l.length x := fun h => by
   obtain ⟨_, _, rfl⟩ := generic_st h; trivial
 have gbin : ∀ {x : SV} {c : Bool} {q : List (Bool × Bool)} {op : BinOp} {t : TypeId} {y z : Operand}, binS E o s op t y z = some (x, c, q) -> okV s.own.b.length s.own.l.length x := fun h => by
   obtain ⟨_, _, rfl⟩ := binS_st h; trivial
 have ev1 : ∀ {y : Operand} {i off : Nat}, ev s y = .inr (i, off, none) -> i < s.own.b.length := fun {y i off} hy => by
   have := ev_ok hg y; rw [hy] at this; exact this
 have ev2 : ∀ {y : Operand} {i off l k : Nat}, ev s y = .inr (i, off, some (l, k)) -> i < s.own.b.length := fun {y i off l k} hy => by
   have := ev_ok hg y; rw [hy] at this; exact this
 have ev3 : ∀ {y : Operand} {k : Nat}, ev s y = .c k -> k < s.own.l.length := fun {y k} hy => by
   have := ev_ok hg y; rw [hy] at this; exact this
 have ev4 : ∀ {y : Operand} {k j p z : Nat}, ev s y = .lp k j p z -> k < s.own.l.length := fun {y k j p z} hy => by
   have := ev_ok hg y; rw [hy] at this; exact this
 have ev5 : ∀ {y : Operand} {l : List TV} {i k : Nat}, ev s y = .tp l -> l[i]? = some (.inr k) -> k < s.own.l.length := fun {y l i k} hy hl => by
   have := ev_ok hg y; rw [hy] at this; exact this _ (List.mem_of_getElem? hl)
 have ev8 : ∀ {y : Operand} {l : List TV} {i : Nat} {cs : List CV}, ev s y = .tp l -> l[i]? = some (.st cs) -> okV s.own.b.length s.own.l.length (.st cs) := fun {y l i cs} hy hl => by
   have := ev_ok hg y; rw [hy] at this; exact this _ (List.mem_of_getElem? hl)
 have ev9 : ∀ {y : Operand} {t : TypeId} {f : Nat} {cs : List CV} {z : SV}, ev s y = .st cs -> fieldS E.P t f cs = some z -> okV s.own.b.length s.own.l.length z := fun {y t f cs z} hy hf => by
   have := ev_ok hg y; rw [hy] at this; exact fieldS_okV hf this
 have ev6 : ∀ {y z : Array Operand} {fs cs : List CV} {f : FuncId}, cvL (y.toList.map (ev s)) = some fs -> cvL (z.toList.map (ev s)) = some cs -> okV s.own.b.length s.own.l.length (mkFn f fs cs) := fun {y z fs cs f} h1 h2 =>
   mkFn_okV (cvL_okC h1 fun x hx => by obtain ⟨x0, _, rfl⟩ := List.mem_map.mp hx; exact ev_ok hg x0) (cvL_okC h2 fun x hx => by obtain ⟨x0, _, rfl⟩ := List.mem_map.mp hx; exact ev_ok hg x0)
 have ev7 : ∀ {i : Nat} {b : Blk} {t : TypeId} {off : Nat} {y : SV}, getB s i = some b -> loadS E.P t b.cells off = some y -> okV s.own.b.length s.own.l.length y := fun {i b t off y} hb hl => loadS_okV hl (hg.okb i b (getB_some hb).1)
 unfold simRO0 at h
 simp only [cond_eq_ite] at h
 repeat' (first | exact gen h | exact gbin h | (cases h; done) | split at h)
 all_goals (simp only [qS, qP] at h; try obtain ⟨rfl, _⟩ := h)
 all_goals first | exact True.intro | exact ev_ok hg _ | exact ev1 ‹_› | exact ev2 ‹_› | exact ev3 ‹_› | exact ev4 ‹_› | exact ev5 ‹_› ‹_› | exact ev6 ‹_› ‹_› | exact ev7 ‹_› ‹_› | exact ev8 ‹_› ‹_› | exact ev9 ‹_› ‹_› | exact gen ‹_› | exact buildS_okV ‹_› hg | skip
theorem simCV_some {E : Env} {o : Oper} {s : St} {x : SV} {c : Bool} {q : List (Bool × Bool)} (h : simCV E o s = some (x, c, q)) : ∃ t t' y k e et, o.op = .convert t t' y /\ ev s y = .c k /\ getL s k = some e /\ E.P.underlying t = some (.slice et) /\ E.P.underlying t' = some .string /\ E.P.underlying et = some (.int .u8) /\ e.size = 1 /\
   x = .inl ([true], .string (strZ e.n e.el)) /\ c = false /\ q = [(pre (bytesB e.n e.el), true)] := by
 unfold simCV at h
 split at h
 . rename_i t t' y ho
   split at h
   . rename_i k hy
     split at h
     . rename_i e et hk hu hu'
       split at h
       . rename_i he
         cases hb : Nat.beq e.size 1
         . rw [hb] at h; cases h
         . rw [hb] at h
           simp only [cond_true, qS, qP] at h
           exact ⟨t, t', y, k, e, et, ho, hy, hk, hu, hu', he, qB hb, h.1.symm, h.2.1.symm, h.2.2.symm⟩
       . cases h
     . cases h
   . cases h
 . cases h
theorem simMV_some {E : Env} {o : Oper} {s : St} {x : SV} {c : Bool} {q : List (Bool × Bool)} (h : simMV E o s = some (x, c, q)) : ∃ t y ix ok i f a b kt et T l ti z u, o.op = .lookup t y ix ok /\ ev s y = .mp i /\ ev s ix = .inl (f, .int .i64 a) /\ s.own.b[i]? = some b /\ E.P.underlying t = some (.map kt et) /\ b.kd = .map T l /\ E.P.underlying kt = some (.int .i64) /\ E.P.info? et = some ti /\ ti.zero = some z /\ formV z (lokZ l a z) = some u /\
   x = (bif ok then .tp [.inl (List.replicate z.cells.size true, u), .inl ([true], .bool (hasZ l a))] else .inl (List.replicate z.cells.size true, u)) /\ c = false /\ q = [(pre (fmtB l z), true), (pre (inI a), true)] := by
 unfold simMV at h
 split at h
 . rename_i t y ix ok ho
   split at h
   . rename_i i f a hy hix
     split at h
     . rename_i b kt et hb hu
       split at h
       . rename_i T l ti hkd hk hi
         split at h
         . rename_i z hz
           split at h
           . rename_i u hv
             refine ⟨t, y, ix, ok, i, f, a, b, kt, et, T, l, ti, z, u, ho, hy, hix, hb, hu, hkd, hk, hi, hz, hv, ?_⟩
             cases ok
             . simp only [cond_false, qS, qP] at h ⊢
               exact ⟨h.1.symm, h.2.1.symm, h.2.2.symm⟩
             . simp only [cond_true, qS, qP] at h ⊢
               exact ⟨h.1.symm, h.2.1.symm, h.2.2.symm⟩
           . cases h
         . cases h
       . cases h
     . cases h
   . cases h
 . cases h
theorem simMW_some {E : Env} {o : Oper} {s : St} {x : SV} {c : Bool} {q : List (Bool × Bool)} (h : simMW E o s = some (x, c, q)) : ∃ t y ix ok i f a b kt et T l ti z u, o.op = .lookup t y ix ok /\ ev s y = .mp i /\ ev s ix = .inl (f, a) /\ s.own.b[i]? = some b /\ E.P.underlying t = some (.map kt et) /\ b.kd = .mapV T l /\ E.P.info? et = some ti /\ ti.zero = some z /\ formV z (lokV l a z) = some u /\
   x = (bif ok then .tp [.inl (List.replicate z.cells.size true, u), .inl ([true], .bool (hasV l a))] else .inl (List.replicate z.cells.size true, u)) /\ c = false /\ q = [(pre (fmtVB l z), true), (pre (keysB E.P kt a l), true)] := by
 unfold simMW at h
 split at h
 . rename_i t y ix ok ho
   split at h
   . rename_i i f a hy hix
     split at h
     . rename_i b kt et hb hu
       split at h
       . rename_i T l ti hkd hi
         split at h
         . rename_i z hz
           split at h
           . rename_i u hv
             refine ⟨t, y, ix, ok, i, f, a, b, kt, et, T, l, ti, z, u, ho, hy, hix, hb, hu, hkd, hi, hz, hv, ?_⟩
             cases ok
             . simp only [cond_false, qS, qP] at h ⊢
               exact ⟨h.1.symm, h.2.1.symm, h.2.2.symm⟩
             . simp only [cond_true, qS, qP] at h ⊢
               exact ⟨h.1.symm, h.2.1.symm, h.2.2.symm⟩
           . cases h
         . cases h
       . cases h
     . cases h
   . cases h
 . cases h
theorem intsAt_ok {k : IntKind} {ν : Nu} : ∀ {cs : List SV} {xs : List Int}, intsAt k cs = some xs -> concB ν cs = xs.map (Value.int k)
 | [], xs, h => by simp only [intsAt, qS] at h; subst h; rfl
 | .inl (_, v) :: r, xs, h => by
   unfold intsAt at h
   split at h
   . rename_i e; cases e
   . rename_i j x r' e
     cases e
     cases hk : decide (j = k)
     . rw [hk] at h; cases h
     . rw [hk] at h
       simp only [cond_true] at h
       split at h
       . rename_i l hl
         simp only [qS] at h
         subst h
         have := of_decide_eq_true hk
         subst this
         show Value.int j x :: concB ν _ = _
         rw [intsAt_ok hl]; rfl
       . cases h
   . cases h
 | .inr _ :: _, xs, h => by simp [intsAt] at h
 | .c _ :: _, xs, h => by simp [intsAt] at h
 | .lp _ _ _ _ :: _, xs, h => by simp [intsAt] at h
 | .tp _ :: _, xs, h => by simp [intsAt] at h
 | .fn _ _ _ :: _, xs, h => by simp [intsAt] at h
 | .sub _ _ _ _ :: _, xs, h => by simp [intsAt] at h
 | .st _ :: _, xs, h => by simp [intsAt] at h
 | .mp _ :: _, xs, h => by simp [intsAt] at h
 | .ia _ _ _ _ :: _, xs, h => by simp [intsAt] at h
 | .rp _ _ _ _ :: _, xs, h => by simp [intsAt] at h
 | .any :: _, xs, h => by simp [intsAt] at h
theorem intsV_ok {k : IntKind} : ∀ {vs : List Value} {xs : List Int}, intsV k vs = some xs -> vs = xs.map (Value.int k)
 | [], xs, h => by simp only [intsV, qS] at h; subst h; rfl
 | v :: r, xs, h => by
   unfold intsV at h
   split at h
   . rename_i e; cases e
   . rename_i j x r' e
     cases e
     cases hk : decide (j = k)
     . rw [hk] at h; cases h
     . rw [hk] at h
       simp only [cond_true] at h
       split at h
       . rename_i l hl
         simp only [qS] at h
         subst h
         have := of_decide_eq_true hk
         subst this
         rw [List.map_cons, intsV_ok hl]
       . cases h
   . cases h
inductive IV (E : Env) (o : Oper) (s : St) : SV -> Bool -> List (Bool × Bool) -> Prop
 | at_ {t x ix i off g k n len e ti} (ho : o.op = .indexAddr t x ix) (hx : ev s x = .inr (i, off, none)) (hix : ev s ix = .inl (g, .int k n)) (hu : E.P.underlying t = some (.array len e)) (hi : E.P.info? e = some ti) (hs : ti.size = 1) : IV E o s (.ia i off len n) false [(pre (idxB n len), true)]
 | get {t x i off len n b k ti xs} (ho : o.op = .load t x) (hx : ev s x = .ia i off len n) (hb : getB s i = some b) (hu : E.P.underlying t = some (.int k)) (hi : E.P.info? t = some ti) (hxs : intsAt k ((b.cells.drop off).take len) = some xs) (hl : xs.length = len) : IV E o s (.inl ([true], .int k (pickZ xs n))) false [(pre (idxB n len), true)]
 | gat {t x ix f gl off g k n len e ti} (ho : o.op = .indexAddr t x ix) (hx : ev s x = .inl (f, .pointer (some ⟨gl, off, none⟩))) (hix : ev s ix = .inl (g, .int k n)) (hu : E.P.underlying t = some (.array len e)) (hi : E.P.info? e = some ti) (hs : ti.size = 1) : IV E o s (.inl ([true], .pointer (some ⟨gl, off + n.toNat, none⟩))) false [(pre (idxB n len), true)]
 | gget {t x f g o' cs k ti xs} (ho : o.op = .load t x) (hx : ev s x = .inl (f, .pointer (some ⟨g, o', none⟩))) (hg : E.glob g = some cs) (hu : E.P.underlying t = some (.int k)) (hi : E.P.info? t = some ti) (hxs : intsV k cs = some xs) : IV E o s (.inl ([true], .int k (pickZ xs (o' : Nat)))) false [(pre (decide (o' < xs.length)), true)]
 | eq {t x y yt f g a b len e k ti xs ys} (ho : o.op = .binOp .eql t x y yt) (hx : ev s x = .inl (f, .agg a)) (hy : ev s y = .inl (g, .agg b)) (hu : E.P.underlying t = some (.array len e)) (he : E.P.underlying e = some (.int k)) (hi : E.P.info? e = some ti) (hxs : intsV k a.toList = some xs) (hys : intsV k b.toList = some ys) (hlx : xs.length = len) (hly : ys.length = len) (hs : ti.size = 1) (hg : E.P.eqGuardType E.P.depth t = false) : IV E o s (.inl ([true], .bool (eqLZ xs ys))) false []
theorem simIV_some {E : Env} {o : Oper} {s : St} {x : SV} {c : Bool} {q : List (Bool × Bool)} (h : simIV E o s = some (x, c, q)) : IV E o s x c q := by
 unfold simIV at h
 split at h
 . rename_i t x' ix ho
   cases hm : E.mks
   . rw [hm] at h; cases h
   . rw [hm] at h
     simp only [cond_true] at h
     split at h
     . rename_i i off g k n len e hx hix hu
       cases hf : anyF g
       . rw [hf] at h; cases h
       . rw [hf] at h
         simp only [cond_true] at h
         split at h
         . rename_i ti hi
           cases hs : Nat.beq ti.size 1
           . rw [hs] at h; cases h
           . rw [hs] at h
             simp only [cond_true, qS, qP] at h
             obtain ⟨rfl, rfl, rfl⟩ := h
             exact .at_ ho hx hix hu hi (qB hs)
         . cases h
     . rename_i f gl off g k n len e hx hix hu
       cases hf : anyF g
       . rw [hf] at h; cases h
       . rw [hf] at h
         simp only [cond_true] at h
         split at h
         . rename_i ti hi
           cases hs : Nat.beq ti.size 1
           . rw [hs] at h; cases h
           . rw [hs] at h
             simp only [cond_true, qS, qP] at h
             obtain ⟨rfl, rfl, rfl⟩ := h
             exact .gat ho hx hix hu hi (qB hs)
         . cases h
     . cases h
 . rename_i t x' ho
   split at h
   . rename_i i off len n hx
     split at h
     . rename_i b k ti hb hu hi
       split at h
       . rename_i xs hxs
         cases hs : Nat.beq xs.length len
         . rw [hs] at h; cases h
         . rw [hs] at h
           simp only [cond_true, qS, qP] at h
           obtain ⟨rfl, rfl, rfl⟩ := h
           exact .get ho hx hb hu hi hxs (qB hs)
       . cases h
     . cases h
   . rename_i f g o' hx
     cases hm : (E.mks && anyF f)
     . rw [hm] at h; cases h
     . rw [hm] at h
       simp only [cond_true] at h
       split at h
       . rename_i cs k ti hg hu hi
         split at h
         . rename_i xs hxs
           simp only [qS, qP] at h
           obtain ⟨rfl, rfl, rfl⟩ := h
           exact .gget ho hx hg hu hi hxs
         . cases h
       . cases h
   . cases h
 . rename_i t x' y' yt ho
   cases hm : E.mks
   . rw [hm] at h; cases h
   . rw [hm] at h
     simp only [cond_true] at h
     split at h
     . rename_i f a g b len e hx hy hu
       split at h
       . rename_i k ti he hi
         split at h
         . rename_i xs ys hxs hys
           cases hs : (Nat.beq xs.length len && Nat.beq ys.length len && Nat.beq ti.size 1 && !E.P.eqGuardType E.P.depth t)
           . rw [hs] at h; cases h
           . rw [hs] at h
             simp only [cond_true, qS, qP] at h
             obtain ⟨rfl, rfl, rfl⟩ := h
             simp only [Bool.and_eq_true, Bool.not_eq_true'] at hs
             exact .eq ho hx hy hu he hi hxs hys (qB hs.1.1.1) (qB hs.1.1.2) (qB hs.1.2) hs.2
         . cases h
       . cases h
     . cases h
 . cases h
inductive RPIs (E : Env) (o : Oper) (s : St) : SV -> List (Bool × Bool) -> Prop where
 | at_ {t x ix f v g k n R et i} (ho : o.op = .indexAddr t x ix) (hR : E.rowT t = some R) (hx : ev s x = .inl (f, v)) (hix : ev s ix = .inl (g, .int k n)) (hu : E.P.underlying t = some (.slice et)) (hi : E.P.info? et = some i) (hs : i.size = (R v).size) : RPIs E o s (.rp v (R v) n.toNat 0) [(pre (rowB E.glob v (R v)), true), (pre (idxB n (R v).n), true)]
 | fld {t x f v e j p p'} (ho : o.op = .fieldAddr t x f) (hx : ev s x = .rp v e j p) (hf : fieldB E.P t f p = some p') : RPIs E o s (.rp v e j p') [(pre (rowB E.glob v e), true), (pre (decide (j < e.n)), true)]
 | get {t x v e j p u} (ho : o.op = .load t x) (hx : ev s x = .rp v e j p) (hl : loadB E.P t (e.el j) p = some u) : RPIs E o s (.inl (List.replicate u.cells.size true, u)) [(pre (rowB E.glob v e), true), (pre (decide (j < e.n)), true)]
 | len {az ats x t f v R et} (ho : o.op = .call { callee := .builtin .len, args := az, argTypes := ats }) (h1 : az.toList = [x]) (h2 : ats.toList = [t]) (hR : E.rowT t = some R) (hx : ev s x = .inl (f, v)) (hu : E.P.underlying t = some (.slice et)) : RPIs E o s (.inl ([true], .int .i64 (R v).n)) [(pre (rowB E.glob v (R v)), true)]
theorem simRP_some {E : Env} {o : Oper} {s : St} {x : SV} {c : Bool} {q : List (Bool × Bool)} (h : simRP E o s = some (x, c, q)) : c = false /\ RPIs E o s x q := by
 unfold simRP at h
 split at h
 . rename_i t x' ix ho
   split at h
   . rename_i R f v g k n hR hx hix
     split at h
     . rename_i et hu
       split at h
       . rename_i i hi
         cases hs : Nat.beq i.size (R v).size
         . rw [hs] at h; cases h
         . rw [hs] at h
           simp only [cond_true, qS, qP] at h
           obtain ⟨rfl, rfl, rfl⟩ := h
           exact ⟨rfl, .at_ ho hR hx hix hu hi (qB hs)⟩
       . cases h
     . cases h
   . cases h
 . rename_i t x' f ho
   split at h
   . rename_i v e j p hx
     split at h
     . rename_i p' hf
       simp only [qS, qP] at h
       obtain ⟨rfl, rfl, rfl⟩ := h
       exact ⟨rfl, .fld ho hx hf⟩
     . cases h
   . cases h
 . rename_i t x' ho
   split at h
   . rename_i v e j p hx
     split at h
     . rename_i u hl
       simp only [qS, qP] at h
       obtain ⟨rfl, rfl, rfl⟩ := h
       exact ⟨rfl, .get ho hx hl⟩
     . cases h
   . cases h
 . rename_i az ats ho
   split at h
   . rename_i x' t h1 h2
     split at h
     . rename_i R f v et hR hx hu
       simp only [qS, qP] at h
       obtain ⟨rfl, rfl, rfl⟩ := h
       exact ⟨rfl, .len ho h1 h2 hR hx hu⟩
     . cases h
   . cases h
 . cases h
theorem simRO1_st {E : Env} {o : Oper} {s : St} {x : SV} {c : Bool} {q : List (Bool × Bool)} (h : simRO1 E o s = some (x, c, q)) (hg : Good s) : okV s.own.b.length s.own.l.length x := by
 unfold simRO1 at h
 split at h
 . rename_i r hr
   obtain ⟨_, _, _, _, _, _, _, _, _, _, _, _, _, rfl, _⟩ := simCV_some (hr.trans h)
   trivial
 . split at h
   . rename_i r hr
     obtain ⟨_, _, _, ok, _, _, _, _, _, _, _, _, _, _, _, _, _, _, _, _, _, _, _, _, _, rfl, _⟩ := simMV_some (hr.trans h)
     cases ok
     . trivial
     . intro p hp
       rcases List.mem_cons.mp hp with rfl | hp
       . trivial
       . rcases List.mem_cons.mp hp with rfl | hp
         . trivial
         . cases hp
   . split at h
     . rename_i r hr
       cases simIV_some (hr.trans h) with
       | @at_ t x' ix i off g k n len e ti ho hx hix hu hi hs => have := ev_ok hg x'; rw [hx] at this; exact this
       | get => trivial
       | gat => trivial
       | gget => trivial
       | eq => trivial
     . split at h
       . rename_i r hr
         cases (simRP_some (hr.trans h)).2 with
         | at_ => trivial
         | fld => trivial
         | get => trivial
         | len => trivial
       . exact simRO0_st h hg
theorem simRO_st {E : Env} {o : Oper} {s : St} {x : SV} {c : Bool} {q : List (Bool × Bool)} (h : simRO E o s = some (x, c, q)) (hg : Good s) : okV s.own.b.length s.own.l.length x := by
 unfold simRO at h
 split at h
 . rename_i r hr
   obtain ⟨_, _, _, ok, _, _, _, _, _, _, _, _, _, _, _, _, _, _, _, _, _, _, _, _, rfl, _⟩ := simMW_some (hr.trans h)
   cases ok
   . trivial
   . intro p hp
     rcases List.mem_cons.mp hp with rfl | hp
     . trivial
     . rcases List.mem_cons.mp hp with rfl | hp
       . trivial
       . cases hp
 . exact simRO1_st h hg
theorem fieldB_add {P : Program} {t : TypeId} {f o o' : Nat} (h : fieldB P t f o = some o') (c : Nat) : fieldB P t f (c + o) = some (c + o') := by
 unfold fieldB at *
 split at h
 . split at h
   . split at h
     . rename_i i hi
       cases hb : Nat.beq i.size 0
       . rw [hb] at h
         simp only [cond_false, qS] at h
         simp only [hb, cond_false, qS]
         omega
       . rw [hb] at h; cases h
     . cases h
   . cases h
 . cases h
theorem run_loadAt {P : Program} {t : TypeId} {cs : List Value} {off b o : Nat} {v : Value} (h : loadB P t cs off = some v) (w : World)
   (hc : ∀ (i : Nat) u, cs[i]? = some u -> w.cell? ⟨b, o + i, none⟩ = some u) : (loadVar t ⟨b, o + off, none⟩).run P w = .ok v w := by
 unfold loadB at h
 cases hu : P.underlying t with
 | none => simp [hu] at h
 | some d =>
   cases hi : P.info? t with
   | none => simp [hu, hi] at h
   | some i =>
     simp only [hu, hi] at h
     have hagg : (isAgg t).run P w = .ok (aggD d) w := by
       unfold isAgg
       rw [Sem.run_bind, run_underlying hu w]
       cases d <;> rfl
     cases hd : aggD d
     . rw [hd] at h
       simp only [cond_false] at h
       have h0 := hc off v h
       simp only [loadVar, Sem.run_bind, hagg, hd, Result.andThen_ok, Bool.false_eq_true, if_false, run_load, h0]
     . rw [hd] at h
       simp only [cond_true] at h
       cases hb : Nat.ble (off + i.size) cs.length
       . rw [hb] at h; cases h
       . rw [hb] at h
         simp only [cond_true, qS] at h
         have hle : off + i.size <= cs.length := Nat.le_of_ble_eq_true hb
         have hl : ((cs.drop off).take i.size).length = i.size := by simp; omega
         have hrun := run_loadCells_list (P := P) w ⟨b, o + off, none⟩ ((cs.drop off).take i.size) (fun j u hj => by
           rw [add_plain, Nat.add_assoc]
           refine hc _ _ ?_
           rw [List.getElem?_take] at hj
           split at hj
           . rw [List.getElem?_drop] at hj; exact hj
           . cases hj)
         rw [hl] at hrun
         simp only [loadVar, Sem.run_bind, hagg, hd, Result.andThen_ok, if_true, sizeOf, typeInfo, run_program, hi, Sem.run_pure, hrun, h]
theorem boundS_ok {n : Nat} {ν : Nu} {s : St} {a : Act} (ht : TR n ν s a) {d : Nat} {x : Option Operand} {l : Int} (h : boundS s d x = some l) : (x = none /\ l = d) \/ ∃ k, x.map a.eval = some (.int k l) := by
 unfold boundS at h
 split at h
 . simp only [qS] at h
   exact .inl ⟨rfl, h.symm⟩
 . split at h
   . rename_i y fl k m he
     simp only [qS] at h
     subst h
     exact .inr ⟨k, by rw [Option.map_some, eval_v ht he]⟩
   . cases h
theorem run_sliceE {P : Program} {t : TypeId} {i : TypeInfo} (hu : P.underlying t = some (.slice (P.elem t))) (hi : P.info? (P.elem t) = some i) {a : Option Addr} {len cap : Nat} {lo hi' : Option Value} {l h : Int} (hl : (lo = none /\ l = 0) \/ ∃ k, lo = some (.int k l)) (hh : (hi' = none /\ h = len) \/ ∃ k, hi' = some (.int k h))
   (h0 : 0 <= l) (h1 : l <= h) (h2 : h <= len) (hc : len <= cap) (w : World) : (Instr.sliceAt t (.slice a len cap) lo hi' none).run P w = .ok (subOf (.slice a len cap) l.toNat (h.toNat - l.toNat) i.size) w := by
 have hs : (sizeOf (P.elem t)).run P w = .ok i.size w := by simp [sizeOf, typeInfo, hi]
 rw [run_sliceAt_slice (h := hu)]
 rcases hl with ⟨rfl, rfl⟩ | ⟨kl, rfl⟩
 . rcases hh with ⟨rfl, rfl⟩ | ⟨kh, rfl⟩
   . rw [run_slice_all (ht := hu), hs]; simp [Result.andThen, sliced, subOf]
   . rw [run_slice_h (ht := hu) (h0 := by omega) (h2 := by omega), hs]; simp [Result.andThen, sliced, subOf]
 . rcases hh with ⟨rfl, rfl⟩ | ⟨kh, rfl⟩
   . rw [run_slice_l (ht := hu) (h0 := h0) (h1 := by omega), hs]; simp [Result.andThen, sliced, subOf]
   . rw [run_slice_lh (ht := hu) (h0 := h0) (h1 := h1) (h2 := by omega), hs]; simp [Result.andThen, sliced, subOf]
theorem run_sliceS {P : Program} {t : TypeId} (hu : P.underlying t = some .string) {sa : ByteArray} {lo hi' : Option Value} {l h : Int} (hl : (lo = none /\ l = 0) \/ ∃ k, lo = some (.int k l)) (hh : (hi' = none /\ h = sa.size) \/ ∃ k, hi' = some (.int k h))
   (h0 : 0 <= l) (h1 : l <= h) (h2 : h <= sa.size) (w : World) : (Instr.sliceAt t (.string sa) lo hi' none).run P w = .ok (.string (sa.extract l.toNat h.toNat)) w := by
 rw [run_sliceAt_string (h := hu)]
 have e : (h.toNat : Int) = h := Int.toNat_of_nonneg (by omega)
 rcases hl with ⟨rfl, rfl⟩ | ⟨kl, rfl⟩
 . rcases hh with ⟨rfl, rfl⟩ | ⟨kh, rfl⟩
   . simp [Instr.slice, run_underlying hu, Instr.sliceBounds]
   . simp [Instr.slice, run_underlying hu, Instr.sliceBounds, run_sliceBound, show 0 <= h by omega, h2]
 . rcases hh with ⟨rfl, rfl⟩ | ⟨kh, rfl⟩
   . simp [Instr.slice, run_underlying hu, Instr.sliceBounds, run_sliceBound, h0, h1]
   . simp [Instr.slice, run_underlying hu, Instr.sliceBounds, run_sliceBound, h0, show 0 <= h by omega, h2, e, h1]
theorem simRO0_ok {E : Env} {o : Oper} {s : St} {x : SV} {c : Bool} {q : List (Bool × Bool)} {n : Nat} {ν : Nu} {a : Act} {w0 : Base} {mem : Bool} (h : simRO0 E o s = some (x, c, q)) (hq : ∀ p ∈ q, p.1 = p.2) (ht : TR n ν s a) (hG : GlobB E w0) (hV : okV s.own.b.length s.own.l.length x) : Does E o a (fun w => WR w0 ν s.own mem w) (Is ν x) c := by
 unfold simRO0 at h
 split at h
 . rename_i x' ho
   simp only [qS, qP] at h
   obtain ⟨rfl, rfl, _⟩ := h
   exact .val (eval_is ht x') fun w _ => by simp only [execOp, ho, Sem.run_pure]
 . rename_i x' ho
   simp only [qS, qP] at h
   obtain ⟨rfl, rfl, _⟩ := h
   exact .val (eval_is ht x') fun w _ => by simp only [execOp, ho, Sem.run_pure]
 . rename_i x' ho
   split at h
   . rename_i i off hx
     simp only [qS, qP] at h
     obtain ⟨rfl, rfl, _⟩ := h
     have he := eval_own ht hx
     exact .val (v := .pointer (some ⟨ν.l i, off, none⟩)) rfl fun w _ => by simp only [execOp, ho, he, Sem.run_pure]
   . exact generic_ok _ h ht
   . cases h
 . rename_i t x' ho
   split at h
   . rename_i i off hx
     split at h
     . rename_i b hb
       split at h
       . rename_i v hv
         simp only [qS, qP] at h
         obtain ⟨rfl, rfl, _⟩ := h
         have he := eval_own ht hx
         obtain ⟨hne, hv⟩ := loadS_ok hv ν
         refine .val (v := conc ν v) (by cases v <;> first | rfl | exact absurd rfl hne) fun w hw => ?_
         have hl := run_loadB (g := ν.l i) hv w (cells_of_blk ((hw.blk i b (getB_some hb).1).1.cells (getB_some hb).2))
         simp only [execOp, ho, he, Instr.loadAt, Instr.sureAddr, Sem.run_bind, Sem.run_pure, Result.andThen_ok, hl]
       . cases h
     . cases h
   . rename_i fl g off hx
     split at h
     . rename_i cs hg
       split at h
       . rename_i v hv
         simp only [qS, qP] at h
         obtain ⟨rfl, rfl, _⟩ := h
         have he := eval_v ht hx
         refine .val (v := v) rfl fun w hw => ?_
         have hl := run_loadB (g := g) hv w (hG.below hw.below g cs hg).1
         simp only [execOp, ho, he, Instr.loadAt, Instr.sureAddr, Sem.run_bind, Sem.run_pure, Result.andThen_ok, hl]
       . cases h
     . cases h
   . rename_i k j p sz hx
     split at h
     . rename_i e he0
       obtain ⟨hk, hd⟩ := getL_some he0
       split at h
       . rename_i v hv
         cases hb : Nat.beq sz e.size
         . rw [hb] at h; cases h
         . rw [hb] at h
           simp only [cond_true, qS, qP] at h
           obtain ⟨rfl, rfl, rfl⟩ := h
           have hsz := qB hb
           have hlt : j < e.n := by have := hq (pre (decide (j < e.n)), true) (by simp); simpa [pre] using this
           have he := eval_lp ht hx
           refine .val (v := v) rfl fun w hw => ?_
           obtain ⟨_, aa, cap, hv0, _, hc0⟩ := hw.inB hk hd
           obtain ⟨b, off, rfl, hb, hc⟩ := hc0 (by omega)
           rw [hv0] at he
           have hl := run_loadAt (b := b) (o := off + j * e.size) hv w (hc j hlt)
           simp only [placeOf, hsz, <- Nat.add_assoc] at he
           simp only [execOp, ho, he, Instr.loadAt, Instr.sureAddr, Sem.run_bind, Sem.run_pure, Result.andThen_ok, hl]
       . cases h
     . cases h
   . cases h
 . rename_i t x' f ho
   split at h
   . rename_i i off hx
     split at h
     . rename_i off' hf
       simp only [qS, qP] at h
       obtain ⟨rfl, rfl, _⟩ := h
       have he := eval_own ht hx
       refine .val (v := .pointer (some ⟨ν.l i, off', none⟩)) rfl fun w hw => ?_
       have hl := run_fieldB (g := ν.l i) hf w
       simp only [execOp, ho, he, Sem.run_bind, hl, Result.andThen_ok, Sem.run_pure]
     . cases h
   . rename_i k j p sz hx
     split at h
     . rename_i e o' he0 hf
       obtain ⟨hk, hd⟩ := getL_some he0
       cases hb : Nat.beq sz e.size
       . rw [hb] at h; cases h
       . rw [hb] at h
         simp only [cond_true, qS, qP] at h
         obtain ⟨rfl, rfl, rfl⟩ := h
         have hlt : j < e.n := by have := hq (pre (decide (j < e.n)), true) (by simp); simpa [pre] using this
         have he := eval_lp ht hx
         refine ⟨placeOf (ν.v k) (j * sz + o'), rfl, .inl ⟨rfl, fun w hw => ?_⟩⟩
         obtain ⟨_, aa, cap, hv0, _, hc0⟩ := hw.inB hk hd
         obtain ⟨b, off, rfl, hb, hc⟩ := hc0 (by omega)
         rw [hv0] at he ⊢
         simp only [placeOf, <- Nat.add_assoc] at he ⊢
         have hl := run_fieldB (g := b) (fieldB_add hf (off + j * sz)) w
         simp only [execOp, ho, he, Sem.run_bind, hl, Result.andThen_ok, Sem.run_pure]
     . cases h
   . exact generic_ok _ h ht
   . cases h
 . rename_i t x' ix ho
   split at h
   . rename_i i off fl k m hx hix
     split at h
     . rename_i len e hu
       split at h
       . rename_i off' hf
         simp only [qS, qP] at h
         obtain ⟨rfl, rfl, _⟩ := h
         have he := eval_own ht hx
         have hei := eval_v ht hix
         refine .val (v := .pointer (some ⟨ν.l i, off', none⟩)) rfl fun w hw => ?_
         have hl := (run_elemB (P := E.P) (t := t) (g := ν.l i) (k := k) hf w).1 hu
         simp only [execOp, ho, he, hei, Sem.run_bind, hl, Result.andThen_ok, Sem.run_pure]
       . cases h
     . cases h
   . rename_i i off len cap fl k m hx hix
     split at h
     . rename_i e hu
       split at h
       . rename_i off' hf
         simp only [qS, qP] at h
         obtain ⟨rfl, rfl, _⟩ := h
         have he := eval_sl ht hx
         have hei := eval_v ht hix
         refine .val (v := .pointer (some ⟨ν.l i, off', none⟩)) rfl fun w hw => ?_
         have hl := (run_elemB (P := E.P) (t := t) (g := ν.l i) (k := k) hf w).2 hu cap
         simp only [execOp, ho, he, hei, Sem.run_bind, hl, Result.andThen_ok, Sem.run_pure]
       . cases h
     . cases h
   . rename_i k fl kk m hx hix
     split at h
     . rename_i e et he0 hu
       obtain ⟨hk, hd⟩ := getL_some he0
       split at h
       . rename_i i hi
         cases hb : Nat.beq i.size e.size
         . rw [hb] at h; cases h
         . rw [hb] at h
           simp only [cond_true, qS, qP] at h
           obtain ⟨rfl, rfl, rfl⟩ := h
           have hsz := qB hb
           have hidx : 0 <= m /\ m < (e.n : Int) := by have := hq (pre (idxB m e.n), true) (by simp); simpa [pre, idxB] using this
           have he := eval_c ht hx
           have hei := eval_v ht hix
           refine ⟨placeOf (ν.v k) (m.toNat * e.size + 0), rfl, .inl ⟨rfl, fun w hw => ?_⟩⟩
           obtain ⟨_, aa, cap, hv0, _, hc0⟩ := hw.inB hk hd
           obtain ⟨b, off, rfl, hb, hc⟩ := hc0 (by omega)
           rw [hv0] at he ⊢
           have hel : elemB E.P et e.n off m = some (off + m.toNat * i.size) := by unfold elemB; rw [hi]; simp only [decide_eq_true hidx, cond_true]
           have hl := (run_elemB (P := E.P) (t := t) (g := b) (k := kk) hel w).2 hu cap
           simp only [placeOf, Nat.add_zero, <- hsz]
           simp only [execOp, ho, he, hei, Sem.run_bind, hl, Result.andThen_ok, Sem.run_pure]
       . cases h
     . cases h
   . exact generic_ok _ h ht
 . rename_i op t x' y' yt ho
   exact binS_ok _ ho h hq ht
 . rename_i t parts ho
   split at h
   . rename_i fl v c' hgen
     simp only [qS, qP] at h
     obtain ⟨rfl, rfl, _⟩ := h
     exact generic_ok (x := .inl (fl, v)) _ hgen ht
   . rename_i r hne hgen
     simp only [qS] at h
     subst h
     exact generic_ok _ hgen ht
   . split at h
     . rename_i y hy
       simp only [qS, qP] at h
       obtain ⟨rfl, rfl, _⟩ := h
       refine ⟨conc ν y, Is_of (buildS_any hy) rfl, .inl ⟨rfl, fun w hw => ?_⟩⟩
       have hr : (Instr.build t (parts.map fun (i, x) => (i, a.eval x))).run E.P w = .ok (conc ν y) w := (buildS_ok hy ht hw).2
       simp only [execOp, ho, Sem.run_bind, hr, Result.andThen_ok, Sem.run_pure]
     . cases h
 . rename_i t x' f ho
   split at h
   . rename_i cs hx
     split at h
     . rename_i y hf
       simp only [qS, qP] at h
       obtain ⟨rfl, rfl, _⟩ := h
       obtain ⟨hne, hr⟩ := fieldS_ok hf ν
       have he : a.eval x' = .agg (cs.map (concC ν)).toArray := eval_ev ht hx (by simp)
       refine ⟨conc ν y, Is_of hne rfl, .inl ⟨rfl, fun w hw => ?_⟩⟩
       simp only [execOp, ho, he, Sem.run_bind, hr w, Result.andThen_ok, Sem.run_pure]
     . cases h
   . split at h
     . rename_i fl v c' hgen
       simp only [qS, qP] at h
       obtain ⟨rfl, rfl, _⟩ := h
       exact generic_ok (x := .inl (fl, v)) _ hgen ht
     . exact generic_ok _ h ht
 . rename_i x' i ho
   split at h
   . rename_i l hx
     have he := eval_tp ht hx
     split at h
     . rename_i p hl
       simp only [qS, qP] at h
       obtain ⟨rfl, rfl, _⟩ := h
       refine .val (v := p.2) rfl fun w hw => ?_
       have : ((l.map (concT ν)).toArray)[i]? = some p.2 := by simp [hl, concT]
       simp [execOp, ho, he, Instr.extract, this]
     . rename_i k hl
       simp only [qS, qP] at h
       obtain ⟨rfl, rfl, _⟩ := h
       refine .val (v := ν.v k) rfl fun w hw => ?_
       have : ((l.map (concT ν)).toArray)[i]? = some (ν.v k) := by simp [hl, concT]
       simp [execOp, ho, he, Instr.extract, this]
     . rename_i cs hl
       simp only [qS, qP] at h
       obtain ⟨rfl, rfl, _⟩ := h
       refine .val (v := .agg (cs.map (concC ν)).toArray) rfl fun w hw => ?_
       have : ((l.map (concT ν)).toArray)[i]? = some (.agg (cs.map (concC ν)).toArray) := by simp [hl, concT]
       simp [execOp, ho, he, Instr.extract, this]
     . cases h
   . exact generic_ok _ h ht
 . rename_i t x' lo hi' ho
   split at h
   . rename_i k hx
     split at h
     . rename_i e et he0 hu
       obtain ⟨hk, hd⟩ := getL_some he0
       split at h
       . rename_i i l hh hi hl hhh
         cases hb : (Nat.beq i.size e.size && Nat.beq (E.P.elem t) et)
         . rw [hb] at h; cases h
         . rw [hb] at h
           simp only [cond_true, qS, qP] at h
           obtain ⟨rfl, rfl, rfl⟩ := h
           simp only [Bool.and_eq_true] at hb
           have hsz := qB hb.1
           have het := qB hb.2
           subst het
           have hr : 0 <= l /\ l <= hh /\ hh <= (e.n : Int) := by have := hq (pre (decide (0 <= l /\ l <= hh /\ hh <= (e.n : Int))), true) (by simp); simpa [pre] using this
           have he := eval_c ht hx
           refine .val (v := subOf (ν.v k) l.toNat (hh.toNat - l.toNat) e.size) rfl fun w hw => ?_
           obtain ⟨_, aa, cap, hv0, hcap, _⟩ := hw.inB hk hd
           rw [hv0] at he ⊢
           rw [<- hsz]
           have hbl : (lo.map a.eval = none /\ l = 0) \/ ∃ k, lo.map a.eval = some (.int k l) := by
             rcases boundS_ok ht hl with ⟨rfl, rfl⟩ | h'
             . exact .inl ⟨rfl, rfl⟩
             . exact .inr h'
           have hbh : (hi'.map a.eval = none /\ hh = e.n) \/ ∃ k, hi'.map a.eval = some (.int k hh) := by
             rcases boundS_ok ht hhh with ⟨rfl, rfl⟩ | h'
             . exact .inl ⟨rfl, rfl⟩
             . exact .inr h'
           have hrun := run_sliceE hu hi (a := aa) (cap := cap) hbl hbh hr.1 hr.2.1 hr.2.2 hcap w
           simp only [execOp, ho, he, Sem.run_bind, hrun, Result.andThen_ok, Sem.run_pure, Option.map_none]
       . cases h
     . cases h
   . rename_i fl sa hx
     cases hop : openS s o.op.operands.toList
     . rw [hop] at h; exact generic_ok _ h ht
     . rw [hop] at h
       simp only [cond_true] at h
       split at h
       . rename_i l hh hu hl hhh
         simp only [qS, qP] at h
         obtain ⟨rfl, rfl, rfl⟩ := h
         have hr : 0 <= l /\ l <= hh /\ hh <= (sa.size : Int) := by have := hq (pre (decide (0 <= l /\ l <= hh /\ hh <= (sa.size : Int))), true) (by simp); simpa [pre] using this
         have he := eval_v ht hx
         have hbl : (lo.map a.eval = none /\ l = 0) \/ ∃ k, lo.map a.eval = some (.int k l) := by
           rcases boundS_ok ht hl with ⟨rfl, rfl⟩ | h'
           . exact .inl ⟨rfl, rfl⟩
           . exact .inr h'
         have hbh : (hi'.map a.eval = none /\ hh = sa.size) \/ ∃ k, hi'.map a.eval = some (.int k hh) := by
           rcases boundS_ok ht hhh with ⟨rfl, rfl⟩ | h'
           . exact .inl ⟨rfl, rfl⟩
           . exact .inr h'
         refine .val (v := .string (extZ sa l hh)) rfl fun w _ => ?_
         rw [extZ_eq]
         have hrun := run_sliceS hu hbl hbh hr.1 hr.2.1 hr.2.2 w
         simp only [execOp, ho, he, Sem.run_bind, hrun, Result.andThen_ok, Sem.run_pure, Option.map_none]
       . cases h
   . exact generic_ok _ h ht
 . rename_i t x' ix ho
   split at h
   . rename_i fl sa fl' k m hx hix
     cases hop : (anyF fl || anyF fl')
     . rw [hop] at h; exact generic_ok _ h ht
     . rw [hop] at h
       simp only [cond_true] at h
       split at h
       . rename_i hu
         simp only [qS, qP] at h
         obtain ⟨rfl, rfl, rfl⟩ := h
         have hidx : 0 <= m /\ m < (sa.size : Int) := by have := hq (pre (idxB m sa.size), true) (by simp); simpa [pre, idxB] using this
         have he := eval_v ht hx
         have hei := eval_v ht hix
         refine .val (v := .int .u8 (chrZ sa m)) rfl fun w _ => ?_
         rw [chrZ_eq]
         have hlt : m.toNat < sa.size := by omega
         have hget : sa[m.toNat]? = some sa[m.toNat] := getElem?_pos sa m.toNat hlt
         simp only [execOp, ho, he, hei, Instr.index, asIntOf, Sem.run_bind, Sem.run_pure, Result.andThen_ok, run_underlying hu, if_pos hidx.1, hget, Option.getD_some]
       . cases h
   . exact generic_ok _ h ht
 . rename_i f first captured ho
   split at h
   . rename_i fs cs hfs hcs
     simp only [qS, qP] at h
     obtain ⟨rfl, rfl, _⟩ := h
     refine .val (v := .func (.func f) (fs.map (concC ν)).toArray (cs.map (concC ν)).toArray) mkFn_is fun w _ => ?_
     have e1 := cvL_conc ht hfs
     have e2 := cvL_conc ht hcs
     simp only [execOp, ho]
     rw [map_eval a first, map_eval a captured, e1, e2]
     rfl
   . cases h
 . rename_i az ats ho
   split at h
   . rename_i x' t hl1 hl2
     have e1 : az = #[x'] := by rw [<- Array.toArray_toList (xs := az), hl1]
     have e2 : ats = #[t] := by rw [<- Array.toArray_toList (xs := ats), hl2]
     split at h
     . rename_i i off len cap e hx hu
       simp only [qS, qP] at h
       obtain ⟨rfl, rfl, _⟩ := h
       refine .val (v := .int .i64 len) rfl fun w hw => ?_
       have he := eval_sl ht hx
       subst e1 e2
       obtain ⟨dst, op, type, pos, after, guard⟩ := o
       simp only at ho
       subst ho
       unfold execOp
       simp [resolve, invoke, builtin, Builtin.len_, he, run_underlying hu, goInt]
     . rename_i k e hx hu
       split at h
       . rename_i e' he0
         obtain ⟨hk, hd⟩ := getL_some he0
         simp only [qS, qP] at h
         obtain ⟨rfl, rfl, _⟩ := h
         refine .val (v := .int .i64 e'.n) rfl fun w hw => ?_
         have he := eval_c ht hx
         obtain ⟨_, aa, cap, hv0, _⟩ := hw.inB hk hd
         rw [hv0] at he
         subst e1 e2
         obtain ⟨dst, op, type, pos, after, guard⟩ := o
         simp only at ho
         subst ho
         unfold execOp
         simp [resolve, invoke, builtin, Builtin.len_, he, run_underlying hu, goInt]
       . cases h
     . exact generic_ok _ h ht
   . exact generic_ok _ h ht
 . rename_i az ats ho
   split at h
   . rename_i x' y' hl1
     have e1 : az = #[x', y'] := by rw [<- Array.toArray_toList (xs := az), hl1]
     split at h
     . rename_i f k m g k' n' hx hy
       cases hop : (anyF f || anyF g)
       . rw [hop] at h; exact generic_ok _ h ht
       . rw [hop] at h
         simp only [cond_true, qS, qP] at h
         obtain ⟨rfl, rfl, _⟩ := h
         refine .val (v := .int k (minZ m n')) rfl fun w hw => ?_
         have hex := eval_v ht hx
         have hey := eval_v ht hy
         subst e1
         obtain ⟨dst, op, type, pos, after, guard⟩ := o
         simp only at ho
         subst ho
         unfold execOp
         simp [resolve, invoke, builtin, Builtin.min_, Builtin.min2, hex, hey, minZ_eq]
     . exact generic_ok _ h ht
   . exact generic_ok _ h ht
 . exact generic_ok _ h ht
theorem range_getD (n : Nat) (g : Nat -> Int) (i : Nat) (hi : i < n) : ((List.range n).map g).getD i 0 = g i := by
 rw [List.getD_eq_getElem?_getD, List.getElem?_map, List.getElem?_range hi]; rfl
theorem idx_of {n : Int} {len : Nat} (h : (pre (idxB n len), true).1 = (pre (idxB n len), true).2) : 0 <= n /\ n < len := by
 have h : pre (idxB n len) = true := h
 have h : idxB n len = true := h
 exact of_decide_eq_true h
theorem elemB_at {P : Program} {e : TypeId} {ti : TypeInfo} {len off : Nat} {n : Int} (hi : P.info? e = some ti) (hs : ti.size = 1) (hn : 0 <= n /\ n < len) : elemB P e len off n = some (off + n.toNat) := by
 unfold elemB
 simp only [hi]
 rw [decide_eq_true hn, hs, Nat.mul_one]; rfl
theorem cells_at {k : IntKind} {cs : List SV} {off len : Nat} {xs : List Int} {ν : Nu} (h : intsAt k ((cs.drop off).take len) = some xs) {j : Nat} (hj : j < xs.length) : (concB ν cs)[off + j]? = some (.int k ((xs[j]?).getD 0)) := by
 have h1 := intsAt_ok (ν := ν) h
 have h2 := congrArg (fun l => l[j]?) h1
 unfold concB at h2 ⊢
 simp only [List.map_take, List.map_drop, List.getElem?_map] at h2
 rw [List.getElem?_eq_getElem hj] at h2 ⊢
 have hjl : j < len := by
   have := congrArg List.length h1
   unfold concB at this
   simp at this
   omega
 rw [List.getElem?_take_of_lt hjl, List.getElem?_drop] at h2
 exact h2
theorem run_sizeOf' {P : Program} (w : World) {e : TypeId} {ti : TypeInfo} (hi : P.info? e = some ti) (hs : ti.size = 1) : (sizeOf e).run P w = .ok 1 w := by
 simp only [sizeOf, typeInfo, Sem.run_bind, run_program, Result.andThen_ok, hi, Sem.run_pure, hs]
theorem all_range_int : ∀ (xs ys : List Int), xs.length = ys.length -> ((List.range xs.length).all fun i => xs.getD i 0 == ys.getD i 0) = (xs == ys)
 | [], [], _ => rfl
 | x :: xs, y :: ys, h => by
   have ih := all_range_int xs ys (by simpa using h)
   rw [List.length_cons, List.range_succ_eq_map, List.all_cons, List.all_map]
   simp only [List.getD_cons_zero, Function.comp_def, List.getD_cons_succ, ih]
   simp [List.cons_beq_cons]
 | [], _ :: _, h => by simp at h
 | _ :: _, [], h => by simp at h
theorem run_equalIn_ints {P : Program} (w : World) (d : Nat) (t e : TypeId) (n : Nat) (k : IntKind) (ht : P.underlying t = some (.array n e)) (he : P.underlying e = some (.int k)) (hsz : ∀ w, (sizeOf e).run P w = .ok 1 w)
   (xs ys : List Int) (hx : xs.length = n) (hy : ys.length = n) :
   (Op.equalIn (d + 2) t (.agg (xs.map (Value.int k)).toArray) (.agg (ys.map (Value.int k)).toArray)).run P w = .ok (xs == ys) w := by
 rw [<- all_range_int xs ys (hx.trans hy.symm), hx, List.range_eq_range', Op.equalIn]
 simp only [Sem.run_bind, run_underlying ht, Result.andThen_ok, hsz, Std.Legacy.Range.forIn_eq_forIn_range', Std.Legacy.Range.size, Nat.sub_zero, Nat.add_sub_cancel, Nat.div_one]
 have hl : ∀ i ∈ List.range' 0 n 1, i < n := fun i hi => by simpa using (List.mem_range'_1.1 hi).2
 generalize List.range' 0 n 1 = l at hl ⊢
 induction l with
 | nil => simp
 | cons i l ih =>
   have hi : i < n := hl i (by simp)
   have px : (part e (xs.map (Value.int k)).toArray (i * 1)).run P w = .ok (.int k (xs.getD i 0)) w := by
     simp [part, isAgg, run_underlying he, List.getD, List.getElem?_eq_getElem (show i < xs.length by omega)]
   have py : (part e (ys.map (Value.int k)).toArray (i * 1)).run P w = .ok (.int k (ys.getD i 0)) w := by
     simp [part, isAgg, run_underlying he, List.getD, List.getElem?_eq_getElem (show i < ys.length by omega)]
   have pe : (Op.equalIn (d + 1) e (.int k (xs.getD i 0)) (.int k (ys.getD i 0))).run P w = .ok (xs.getD i 0 == ys.getD i 0) w := run_equalIn_int w d e k k _ _ he
   simp only [List.forIn_cons, Sem.run_bind, px, py, pe, Result.andThen_ok, List.all_cons]
   cases hb : (xs.getD i 0 == ys.getD i 0)
   . simp
   . simp only [Bool.not_true, Bool.false_eq_true, if_false, Sem.run_pure, Result.andThen_ok, Bool.true_and]
     exact ih fun j hj => hl j (by simp [hj])
theorem wf_inI {k : Int} (h : inI k = true) : (Lit.int .i64 k).wf = true := by
 have h := of_decide_eq_true h
 show (decide (IntKind.min .i64 <= k) && decide (k <= IntKind.max .i64)) = true
 rw [decide_eq_true (show IntKind.min .i64 <= k from h.1), decide_eq_true (show k <= IntKind.max .i64 from h.2)]; rfl
theorem rowG_in {gl : Nat -> Option (List Value)} {w : World} (hG : GlobW gl w) {v : Value} {e : LE} (h : rowG gl v e) : InB w.heap.size w e v := by
 obtain ⟨⟨h1, h2⟩, a, cap, hv, hc, h3⟩ := h
 refine ⟨⟨h1, h2⟩, a, cap, hv, hc, fun hn => ?_⟩
 obtain ⟨b, off, cs, ha, hb, h4⟩ := h3 hn
 have h5 : ∀ j, j < e.n -> ∀ (o : Nat) c, (e.el j)[o]? = some c -> w.cell? ⟨b, off + j * e.size + o, none⟩ = some c := fun j hj o c ho => (hG b cs hb).1 _ _ (h4 j hj o c ho)
 refine ⟨b, off, ha, ?_, h5⟩
 have hl := (h2 0 hn).1
 exact block_lt_of_cell (h5 0 hn 0 _ (List.getElem?_eq_getElem (by omega)))
theorem row_here {E : Env} {w0 : Base} {w : World} (hG : GlobB E w0) (hb : Below w0.heap.size w0.toWorld w) {v : Value} {e : LE} (h : pre (rowB E.glob v e) = true) : InB w.heap.size w e v := rowG_in (GlobW.below hG.glob hb) (rowB_ok.mp h)
theorem simRP_ok {E : Env} {o : Oper} {s : St} {x : SV} {q : List (Bool × Bool)} {n : Nat} {ν : Nu} {a : Act} {w0 : Base} {mem : Bool} (h : RPIs E o s x q) (hq : ∀ p ∈ q, p.1 = p.2) (ht : TR n ν s a) (hG : GlobB E w0) : Does E o a (fun w => WR w0 ν s.own mem w) (Is ν x) false := by
 cases h with
 | @at_ t x' ix f v g k m R et i ho hR hx hix hu hi hs =>
   have h1 := hq (pre (rowB E.glob v (R v)), true) (by simp)
   have hidx := idx_of (hq (pre (idxB m (R v).n), true) (by simp))
   have he := eval_v ht hx
   have hei := eval_v ht hix
   refine .val (v := placeOf v (m.toNat * (R v).size + 0)) rfl fun w hw => ?_
   obtain ⟨_, aa, cap, hv0, _, hc0⟩ := row_here hG hw.below h1
   obtain ⟨b, off, rfl, hb, hc⟩ := hc0 (by omega)
   rw [hv0] at he
   have hel : elemB E.P et (R v).n off m = some (off + m.toNat * i.size) := by unfold elemB; rw [hi]; simp only [decide_eq_true hidx, cond_true]
   have hl := (run_elemB (P := E.P) (t := t) (g := b) (k := k) hel w).2 hu cap
   have hp : placeOf v (m.toNat * (R v).size + 0) = .pointer (some ⟨b, off + m.toNat * i.size, none⟩) := by
     rw [Nat.add_zero, <- hs]
     generalize m.toNat * i.size = N
     rw [hv0]; rfl
   rw [hp]
   simp only [execOp, ho, he, hei, Sem.run_bind, hl, Result.andThen_ok, Sem.run_pure]
 | @fld t x' f v e j p p' ho hx hf =>
   have h1 := hq (pre (rowB E.glob v e), true) (by simp)
   have hlt : j < e.n := by have := hq (pre (decide (j < e.n)), true) (by simp); simpa [pre] using this
   have he := eval_rp ht hx
   refine .val (v := placeOf v (j * e.size + p')) rfl fun w hw => ?_
   obtain ⟨_, aa, cap, hv0, _, hc0⟩ := row_here hG hw.below h1
   obtain ⟨b, off, rfl, hb, hc⟩ := hc0 (by omega)
   rw [hv0] at he ⊢
   simp only [placeOf, <- Nat.add_assoc] at he ⊢
   have hl := run_fieldB (g := b) (fieldB_add hf (off + j * e.size)) w
   simp only [execOp, ho, he, Sem.run_bind, hl, Result.andThen_ok, Sem.run_pure]
 | @get t x' v e j p u ho hx hlo =>
   have h1 := hq (pre (rowB E.glob v e), true) (by simp)
   have hlt : j < e.n := by have := hq (pre (decide (j < e.n)), true) (by simp); simpa [pre] using this
   have he := eval_rp ht hx
   refine .val (v := u) rfl fun w hw => ?_
   obtain ⟨_, aa, cap, hv0, _, hc0⟩ := row_here hG hw.below h1
   obtain ⟨b, off, rfl, hb, hc⟩ := hc0 (by omega)
   rw [hv0] at he
   have hl := run_loadAt (b := b) (o := off + j * e.size) hlo w (hc j hlt)
   simp only [placeOf, <- Nat.add_assoc] at he
   simp only [execOp, ho, he, Instr.loadAt, Instr.sureAddr, Sem.run_bind, Sem.run_pure, Result.andThen_ok, hl]
 | @len az ats x' t f v R et ho h1 h2 hR hx hu =>
   have h3 := hq (pre (rowB E.glob v (R v)), true) (by simp)
   have e1 : az = #[x'] := by rw [<- Array.toArray_toList (xs := az), h1]
   have e2 : ats = #[t] := by rw [<- Array.toArray_toList (xs := ats), h2]
   have he := eval_v ht hx
   refine .val (v := .int .i64 (R v).n) rfl fun w hw => ?_
   obtain ⟨_, aa, cap, hv0, _, _⟩ := row_here hG hw.below h3
   rw [hv0] at he
   subst e1 e2
   obtain ⟨dst, op, type, pos, after, guard⟩ := o
   simp only at ho
   subst ho
   unfold execOp
   simp [resolve, invoke, builtin, Builtin.len_, he, run_underlying hu, goInt]
theorem simRO1_ok {E : Env} {o : Oper} {s : St} {x : SV} {c : Bool} {q : List (Bool × Bool)} {n : Nat} {ν : Nu} {a : Act} {w0 : Base} {mem : Bool} (h : simRO1 E o s = some (x, c, q)) (hq : ∀ p ∈ q, p.1 = p.2) (ht : TR n ν s a) (hG : GlobB E w0) (hV : okV s.own.b.length s.own.l.length x) : Does E o a (fun w => WR w0 ν s.own mem w) (Is ν x) c := by
 unfold simRO1 at h
 split at h
 . rename_i r hr
   obtain ⟨t, t', y, k, e, et, ho, hy, hk, hu, hu', he, hsz, rfl, rfl, rfl⟩ := simCV_some (hr.trans h)
   obtain ⟨hkl, hd⟩ := getL_some hk
   have hb : bytesB e.n e.el = true := by have := hq (pre (bytesB e.n e.el), true) (by simp); simpa [pre] using this
   have hb : areBytes e.n e.el := by
     unfold bytesB at hb
     exact @of_decide_eq_true _ (Classical.propDecidable _) hb
   refine .val (v := .string (strZ e.n e.el)) rfl fun w hw => ?_
   have hev := eval_c ht hy
   obtain ⟨_, aa, cap, hv0, _, hc⟩ := hw.inB hkl hd
   rw [hv0] at hev
   have hrun : (convert t t' (.slice aa e.n cap)).run E.P w = .ok (.string (strZ e.n e.el)) w := by
     rw [strZ_eq]
     by_cases h0 : 0 < e.n
     . obtain ⟨b, off, rfl, _, hcell⟩ := hc h0
       exact run_convert_bytes_arg w t et hu he b off e.n cap ((List.range e.n).map fun j => intOf (e.el j)) (by simp) (fun i hi => by
         rw [range_getD e.n (fun j => intOf (e.el j)) i hi]
         have := hcell i hi 0 (.int .u8 (intOf (e.el i))) (by rw [hb i hi]; rfl)
         rw [hsz, Nat.mul_one, Nat.add_zero] at this
         exact this) t' hu'
     . have h0 : e.n = 0 := by omega
       unfold strOf
       rw [h0]
       cases aa with
       | none => exact run_convert_bytes_nil w t et hu he 0 cap t' hu'
       | some ad =>
         rw [run_convert_bytes_string w t t' et _ 0 cap hu he hu', run_bytesToString w ad 0 cap [] (by simp [loadCells, loadCellsFrom])]
         rfl
   simp only [execOp, ho, hev, Sem.run_bind, hrun, Result.andThen_ok, Sem.run_pure]
 . split at h
   . rename_i r hr
     obtain ⟨t, y, ix, ok, i, f, k, b, kt, et, T, l, ti, z, u, ho, hy, hix, hb, hu, hkd, hk, hi, hz, hv, rfl, rfl, rfl⟩ := simMV_some (hr.trans h)
     have hfm : FmtL l z := fmtB_ok.mp (hq (pre (fmtB l z), true) (by simp))
     have hin : inI k = true := by have := hq (pre (inI k), true) (by simp); simpa [pre] using this
     have hwf : (Lit.int .i64 k).wf = true := wf_inI hin
     have hue := formV_look hfm hv
     have run : ∀ w, WR w0 ν s.own mem w -> (execOp a.eval o).run E.P w = .ok (.value (if ok then .tuple #[u, .bool (logL l k).isSome] else u)) w := fun w hw => by
       have hm : MapL w (ν.l i) l := by
         have := (hw.blk i b hb).1
         unfold BOk at this
         rw [hkd] at this; exact this
       have hzr : (zeroValue et).run E.P w = .ok z w := by simp only [zeroValue, typeInfo, Sem.run_bind, run_program, Result.andThen_ok, hi, Sem.run_pure, hz]
       rw [hue]
       simp only [execOp, ho, eval_mp ht hy, eval_v ht hix, Sem.run_bind, hm.look hu hk hzr hwf ok, Result.andThen_ok, Sem.run_pure]
     cases ok
     . exact .val (v := u) rfl run
     . exact .val (v := .tuple #[u, .bool (logL l k).isSome]) (by show _ = _; simp [conc, concT, hasZ_eq]) run
   . split at h
     . rename_i r hr
       cases simIV_some (hr.trans h) with
       | @at_ t x' ix i off g k m len e ti ho hx hix hu hi hs =>
         have hin := idx_of (hq _ List.mem_cons_self)
         refine .val (v := .pointer (some ⟨ν.l i, off + m.toNat, none⟩)) rfl fun w hw => ?_
         have hl := (run_elemB (P := E.P) (t := t) (g := ν.l i) (k := k) (elemB_at (off := off) hi hs hin) w).1 hu
         simp only [execOp, ho, eval_own ht hx, eval_v ht hix, Sem.run_bind, hl, Result.andThen_ok, Sem.run_pure]
       | @get t x' i off len m b k ti xs ho hx hb hu hi hxs hl =>
         have hin := idx_of (hq _ List.mem_cons_self)
         refine .val (v := .int k (pickZ xs m)) rfl fun w hw => ?_
         have hv : loadB E.P t (concB ν b.cells) (off + m.toNat) = some (.int k (pickZ xs m)) := by
           unfold loadB
           simp only [hu, hi, aggD, cond_false]
           rw [pickZ_eq]; exact cells_at hxs (ν := ν) (by omega)
         have hl := run_loadB (g := ν.l i) hv w (cells_of_blk ((hw.blk i b (getB_some hb).1).1.cells (getB_some hb).2))
         simp only [execOp, ho, eval_ia ht hx, Instr.loadAt, Instr.sureAddr, Sem.run_bind, Sem.run_pure, Result.andThen_ok, hl]
       | @gat t x' ix f gl off g k m len e ti ho hx hix hu hi hs =>
         have hin := idx_of (hq _ List.mem_cons_self)
         refine .val (v := .pointer (some ⟨gl, off + m.toNat, none⟩)) rfl fun w hw => ?_
         have hl := (run_elemB (P := E.P) (t := t) (g := gl) (k := k) (elemB_at (off := off) hi hs hin) w).1 hu
         simp only [execOp, ho, eval_v ht hx, eval_v ht hix, Sem.run_bind, hl, Result.andThen_ok, Sem.run_pure]
       | @gget t x' f g o' cs k ti xs ho hx hg hu hi hxs =>
         have hlt : o' < xs.length := by have := hq (pre (decide (o' < xs.length)), true) List.mem_cons_self; simpa [pre] using this
         refine .val (v := .int k (pickZ xs (o' : Nat))) rfl fun w hw => ?_
         have hv : loadB E.P t cs o' = some (.int k (pickZ xs (o' : Nat))) := by
           unfold loadB
           simp only [hu, hi, aggD, cond_false]
           rw [pickZ_eq, intsV_ok hxs, qN, List.getElem?_map, List.getElem?_eq_getElem hlt]; rfl
         have hl := run_loadB (g := g) hv w (hG.below hw.below g cs hg).1
         simp only [execOp, ho, eval_v ht hx, Instr.loadAt, Instr.sureAddr, Sem.run_bind, Sem.run_pure, Result.andThen_ok, hl]
       | @eq t x' y yt f g a' b len e k ti xs ys ho hx hy hu he hi hxs hys hlx hly hs hg =>
         refine .val (v := .bool (eqLZ xs ys)) rfl fun w hw => ?_
         have h1 : a' = (xs.map (Value.int k)).toArray := by rw [<- intsV_ok hxs]
         have h2 : b = (ys.map (Value.int k)).toArray := by rw [<- intsV_ok hys]
         subst h1 h2
         have hr := run_equalIn_ints w 9998 t e len k hu he (fun w => run_sizeOf' w hi hs) xs ys hlx hly
         have hb : (do eqGuard .eql t x' y (.agg (xs.map (Value.int k)).toArray) (.agg (ys.map (Value.int k)).toArray); binOp .eql t (.agg (xs.map (Value.int k)).toArray) (.agg (ys.map (Value.int k)).toArray)).run E.P w = .ok (.bool (eqLZ xs ys)) w := by
           rw [eqLZ_eq]
           simp [eqGuard, binOp, Op.equal, Op.maxDepth, hr, hg]
         simp only [execOp, ho, eval_v ht hx, eval_v ht hy]
         simp only [Sem.run_bind] at hb ⊢
         first | exact hb | (rw [hb]; rfl)
     . split at h
       . rename_i r hr
         obtain ⟨rfl, hrp⟩ := simRP_some (hr.trans h)
         exact simRP_ok hrp hq ht hG
       . exact simRO0_ok h hq ht hG hV
theorem simRO_ok {E : Env} {o : Oper} {s : St} {x : SV} {c : Bool} {q : List (Bool × Bool)} {n : Nat} {ν : Nu} {a : Act} {w0 : Base} {mem : Bool} (h : simRO E o s = some (x, c, q)) (hq : ∀ p ∈ q, p.1 = p.2) (ht : TR n ν s a) (hG : GlobB E w0) (hV : okV s.own.b.length s.own.l.length x) : Does E o a (fun w => WR w0 ν s.own mem w) (Is ν x) c := by
 unfold simRO at h
 split at h
 . rename_i r hr
   obtain ⟨t, y, ix, ok, i, f, k, b, kt, et, T, l, ti, z, u, ho, hy, hix, hb, hu, hkd, hi, hz, hv, rfl, rfl, rfl⟩ := simMW_some (hr.trans h)
   have hfm : FmtV l z := fmtVB_ok.mp (hq (pre (fmtVB l z), true) (by simp))
   have hin := keysB_ok.mp (hq (pre (keysB E.P kt k l), true) (by simp))
   have hue := formV_lookV hfm hv
   have run : ∀ w, WR w0 ν s.own mem w -> (execOp a.eval o).run E.P w = .ok (.value (if ok then .tuple #[u, .bool (logV l k).isSome] else u)) w := fun w hw => by
     have hm : MapV w (ν.l i) l := by
       have := (hw.blk i b hb).1
       unfold BOk at this
       rw [hkd] at this; exact this
     have hzr : (zeroValue et).run E.P w = .ok z w := by simp only [zeroValue, typeInfo, Sem.run_bind, run_program, Result.andThen_ok, hi, Sem.run_pure, hz]
     rw [hue]
     simp only [execOp, ho, eval_mp ht hy, eval_v ht hix, Sem.run_bind, hm.look hu hzr hin ok, Result.andThen_ok, Sem.run_pure]
   cases ok
   . exact .val (v := u) rfl run
   . exact .val (v := .tuple #[u, .bool (logV l k).isSome]) (by show _ = _; simp [conc, concT, hasV_eq]) run
 . exact simRO1_ok h hq ht hG hV
end Go.Proofs.Ytmaffamhjmlonaa.S2
