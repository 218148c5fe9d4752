/- Regions that draw their order, with calls whose answers nobody knows ahead: each slot by what is known of its value. No word of the program. -/
import Derived.Test.YtmaffamhjmlonaaK04
set_option linter.unusedVariables false
set_option linter.unusedSimpArgs false
namespace Go.Proofs.Ytmaffamhjmlonaa.S2
open Go Go.RowKit Sim
structure KeptA (o : Oper) (a a' : Act) : Prop where
 size : a'.tmps.size = a.tmps.size
 same : ∀ t, o.dst ≠ some t -> a'.tmps.getD t undef = a.tmps.getD t undef
theorem kept_put (o : Oper) (a : Act) (v : Value) : KeptA o a (a.put o.dst v) := ⟨put_size _ _ _, fun t ht => by
 rw [getD_put, if_neg (fun h => ht h.1)]⟩
theorem wp_kept {P : Program} {o : Oper} {a : Act} {w : World} {K : Act -> World -> Prop} {Q : Exit -> Act -> World -> Prop} (hh : o.wp P a w K Q) : o.wp P a w (fun a' w' => K a' w' /\ KeptA o a a') Q := by
 unfold Oper.wp at *
 generalize (execOp a.eval o).run P w = r at *
 cases r with
 | ok n w' =>
   cases n <;> simp only [Oper.upon] at hh ⊢ <;>
     first
       | exact ⟨hh, kept_put o a _⟩
       | exact ⟨hh, ⟨(kept_put o { a with defers := _ } _).size, (kept_put o { a with defers := _ } _).same⟩⟩
       | exact Calls.mono hh (fun e w'' he => by cases e <;> first | exact ⟨he, kept_put o a _⟩ | exact he)
       | exact Rows.mono hh (fun _ _ he => ⟨he, kept_put o a _⟩)
 | halt x w' => cases x <;> simp only [Oper.upon] at hh ⊢ <;> exact hh
structure IP (n : Nat) (ops : Array Oper) (Inv : World -> Prop) (Pr : Nat -> World -> Value -> Prop) (a0 : Act) (L : Nat -> Bool) (a : Act) (w : World) : Prop where
 size : a.tmps.size = n
 df : a.defers = []
 base : ∀ t, (∀ i o, ops[i]? = some o -> o.dst = some t -> L i = false) -> a.tmps.getD t undef = a0.tmps.getD t undef
 done : ∀ (i : Nat) o t, ops[i]? = some o -> o.dst = some t -> L i = true -> Pr i w (a.tmps.getD t undef)
 inv : Inv w
structure Post1 (n : Nat) (Inv : World -> Prop) (Pr : Nat -> World -> Value -> Prop) (i : Nat) (o : Oper) (a : Act) (w : World) (a' : Act) (w' : World) : Prop where
 df : a'.defers = []
 kept : KeptA o a a'
 inv : Inv w'
 below : Below w.heap.size w w'
 val : ∀ t, o.dst = some t -> Pr i w' (a'.tmps.getD t undef)
theorem wpOp_none {P : Program} {ops : Array Oper} {i : Nat} {K K' : Act -> World -> Prop} {Q : Exit -> Act -> World -> Prop} {a : Act} {w : World} (h : ∀ a w, K a w -> K' a w) (hh : wpOp P ops (fun _ _ _ => False) i K a w) : wpOp P ops Q i K' a w := by
 unfold wpOp at *
 split at hh
 . exact h _ _ hh
 . by_cases hw : Region.wanted ‹Oper› (yielded ops a.tmps) = true
   . rw [if_pos hw] at hh ⊢
     rcases hh with hh | ⟨_, ⟨_, _, hh⟩⟩
     . exact .inl (wp_mono2 h (fun _ _ _ hf => hf.elim) (fun ⟨_, _, hf⟩ => hf.elim) hh)
     . exact hh.elim
   . rw [if_neg hw] at hh ⊢
     exact h _ _ hh
theorem region_pred {P : Program} {id n : Nat} {ops : Array Oper} {Q : Exit -> Act -> World -> Prop} (hm : P.follows .mixedOrders = true) (hd : depB ops = true) (Inv : World -> Prop) (Pr : Nat -> World -> Value -> Prop) {a0 : Act} {w : World}
   (hdrew : ∀ w, Inv w -> Inv { w with drawn := w.drawn + 1 })
   (mono : ∀ i w w' v, Inv w -> Inv w' -> Below w.heap.size w w' -> Pr i w v -> Pr i w' v)
   (hn : a0.tmps.size = n) (hdf : a0.defers = []) (hi : Inv w)
   (step : ∀ i o a w, ops[i]? = some o -> Inv w -> a.tmps.size = n -> a.defers = [] -> (∀ j oj t, ops[j]? = some oj -> oj.dst = some t -> (∃ e ∈ o.after, Region.binds .any e = true /\ e.on = j) -> Pr j w (a.tmps.getD t undef)) ->
     (∀ t, (∀ (j : Nat) (oj : Oper), ops[j]? = some oj -> oj.dst ≠ some t) -> a.tmps.getD t undef = a0.tmps.getD t undef) -> wpOp P ops (fun _ _ _ => False) i (Post1 n Inv Pr i o a w) a w)
   (fin : ∀ a w, a.tmps.size = n -> a.defers = [] -> Inv w -> (∀ j oj t, ops[j]? = some oj -> oj.dst = some t -> Pr j w (a.tmps.getD t undef)) -> (∀ t, (∀ (j : Nat) (oj : Oper), ops[j]? = some oj -> oj.dst ≠ some t) -> a.tmps.getD t undef = a0.tmps.getD t undef) -> Q .normal a w) :
   (Code.region id ops true).wp P Q a0 w := by
 have hrep : lstB (Array.replicate ops.size false) = fun _ => false := by
   funext j
   unfold lstB
   simp only [Array.getD_eq_getD_getElem?, Array.getElem?_replicate]
   split <;> rfl
 refine wp_region_any hm (wpAny_steps (I := IP n ops Inv Pr a0) (fun L i o a w ho hI hL hr K hK => ?_) (fun L a w hall hI => ?_) (fun i o ho e he hb => (depB_ok hd ho).low e he hb) ops.size (Array.replicate ops.size false) a0 _ (by simp) ?_ ?_)
 . refine wpOp_none (fun a' w' hp => hK a' w' ?_) (step i o a w ho hI.inv hI.size hI.df (fun j oj t hj hdj ⟨e, he, hb, hon⟩ => hI.done j oj t hj hdj (by rw [<- hon]; exact hr e he hb)) (fun t ht => hI.base t fun j oj hj hdj => absurd hdj (ht j oj hj)))
   refine ⟨by rw [hp.kept.size, hI.size], hp.df, fun t ht => ?_, fun j oj t hj hdj hL' => ?_, hp.inv⟩
   . have h1 : o.dst ≠ some t := fun hc => by
       have := ht i o ho hc
       unfold setL at this
       rw [if_pos rfl] at this; cases this
     rw [hp.kept.same t h1]
     refine hI.base t fun j oj hj hdj => ?_
     have := ht j oj hj hdj
     unfold setL at this
     by_cases hji : j = i
     . rw [if_pos hji] at this; cases this
     . rw [if_neg hji] at this; exact this
   . by_cases hji : j = i
     . subst hji
       rw [ho] at hj
       obtain rfl := Option.some.inj hj
       exact hp.val t hdj
     . have h2 : o.dst ≠ some t := fun hc => hji ((depB_ok hd ho).once j oj t hj hc hdj).symm
       rw [hp.kept.same t h2]
       unfold setL at hL'
       rw [if_neg hji] at hL'
       exact mono j w w' _ hI.inv hp.inv hp.below (hI.done j oj t hj hdj hL')
 . have lt : ∀ {j : Nat} {oj : Oper}, ops[j]? = some oj -> j < ops.size := fun {j oj} hj => by
     rcases Nat.lt_or_ge j ops.size with h | h
     . exact h
     . rw [Array.getElem?_eq_none h] at hj; cases hj
   exact fin a w hI.size hI.df hI.inv (fun j oj t hj hdj => hI.done j oj t hj hdj (hall j (lt hj))) (fun t ht => hI.base t fun j oj hj hdj => absurd hdj (ht j oj hj))
 . have := List.length_filter_le (fun i => !lstB (Array.replicate ops.size false) i) (List.range ops.size)
   simpa using this
 . rw [hrep]
   exact ⟨hn, hdf, fun _ _ => rfl, fun i o t _ _ h => (by cases h), hdrew _ hi⟩
theorem op_run {E : Env} (HC : CallOk E) {w : World} (hG : Glob E w) {fuel n i : Nat} {ops : Array Oper} {o : Oper} {p : Pick} (orc : List Bool) (ob : List (Bool × Bool)) {s s2 : St} {ν : Nu} {a : Act} {K : Act -> World -> Prop} (ho : ops[i]? = some o) (hg : goodB s = true) (h : runOps E fuel n ops [o] p orc s = some (s2, ob)) (hl : ∀ p ∈ ob, p.1 = p.2)
   (ht : TR n ν s a) (hw : WR (base0 w) ν s.own s.mem w) (hK : ∀ ν' a' w', TR n ν' s2 a' -> WR (base0 w) ν' s2.own s2.mem w' -> KeptA o a a' -> K a' w') : wpOp E.P ops (fun _ _ _ => False) i K a w := by
 have h1 := runOps_ok HC (.of hG) hg h hl (Q := fun x a' w' => match x with
   | .normal => ∃ ν', TR n ν' s2 a' /\ WR (base0 w) ν' s2.own s2.mem w'
   | _ => False) ht hw fun ν' a' w' ht' hw' => ⟨ν', ht', hw'⟩
 unfold wpOp
 rw [ho]
 unfold wpList at h1
 by_cases hwn : Region.wanted o (yielded ops a.tmps) = true
 . simp only [hwn, if_true] at h1 ⊢
   rcases h1 with h1 | ⟨_, ⟨_, _, h1⟩⟩
   . exact .inl (wp_mono2 (fun a' w' ⟨⟨ν', k1, k2⟩, k3⟩ => hK ν' a' w' k1 k2 k3) (fun _ _ _ hf => hf) (fun ⟨_, _, hf⟩ => ⟨a, w, hf⟩) (wp_kept h1))
   . exact h1.elim
 . simp only [hwn] at h1 ⊢
   obtain ⟨ν', k1, k2⟩ := h1
   exact hK ν' _ w k1 k2 (kept_put o a _)
theorem op_mid {P : Program} {n i : Nat} {ops : Array Oper} {o : Oper} {ν : Nu} {s s1 : St} {a : Act} {w : World} {f : FuncId} {args : List SV} {K : Act -> World -> Prop} (ho : ops[i]? = some o) (hwant : wantS n ops o s = some (true, s1)) (hh : Holds' s1) (hc : callArgs s1 o = some (f, args)) (ht : TR n ν s a)
   (hf : ∃ fn, P.funcs[f]? = some fn ∧ (fn.name == "runtime.NumGoroutine") = false ∧ fn.body.isNone = false)
   (hK : ∀ vs, IsL ν args vs -> Calls P f vs.toArray w fun e w' => ∃ v, e = .returned v /\ K (a.put o.dst v) w') : wpOp P ops (fun _ _ _ => False) i K a w := by
 obtain ⟨hwn, ht1⟩ := wantS_ok hwant hh ht
 unfold wpOp
 rw [ho]
 simp only [hwn, if_true]
 exact .inl (wp_mid hc ht1 hf hK)
theorem TR.some {n : Nat} {ν : Nu} {a : Act} {l : List (Nat × SV)} {own : Mem} {mem : Bool} (hn : a.tmps.size = n) (hd : a.defers = []) (h : ∀ p ∈ l, Is ν p.2 (a.tmps.getD p.1 undef)) : TR n ν { tmps := l, own := own, lo := 0, llo := 0, mem := mem, orc := [], obl := [] } a :=
 ⟨hn, fun t => by
   rcases look_mem l t with h1 | ⟨x, h1, h2⟩
   . show Is ν (look l t) _
     rw [h1]; trivial
   . show Is ν (look l t) _
     rw [h2]
     exact h (t, x) h1, hd⟩
end Go.Proofs.Ytmaffamhjmlonaa.S2
