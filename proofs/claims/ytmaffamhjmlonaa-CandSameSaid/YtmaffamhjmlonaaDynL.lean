/- Regions that draw their order, whose last operation waits for all others and may change what is there. No word of the program. -/
import Derived.Test.YtmaffamhjmlonaaDynD
set_option linter.unusedVariables false
set_option linter.unusedSimpArgs false
namespace Go.Proofs.Ytmaffamhjmlonaa.S2
open Go Go.RowKit Sim
def reachB (ops : Array Oper) (m : Nat) : Bool := (List.range m).all fun j => (List.range (m + 1)).any fun i => Nat.blt j i && (match ops[i]? with
 | some o => o.after.toList.any fun e => Region.binds .any e && Nat.beq e.on j
 | none => false)
theorem reach_ok {ops : Array Oper} {m : Nat} (h : reachB ops m = true) {j : Nat} (hj : j < m) : ∃ i o e, j < i /\ i <= m /\ ops[i]? = some o /\ e ∈ o.after /\ Region.binds .any e = true /\ e.on = j := by
 have h1 := List.all_eq_true.mp h j (List.mem_range.mpr hj)
 obtain ⟨i, hi, h2⟩ := List.any_eq_true.mp h1
 rw [Bool.and_eq_true] at h2
 obtain ⟨h3, h4⟩ := h2
 have h3 : j < i := by rw [<- Nat.blt_eq]; exact h3
 have hi := List.mem_range.mp hi
 cases ho : ops[i]? with
 | none => rw [ho] at h4; cases h4
 | some o =>
   rw [ho] at h4
   obtain ⟨e, he, h5⟩ := List.any_eq_true.mp h4
   rw [Bool.and_eq_true] at h5
   exact ⟨i, o, e, h3, by omega, ho, Array.mem_toList_iff.mp he, h5.1, qB h5.2⟩
def closedL (ops : Array Oper) (L : Nat -> Bool) : Prop := ∀ i o, ops[i]? = some o -> L i = true -> ∀ e ∈ o.after, Region.binds .any e = true -> L e.on = true
theorem reach_all {ops : Array Oper} {m : Nat} (h : reachB ops m = true) {L : Nat -> Bool} (hc : closedL ops L) (hm : ∀ o, ops[m]? = some o -> ∀ e ∈ o.after, Region.binds .any e = true -> L e.on = true) : ∀ k j, j + k + 1 = m -> L j = true := by
 intro k
 induction k using Nat.strongRecOn with
 | _ k ih =>
   intro j hj
   obtain ⟨i, o, e, h1, h2, h3, h4, h5, h6⟩ := reach_ok h (show j < m by omega)
   rw [<- h6]
   by_cases hi : i = m
   . subst hi
     exact hm o h3 e h4 h5
   . exact hc i o h3 (ih (m - i - 1) (by omega) i (by omega)) e h4 h5
theorem region_last {P : Program} {id n : Nat} {ops : Array Oper} {Q : Exit -> Act -> World -> Prop} (hm : P.follows .mixedOrders = true) (hd : depB ops = true) (m : Nat) (hs : ops.size = m + 1) (hreach : reachB ops m = true) (Inv : World -> Prop) (Pr : Nat -> World -> Value -> Prop) {a0 : Act} {w : World}
   (hdrew : ∀ w, Inv w -> Inv { w with drawn := w.drawn + 1 })
   (mono : ∀ i w w' v, Inv w -> Inv w' -> Below w.heap.size w w' -> Pr i w v -> Pr i w' v)
   (hn : a0.tmps.size = n) (hdf : a0.defers = []) (hi : Inv w)
   (step : ∀ i o a w, i < m -> ops[i]? = some o -> Inv w -> a.tmps.size = n -> a.defers = [] -> (∀ j oj t, ops[j]? = some oj -> oj.dst = some t -> (∃ e ∈ o.after, Region.binds .any e = true /\ e.on = j) -> Pr j w (a.tmps.getD t undef)) ->
     (∀ t, (∀ (j : Nat) (oj : Oper), ops[j]? = some oj -> oj.dst ≠ some t) -> a.tmps.getD t undef = a0.tmps.getD t undef) -> wpOp P ops (fun _ _ _ => False) i (Post1 n Inv Pr i o a w) a w)
   (lst : ∀ o a w, ops[m]? = some o -> Inv w -> a.tmps.size = n -> a.defers = [] -> (∀ j oj t, j < m -> ops[j]? = some oj -> oj.dst = some t -> Pr j w (a.tmps.getD t undef)) ->
     (∀ t, (∀ (j : Nat) (oj : Oper), ops[j]? = some oj -> oj.dst ≠ some t) -> a.tmps.getD t undef = a0.tmps.getD t undef) -> wpOp P ops (fun _ _ _ => False) m (fun a' w' => Q .normal a' w') a w) :
   (Code.region id ops true).wp P Q a0 w := by
 have hrep : lstB (Array.replicate ops.size false) = fun _ => false := by
   funext j
   unfold lstB
   simp only [Array.getD_eq_getD_getElem?, Array.getElem?_replicate]
   split <;> rfl
 have lt : ∀ {j : Nat} {oj : Oper}, ops[j]? = some oj -> j < ops.size := fun {j oj} hj => by
   rcases Nat.lt_or_ge j ops.size with h | h
   . exact h
   . rw [Array.getElem?_eq_none h] at hj; cases hj
 refine wp_region_any hm (wpAny_steps (I := fun L a w => closedL ops L /\ ((L m = true /\ Q .normal a w) \/ (L m = false /\ IP n ops Inv Pr a0 L a w))) (fun L i o a w ho hI hL hr K hK => ?_) (fun L a w hall hI => ?_) (fun i o ho e he hb => (depB_ok hd ho).low e he hb) ops.size (Array.replicate ops.size false) a0 _ (by simp) ?_ ?_)
 . obtain ⟨hc, ⟨h1, _⟩ | ⟨h1, hI⟩⟩ := hI
   . exfalso
     have h2 : i ≠ m := fun hc => by rw [hc, h1] at hL; cases hL
     have h3 := lt ho
     have := reach_all hreach hc (fun o ho => hc m o ho h1) (m - i - 1) i (by omega)
     rw [hL] at this; cases this
   have hc2 : closedL ops (setL L i) := fun j oj hj hL' e he hb => by
     unfold setL at hL' ⊢
     by_cases hji : j = i
     . subst hji
       rw [ho] at hj
       obtain rfl := Option.some.inj hj
       by_cases h2 : e.on = j
       . rw [if_pos h2]
       . rw [if_neg h2]; exact hr e he hb
     . rw [if_neg hji] at hL'
       by_cases h2 : e.on = i
       . rw [if_pos h2]
       . rw [if_neg h2]; exact hc j oj hj hL' e he hb
   by_cases him : i = m
   . subst him
     have hall := reach_all hreach hc (fun o' ho' e he hb => by rw [ho] at ho'; obtain rfl := Option.some.inj ho'; exact hr e he hb)
     refine wpOp_none (fun a' w' hp => hK a' w' ⟨hc2, .inl ⟨by unfold setL; rw [if_pos rfl], hp⟩⟩) (lst o a w ho hI.inv hI.size hI.df (fun j oj t hj hoj hdj => hI.done j oj t hoj hdj (hall (i - j - 1) j (by omega))) (fun t ht => hI.base t fun j oj hj hdj => absurd hdj (ht j oj hj)))
   . have hlt := lt ho
     refine wpOp_none (fun a' w' hp => hK a' w' ⟨hc2, .inr ⟨by unfold setL; rw [if_neg (fun h => him h.symm)]; exact h1, ?_⟩⟩) (step i o a w (by omega) ho hI.inv hI.size hI.df (fun j oj t hj hdj ⟨e, he, hb, hon⟩ => hI.done j oj t hj hdj (by rw [<- hon]; exact hr e he hb)) (fun t ht => hI.base t fun j oj hj hdj => absurd hdj (ht j oj hj)))
     refine ⟨by rw [hp.kept.size, hI.size], hp.df, fun t ht => ?_, fun j oj t hj hdj hL' => ?_, hp.inv⟩
     . have h1 : o.dst ≠ some t := fun hc => by
         have := ht i o ho hc
         unfold setL at this
         rw [if_pos rfl] at this; cases this
       rw [hp.kept.same t h1]
       refine hI.base t fun j oj hj hdj => ?_
       have := ht j oj hj hdj
       unfold setL at this
       by_cases hji : j = i
       . rw [if_pos hji] at this; cases this
       . rw [if_neg hji] at this; exact this
     . by_cases hji : j = i
       . subst hji
         rw [ho] at hj
         obtain rfl := Option.some.inj hj
         exact hp.val t hdj
       . have h2 : o.dst ≠ some t := fun hc => hji ((depB_ok hd ho).once j oj t hj hc hdj).symm
         rw [hp.kept.same t h2]
         unfold setL at hL'
         rw [if_neg hji] at hL'
         exact mono j w w' _ hI.inv hp.inv hp.below (hI.done j oj t hj hdj hL')
 . obtain ⟨_, ⟨_, hq⟩ | ⟨h1, _⟩⟩ := hI
   . exact hq
   . have := hall m (by omega)
     rw [h1] at this; cases this
 . have := List.length_filter_le (fun i => !lstB (Array.replicate ops.size false) i) (List.range ops.size)
   simpa using this
 . rw [hrep]
   exact ⟨fun i o _ h => (by cases h), .inr ⟨rfl, hn, hdf, fun _ _ => rfl, fun i o t _ _ h => (by cases h), hdrew _ hi⟩⟩
end Go.Proofs.Ytmaffamhjmlonaa.S2
