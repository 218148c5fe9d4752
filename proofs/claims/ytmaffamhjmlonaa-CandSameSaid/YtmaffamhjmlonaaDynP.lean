/- A region that draws its order: reads, one call whose answer is a new list, a store of that list behind them all. No word of the program. -/
import Derived.Test.YtmaffamhjmlonaaK08
import Derived.Test.YtmaffamhjmlonaaDynL
set_option linter.unusedVariables false
set_option linter.unusedSimpArgs false
namespace Go.Proofs.Ytmaffamhjmlonaa.S2
open Go Go.RowKit Sim
theorem op_pure {E : Env} {w0 : Base} (hG : GlobB E w0) {n i : Nat} {ops : Array Oper} {o : Oper} {s : St} {x : SV} {q : List (Bool × Bool)} {ν : Nu} {a : Act} {w : World} {K : Act -> World -> Prop} (ho : ops[i]? = some o) (hg : o.guard = none) (h : simRO E o s = some (x, false, q)) (hq : ∀ p ∈ q, p.1 = p.2) (hV : okV s.own.b.length s.own.l.length x) (ht : TR n ν s a) (hw : WR w0 ν s.own true w) (hK : ∀ v, Is ν x v -> K (a.put o.dst v) w) : wpOp E.P ops (fun _ _ _ => False) i K a w := by
 obtain ⟨v, hv, ⟨_, h1⟩ | ⟨hc, _⟩⟩ := simRO_ok h hq ht hG hV (mem := true)
 . unfold wpOp
   rw [ho]
   have hwn : Region.wanted o (yielded ops a.tmps) = true := by unfold Region.wanted; rw [hg]
   simp only [hwn, if_true]
   refine .inl ?_
   unfold Oper.wp
   rw [h1 w hw]
   exact hK v hv
 . cases hc
theorem OwnB.belowK {B : Nat} {w w' : World} {e : LE} {v : Value} (h : OwnB B w e v) (hb : Below w.heap.size w w') : OwnB B w' e v := by
 obtain ⟨h1, h2, h3⟩ := h
 refine ⟨h1, h2, ?_⟩
 rcases h3 with h3 | ⟨g, cap, cur, hv, hB, hg, rest⟩
 . exact .inl h3
 . have hlt : g < w.heap.size := by
     rcases Nat.lt_or_ge g w.heap.size with h | h
     . exact h
     . rw [Array.getElem?_eq_none h] at hg; cases hg
   exact .inr ⟨g, cap, cur, hv, hB, by rw [hb.block g hlt]; exact hg, rest⟩
def known (ν : Nu) (ops : Array Oper) (kc : Nat) (xs : Nat -> SV) (c : Nat -> Prop) (a : Act) : Prop := ∀ j oj t, ops[j]? = some oj -> oj.dst = some t -> j ≠ kc -> c j -> Is ν (xs j) (a.tmps.getD t undef)
def based (ops : Array Oper) (a0 a : Act) : Prop := ∀ t, (∀ (j : Nat) (oj : Oper), ops[j]? = some oj -> oj.dst ≠ some t) -> a.tmps.getD t undef = a0.tmps.getD t undef
theorem region_put {E : Env} {n id : Nat} {ops : Array Oper} {Q : Exit -> Act -> World -> Prop} (hm : E.P.follows .mixedOrders = true) (hd : depB ops = true) (m : Nat) (hs : ops.size = m + 1) (hreach : reachB ops m = true) (hdst : ∀ (i : Nat) o t, ops[i]? = some o -> o.dst = some t -> t < n) {w0 : Base} (hG : GlobB E w0) {own : Mem} {ν : Nu} {a : Act} {w : World} (hn : a.tmps.size = n) (hdf : a.defers = []) (hw : WR w0 ν own true w) (xs : Nat -> SV) (kc : Nat) (eK : LE)
   (rd : ∀ i o a', i < m -> i ≠ kc -> ops[i]? = some o -> a'.tmps.size = n -> a'.defers = [] -> known ν ops kc xs (fun j => ∃ e ∈ o.after, Region.binds .any e = true /\ e.on = j) a' -> based ops a a' ->
     ∃ (T : St) (q : List (Bool × Bool)), o.guard = none /\ simRO E o T = some (xs i, false, q) /\ (∀ p ∈ q, p.1 = p.2) /\ okV T.own.b.length T.own.l.length (xs i) /\ T.own = own /\ TR n ν T a')
   (call : ∀ o a' W, ops[kc]? = some o -> Below w.heap.size w W -> WR w0 ν own true W -> a'.tmps.size = n -> a'.defers = [] -> known ν ops kc xs (fun j => ∃ e ∈ o.after, Region.binds .any e = true /\ e.on = j) a' -> based ops a a' ->
     wpOp E.P ops (fun _ _ _ => False) kc (fun a2 W2 => ∃ v, a2 = a'.put o.dst v /\ Below W.heap.size W W2 /\ OwnB W.heap.size W2 eK v) a' W)
   (lst : ∀ o a' W, ops[m]? = some o -> Below w.heap.size w W -> WR w0 ν own true W -> a'.tmps.size = n -> a'.defers = [] -> known ν ops kc xs (fun j => j < m) a' -> (∀ oj t, kc < m -> ops[kc]? = some oj -> oj.dst = some t -> OwnB w.heap.size W eK (a'.tmps.getD t undef)) -> based ops a a' ->
     wpOp E.P ops (fun _ _ _ => False) m (fun a2 W2 => Q .normal a2 W2) a' W) :
   (Code.region id ops true).wp E.P Q a w := by
 refine region_last hm hd m hs hreach (fun W => Below w.heap.size w W /\ WR w0 ν own true W) (fun i W v => if i = kc then OwnB w.heap.size W eK v else Is ν (xs i) v) (fun W h => ⟨h.1.drew, h.2.grown (Below.refl _ _).drew⟩) (fun i W W' v _ _ hb h => ?_) hn hdf ⟨Below.refl _ _, hw⟩ (fun i o a' W hi ho hI h1 h2 h3 h4 => ?_) (fun o a' W ho hI h1 h2 h3 h4 => ?_)
 . by_cases hk : i = kc
   . rw [if_pos hk] at h ⊢; exact h.belowK hb
   . rw [if_neg hk] at h ⊢; exact h
 . have hkn : known ν ops kc xs (fun j => ∃ e ∈ o.after, Region.binds .any e = true /\ e.on = j) a' := fun j oj t hj hdj hne hc => by
     have := h3 j oj t hj hdj hc
     rw [if_neg hne] at this; exact this
   by_cases hk : i = kc
   . subst hk
     refine wpOp_none (fun a2 W2 ⟨v, e1, e2, e3⟩ => ?_) (call o a' W ho hI.1 hI.2 h1 h2 hkn h4)
     subst e1
     refine ⟨by show (a'.put o.dst v).defers = []; unfold Act.put; cases o.dst <;> exact h2, kept_put o a' v, ⟨hI.1.trans (e2.mono hI.1.size), hI.2.grown e2⟩, e2, fun t ht => ?_⟩
     rw [if_pos rfl]
     rw [ht, getD_put, if_pos ⟨rfl, by rw [h1]; exact hdst _ _ _ ho ht⟩]
     exact e3.more hI.1.size
   . obtain ⟨T, q, g1, g2, g3, g4, g5, g6⟩ := rd i o a' hi hk ho h1 h2 hkn h4
     refine op_pure hG ho g1 g2 g3 g4 g6 (by rw [g5]; exact hI.2) fun v hv => ?_
     refine ⟨by show (a'.put o.dst v).defers = []; unfold Act.put; cases o.dst <;> exact h2, kept_put o a' v, hI, Below.refl _ _, fun t ht => ?_⟩
     rw [if_neg hk, ht, getD_put, if_pos ⟨rfl, by rw [h1]; exact hdst _ _ _ ho ht⟩]
     exact hv
 . refine lst o a' W ho hI.1 hI.2 h1 h2 (fun j oj t hj hdj hne hc => ?_) (fun oj t hkc hoj hdj => ?_) h4
   . have := h3 j oj t hc hj hdj
     rw [if_neg hne] at this; exact this
   . have := h3 kc oj t hkc hoj hdj
     rw [if_pos rfl] at this; exact this
def dstB (ops : Array Oper) (n : Nat) : Bool := ops.toList.all fun o => match o.dst with
 | some t => Nat.blt t n
 | none => true
theorem mem_ops {ops : Array Oper} {i : Nat} {o : Oper} (h : ops[i]? = some o) : o ∈ ops.toList := Array.mem_toList_iff.mpr (Array.mem_of_getElem? h)
theorem dstB_ok {ops : Array Oper} {n : Nat} (h : dstB ops n = true) : ∀ (i : Nat) o t, ops[i]? = some o -> o.dst = some t -> t < n := fun i o t ho hd => by
 have := List.all_eq_true.mp h o (mem_ops ho)
 rw [hd] at this
 rw [<- Nat.blt_eq]; exact this
def noDst (ops : Array Oper) (t : Nat) : Bool := ops.toList.all fun o => match o.dst with
 | some d => !Nat.beq d t
 | none => true
theorem noDst_ok {ops : Array Oper} {t : Nat} (h : noDst ops t = true) : ∀ (j : Nat) (oj : Oper), ops[j]? = some oj -> oj.dst ≠ some t := fun j oj ho hd => by
 have := List.all_eq_true.mp h oj (mem_ops ho)
 rw [hd] at this
 have e : Nat.beq t t = true := Nat.beq_refl t
 have this : (!Nat.beq t t) = true := this
 rw [e] at this; cases this
def depOn (o : Oper) (j : Nat) : Bool := o.after.toList.any fun e => Region.binds .any e && Nat.beq e.on j
theorem depOn_ok {o : Oper} {j : Nat} (h : depOn o j = true) : ∃ e ∈ o.after, Region.binds .any e = true /\ e.on = j := by
 obtain ⟨e, he, h2⟩ := List.any_eq_true.mp h
 rw [Bool.and_eq_true] at h2
 exact ⟨e, Array.mem_toList_iff.mp he, h2.1, qB h2.2⟩
theorem op_end {E : Env} (HC : CallOk E) {w1 : Base} (hG : GlobB E w1) {n fuel i : Nat} {ops : Array Oper} {o : Oper} {p : Pick} (orc : List Bool) (ob : List (Bool × Bool)) {s s2 : St} {ν : Nu} {a : Act} {w : World} {K : Act -> World -> Prop} (ho : ops[i]? = some o) (hg : (goodB s && Nat.ble 0 s.own.b.length && Nat.ble 0 s.own.l.length && prefB 0 p.bs && prefB 0 p.ls) = true) (h : runOps E fuel n ops [o] p orc s = some (s2, ob)) (hl : ∀ p ∈ ob, p.1 = p.2)
   (ht : TR n ν s a) (hw : WR w1 ν s.own s.mem w) (hK : ∀ ν' a' w', TR n ν' s2 a' -> WR w1 ν' s2.own s2.mem w' -> K a' w') : wpOp E.P ops (fun _ _ _ => False) i K a w := by
 have h1 := runOpsA (nb := 0) (nl := 0) HC hG orc ob hg h hl (Q := fun x a' w' => match x with
   | .normal => K a' w'
   | _ => False) ht hw fun ν' a' w' _ ht' hw' => hK ν' a' w' ht' hw'
 unfold wpOp
 rw [ho]
 unfold wpList at h1
 by_cases hwn : Region.wanted o (yielded ops a.tmps) = true
 . simp only [hwn, if_true] at h1 ⊢
   rcases h1 with h1 | ⟨_, ⟨_, _, h1⟩⟩
   . exact .inl (wp_mono2 (fun a' w' k => k) (fun _ _ _ hf => hf) (fun ⟨_, _, hf⟩ => ⟨a, w, hf⟩) h1)
   . exact h1.elim
 . simp only [hwn] at h1 ⊢
   exact h1
end Go.Proofs.Ytmaffamhjmlonaa.S2
