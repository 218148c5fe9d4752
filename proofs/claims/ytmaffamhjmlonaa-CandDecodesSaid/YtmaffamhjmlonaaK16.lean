/- Cx, RdX13. -/
import Derived.Test.YtmaffamhjmlonaaK13
import Derived.Test.YtmaffamhjmlonaaRdW13
import Derived.Test.YtmaffamhjmlonaaLaw13A
set_option linter.unusedVariables false
set_option linter.unusedSimpArgs false
namespace Go.Proofs.Ytmaffamhjmlonaa.S2
open Go Go.RowKit Sim
def FRow (F : Nat -> Option Obj) (v : Value) (e : LE) : Prop :=
 e.wf /\ ∃ a cap, v = .slice a e.n cap /\ e.n <= cap /\ (0 < e.n -> ∃ g cs t, a = some ⟨g, 0, none⟩ /\ F g = some (.cells cs t (0, 0)) /\ ∀ j, j < e.n -> ∀ (o : Nat) c, (e.el j)[o]? = some c -> cs.toList[j * e.size + o]? = some c)
def FLe (F F' : Nat -> Option Obj) : Prop := ∀ b o, F b = some o -> F' b = some o
theorem FLe.refl (F : Nat -> Option Obj) : FLe F F := fun _ _ h => h
theorem FLe.trans {F F' F'' : Nat -> Option Obj} (h : FLe F F') (h' : FLe F' F'') : FLe F F'' := fun b o k => h' b o (h b o k)
theorem FRow.mono {F F' : Nat -> Option Obj} (hF : FLe F F') {v : Value} {e : LE} (h : FRow F v e) : FRow F' v e := by
 obtain ⟨h1, a, cap, hv, hc, h2⟩ := h
 refine ⟨h1, a, cap, hv, hc, fun hn => ?_⟩
 obtain ⟨g, cs, t, ha, hg, h3⟩ := h2 hn
 exact ⟨g, cs, t, ha, hF _ _ hg, h3⟩
theorem FRow.rowG {F : Nat -> Option Obj} {w : World} (hF : ∀ b o, F b = some o -> w.heap[b]? = some o) {v : Value} {e : LE} (h : FRow F v e) : rowG (frz w) v e := by
 obtain ⟨h1, a, cap, hv, hc, h2⟩ := h
 refine ⟨h1, a, cap, hv, hc, fun hn => ?_⟩
 obtain ⟨g, cs, t, ha, hg, h3⟩ := h2 hn
 refine ⟨g, 0, cs.toList, ha, ?_, fun j hj o c hoc => ?_⟩
 . unfold frz
   rw [hF _ _ hg]
 . rw [Nat.zero_add]
   exact h3 j hj o c hoc
def setF (w0 : Base) (F : Nat -> Option Obj) : Base := ⟨w0.toWorld, F⟩
theorem WR.seal {w0 : Base} {ν : Nu} {own : Mem} {mem : Bool} {w : World} (h : WR w0 ν own mem w) {k : Nat} {e : LE} (hk : own.l[k]? = some e) (hd : e.dead = false) (ho : e.own = true) :
   ∃ F', FLe w0.F F' /\ WR (setF w0 F') ν ⟨own.b, own.l.set k { e with dead := true }⟩ mem w /\ FRow F' (ν.v k) e := by
 classical
 let F' : Nat -> Option Obj := fun b => if (ν.v k).ownBlock = some b then w.heap[b]? else w0.F b
 have hkl : k < own.l.length := lt_of_some_list hk
 have old : ∀ (i : Nat) (e' : LE), (own.l.set k { e with dead := true })[i]? = some e' -> e'.dead = false -> i ≠ k /\ own.l[i]? = some e' := fun i e' hi hd' => by
   by_cases hik : k = i
   . subst hik
     rw [List.getElem?_set_self hkl] at hi
     obtain rfl := Option.some.inj hi
     cases hd'
   . rw [List.getElem?_set_ne hik] at hi
     exact ⟨fun e => hik e.symm, hi⟩
 have hle : FLe w0.F F' := fun b o hb => by
   show (if (ν.v k).ownBlock = some b then w.heap[b]? else w0.F b) = some o
   by_cases hg : (ν.v k).ownBlock = some b
   . rw [if_pos hg]; exact h.fr.here b o hb
   . rw [if_neg hg]; exact hb
 have hlk := h.lst k e hk hd
 unfold LOk at hlk
 rw [ho] at hlk
 have hown : OwnB w0.heap.size w e (ν.v k) := hlk
 refine ⟨F', hle, ⟨h.below, fun i b hi => h.blk i b hi, ?_, h.inj, fun i e' hi hd' => ?_, fun i e' hi hd' ho' g hg => ?_, h.same, ⟨fun b o hb => ?_, fun i hi => ?_, fun i e' hi hd' ho' g hg => ?_⟩⟩, ?_⟩
 . show OkB own.b.length (own.l.set k _).length own.b
   rw [List.length_set]; exact h.okb
 . exact h.lst i e' (old i e' hi hd').2 hd'
 . obtain ⟨hne, hi'⟩ := old i e' hi hd'
   obtain ⟨s1, s2⟩ := h.sep i e' hi' hd' ho' g hg
   exact ⟨s1, fun j e2 hj hd2 ho2 hne2 => s2 j e2 (old j e2 hj hd2).2 hd2 ho2 hne2⟩
 . have hb : (if (ν.v k).ownBlock = some b then w.heap[b]? else w0.F b) = some o := hb
   by_cases hg : (ν.v k).ownBlock = some b
   . rw [if_pos hg] at hb; exact hb
   . rw [if_neg hg] at hb; exact h.fr.here b o hb
 . show (if (ν.v k).ownBlock = some (ν.l i) then w.heap[ν.l i]? else w0.F (ν.l i)) = none
   rw [if_neg (fun hg => (h.sep k e hk hd ho _ hg).1 i hi rfl)]
   exact h.fr.offb i hi
 . obtain ⟨hne, hi'⟩ := old i e' hi hd'
   show (if (ν.v k).ownBlock = some g then w.heap[g]? else w0.F g) = none
   rw [if_neg (fun hg' => (h.sep k e hk hd ho g hg').2 i e' hi' hd' ho' hne hg)]
   exact h.fr.offl i e' hi' hd' ho' g hg
 . have hrow := hown.2
   refine ⟨hown.1, ?_⟩
   rcases hrow.2 with ⟨hv, h0⟩ | ⟨g, cap, cur, hv, hb, hg, hc, _, hsz, htk⟩
   . exact ⟨none, 0, by rw [hv, h0], by omega, fun hn => absurd hn (by omega)⟩
   . refine ⟨some ⟨g, 0, none⟩, cap, hv, hc, fun hn => ⟨g, cur, e.elT, rfl, ?_, fun j hj o c hoc => ?_⟩⟩
     . show (if (ν.v k).ownBlock = some g then w.heap[g]? else w0.F g) = _
       rw [if_pos (by rw [hv]; rfl), hg]
     . have hos : o < e.size := by rw [<- (hown.1.2 j hj).1]; exact lt_of_some_list hoc
       have h1 : e.flat[j * e.size + o]? = some c := by unfold LE.flat; rw [flat_get e.n (fun j hj => (hown.1.2 j hj).1) j hj o hos]; exact hoc
       rw [<- htk] at h1
       have hlt : j * e.size + o < e.n * e.size := by
         have : (j + 1) * e.size <= e.n * e.size := Nat.mul_le_mul_right _ hj
         rw [Nat.add_mul, Nat.one_mul] at this; omega
       rw [List.getElem?_take_of_lt hlt] at h1
       exact h1
theorem GlobB.setF {E : Env} {w0 : Base} (h : GlobB E w0) (hbt : E.bt = none) (F : Nat -> Option Obj) : GlobB E (setF w0 F) := ⟨h.glob, fun hb => by rw [hbt] at hb; cases hb⟩
def CX (P : Program) (n nb nl : Nat) (w0 : Base) (s : St) (c : Code) (R : X -> Base -> St -> Prop) : Prop :=
 ∀ Q ν a w, TR n ν s a -> WR w0 ν s.own s.mem w -> (∀ x w1 s1 ν1 a1 w', R x w1 s1 -> Agree nb nl ν ν1 -> TR n ν1 s1 a1 -> WR w1 ν1 s1.own s1.mem w' -> Q x.toExit a1 w') -> c.wp P Q a w
theorem CX.of {E : Env} {w0 : Base} {nb nl n : Nat} {c : Code} {s s' : St} {x : X} {R : X -> Base -> St -> Prop} (h : SemA E w0 nb nl n c s x s') (hR : R x w0 s') : CX E.P n nb nl w0 s c R := fun Q ν a w ht hw hQ =>
 h Q ν a w ht hw fun ν' a' w' ha ht' hw' => hQ x w0 s' ν' a' w' hR ha ht' hw'
theorem CX.mono {P : Program} {n nb nl : Nat} {w0 : Base} {s : St} {c : Code} {R R' : X -> Base -> St -> Prop} (h : CX P n nb nl w0 s c R) (hR : ∀ x w1 s1, R x w1 s1 -> R' x w1 s1) : CX P n nb nl w0 s c R' := fun Q ν a w ht hw hQ =>
 h Q ν a w ht hw fun x w1 s1 ν1 a1 w' hr => hQ x w1 s1 ν1 a1 w' (hR x w1 s1 hr)
theorem CX.seq {P : Program} {n nb nl : Nat} {w0 : Base} {s : St} {c1 c2 : Code} {R1 R : X -> Base -> St -> Prop} (h1 : CX P n nb nl w0 s c1 R1) (h2 : ∀ w1 s1, R1 none w1 s1 -> CX P n nb nl w1 s1 c2 R) (h3 : ∀ y w1 s1, R1 (some y) w1 s1 -> R (some y) w1 s1) : CX P n nb nl w0 s (.seq c1 c2) R := fun Q ν a w ht hw hQ => by
 refine wp_seq (h1 _ ν a w ht hw fun x w1 s1 ν1 a1 w' hr ha ht1 hw1 => ?_)
 rcases x with _ | _ | i
 . exact h2 w1 s1 hr Q ν1 a1 w' ht1 hw1 fun x w2 s2 ν2 a2 w'' hr2 ha2 => hQ x w2 s2 ν2 a2 w'' hr2 (Agree.trans ha ha2 (Nat.le_refl _) (Nat.le_refl _))
 . exact hQ (some none) w1 s1 ν1 a1 w' (h3 _ _ _ hr) ha ht1 hw1
 . exact hQ (some (some i)) w1 s1 ν1 a1 w' (h3 _ _ _ hr) ha ht1 hw1
def outB (id : Nat) : X -> X
 | some (some i) => if i = id then none else some (some i)
 | x => x
theorem CX.block {P : Program} {n nb nl : Nat} {w0 : Base} {s : St} {c : Code} {id : Nat} {R : X -> Base -> St -> Prop} (h : CX P n nb nl w0 s c fun x w1 s1 => R (outB id x) w1 s1) : CX P n nb nl w0 s (.block id c) R := fun Q ν a w ht hw hQ => by
 refine wp_block (h _ ν a w ht hw fun x w1 s1 ν1 a1 w' hr ha ht1 hw1 => ?_)
 rcases x with _ | _ | i
 . exact hQ none w1 s1 ν1 a1 w' hr ha ht1 hw1
 . exact hQ (some none) w1 s1 ν1 a1 w' hr ha ht1 hw1
 . show Exit.inBlock id Q (.exit i) a1 w'
   have hr : R (if i = id then none else some (some i)) w1 s1 := hr
   show (if i = id then Q .normal a1 w' else Q (.exit i) a1 w')
   by_cases hi : i = id
   . rw [if_pos hi] at hr
     rw [if_pos hi]
     exact hQ none w1 s1 ν1 a1 w' hr ha ht1 hw1
   . rw [if_neg hi] at hr
     rw [if_neg hi]
     exact hQ (some (some i)) w1 s1 ν1 a1 w' hr ha ht1 hw1
theorem CX.loop {P : Program} {n nb nl : Nat} {c : Code} {R : X -> Base -> St -> Prop} (I : Nat -> Base -> St -> Prop) (N : Nat) (step : ∀ j, j < N -> ∀ w1 s1, I j w1 s1 -> CX P n nb nl w1 s1 c fun x w2 s2 => match x with
     | none => I (j + 1) w2 s2
     | some y => R (some y) w2 s2)
   (last : ∀ w1 s1, I N w1 s1 -> CX P n nb nl w1 s1 c fun x w2 s2 => x ≠ none /\ R x w2 s2) {w0 : Base} {s : St} (h0 : I 0 w0 s) : CX P n nb nl w0 s (.loop c) R := fun Q ν a w ht hw hQ => by
 refine wp_loop_rounds (N + 1) ?_
 have key : ∀ k j, j + k = N -> ∀ w1 s1, I j w1 s1 -> ∀ ν1 a w, Agree nb nl ν ν1 -> TR n ν1 s1 a -> WR w1 ν1 s1.own s1.mem w -> Code.rounds P c Q (k + 1) a w := by
   intro k
   induction k with
   | zero =>
     intro j hj w1 s1 hI ν1 a w ha ht hw
     obtain rfl : j = N := by omega
     rw [rounds_succ]
     refine last w1 s1 hI _ ν1 a w ht hw fun x w2 s2 ν2 a2 w' ⟨hx, hr⟩ ha2 ht2 hw2 => ?_
     have ha3 := Agree.trans ha ha2 (Nat.le_refl _) (Nat.le_refl _)
     rcases x with _ | _ | i
     . exact absurd rfl hx
     . exact hQ _ w2 s2 ν2 a2 w' hr ha3 ht2 hw2
     . exact hQ _ w2 s2 ν2 a2 w' hr ha3 ht2 hw2
   | succ k ih =>
     intro j hj w1 s1 hI ν1 a w ha ht hw
     rw [rounds_succ]
     refine step j (by omega) w1 s1 hI _ ν1 a w ht hw fun x w2 s2 ν2 a2 w' hr ha2 ht2 hw2 => ?_
     have ha3 := Agree.trans ha ha2 (Nat.le_refl _) (Nat.le_refl _)
     rcases x with _ | _ | i
     . exact ih (j + 1) (by omega) w2 s2 hr ν2 a2 w' ha3 ht2 hw2
     . exact hQ (some none) w2 s2 ν2 a2 w' hr ha3 ht2 hw2
     . exact hQ (some (some i)) w2 s2 ν2 a2 w' hr ha3 ht2 hw2
 exact key N 0 (by omega) w0 s h0 ν a w (.refl _ _ _) ht hw
theorem CX.region {E : Env} (HC : CallOk E) {cl : Callee} (hst : ClSt cl) {w0 : Base} (hok : ClOk E w0 cl) {n nb nl id : Nat} {ops : Array Oper} (hG : GlobB E w0) {R : X -> Base -> St -> Prop} {l1 l2 : List Oper} (hl : ops.toList = l1 ++ l2) {s s1 : St} (h : simOps E cl n ops false l1 s = some s1) (hg : Good s) (hb : nb <= s.own.b.length) (hnl : nl <= s.own.l.length) (hh : Holds' s1)
   (hQ : ∀ Q ν1 a1 w1, TR n ν1 s1 a1 -> WR w0 ν1 s1.own s1.mem w1 -> (∀ x w2 s2 ν2 a2 w', R x w2 s2 -> Agree nb nl ν1 ν2 -> TR n ν2 s2 a2 -> WR w2 ν2 s2.own s2.mem w' -> Q x.toExit a2 w') -> wpList E.P ops Q l2 a1 w1) : CX E.P n nb nl w0 s (.region id ops false) R := fun Q ν a w ht hw hK => by
 refine wp_region_list ?_
 rw [hl]
 refine wpList_app (simOps_wp HC hst hok hG l1 s s1 h hg hh ν a w ht hw fun ν1 a1 w1 ha ht1 hw1 => ?_)
 exact hQ Q ν1 a1 w1 ht1 hw1 fun x w2 s2 ν2 a2 w' hr ha2 => hK x w2 s2 ν2 a2 w' hr (Agree.trans (ha.mono hb hnl) ha2 (Nat.le_refl _) (Nat.le_refl _))
theorem CX.cut {E : Env} (HC : CallOk E) {w0 : Base} {n nb nl id fuel : Nat} {ops : Array Oper} (hG : GlobB E w0) {R : X -> Base -> St -> Prop} {l1 l2 : List Oper} (orc : List Bool) (ob : List (Bool × Bool)) (hl : ops.toList = l1 ++ l2) {s s1 : St} (hg : goodB s = true) (h : simOps E (enterS E (simC E fuel)) n ops false l1 { s with orc := orc, obl := [] } = some s1) (hob : s1.obl = ob) (hb : nb <= s.own.b.length) (hnl : nl <= s.own.l.length) (hh : ∀ p ∈ ob, p.1 = p.2)
   (hQ : ∀ Q ν1 a1 w1, TR n ν1 s1 a1 -> WR w0 ν1 s1.own s1.mem w1 -> (∀ x w2 s2 ν2 a2 w', R x w2 s2 -> Agree nb nl ν1 ν2 -> TR n ν2 s2 a2 -> WR w2 ν2 s2.own s2.mem w' -> Q x.toExit a2 w') -> wpList E.P ops Q l2 a1 w1) : CX E.P n nb nl w0 s (.region id ops false) R := fun Q ν a w ht hw hK => by
 have g0 := goodB_ok hg
 have hst := enterS_st (E := E) (simC_st E fuel)
 exact CX.region HC hst (enterS_ok HC hG (simC_st E fuel) (simC_ok HC hG fuel)) hG hl h ⟨g0.lo, g0.llo, g0.ok, g0.okb⟩ hb hnl (fun p hp => hh p (by rw [<- hob]; exact hp)) hQ Q ν a w ⟨ht.size, ht.tm, ht.df⟩ hw hK
theorem CX.rest {E : Env} (HC : CallOk E) {w1 : Base} {n nb nl fuel : Nat} {ops : Array Oper} (hG : GlobB E w1) {R : X -> Base -> St -> Prop} {l2 : List Oper} {p : Pick} (orc : List Bool) (ob : List (Bool × Bool)) {s s2 : St} (hg : (goodB s && Nat.ble nb s.own.b.length && Nat.ble nl s.own.l.length && prefB nb p.bs && prefB nl p.ls) = true) (h : runOps E fuel n ops l2 p orc s = some (s2, ob)) (hh : ∀ p ∈ ob, p.1 = p.2) (hR : R none w1 s2)
   {Q : Exit -> Act -> World -> Prop} {ν : Nu} {a : Act} {w : World} (ht : TR n ν s a) (hw : WR w1 ν s.own s.mem w) (hK : ∀ x w2 s2 ν2 a2 w', R x w2 s2 -> Agree nb nl ν ν2 -> TR n ν2 s2 a2 -> WR w2 ν2 s2.own s2.mem w' -> Q x.toExit a2 w') : wpList E.P ops Q l2 a w := by
 simp only [Bool.and_eq_true] at hg
 obtain ⟨⟨⟨⟨hg, hb1⟩, hl1⟩, hb2⟩, hl2⟩ := hg
 have hD : Deep nb nl s := ⟨Nat.le_of_ble_eq_true hb1, Nat.le_of_ble_eq_true hl1⟩
 unfold runOps at h
 split at h
 . rename_i s' hs
   split at h
   . rename_i s3 hp
     simp only [qS, qP] at h
     obtain ⟨rfl, rfl⟩ := h
     have g0 := goodB_ok hg
     have g1 : Good { s with orc := orc, obl := [] } := ⟨g0.lo, g0.llo, g0.ok, g0.okb⟩
     have hst := enterS_st (E := E) (simC_st E fuel)
     obtain ⟨l1, g2⟩ := simOps_st hst l2 _ _ g1 hs
     refine simOps_wp HC hst (enterS_ok HC hG (simC_st E fuel) (simC_ok HC hG fuel)) hG l2 _ _ hs g1 hh ν a w ⟨ht.size, ht.tm, ht.df⟩ hw fun ν' a' w' ha ht' hw' => ?_
     obtain ⟨ν2, ha2, ht2, hw2⟩ := pick_okA (nb := nb) (nl := nl) ⟨Nat.le_trans hD.b l1.len, Nat.le_trans hD.l l1.llen⟩ hb2 hl2 hp g2.1 ht' hw'
     exact hK none w1 s3 ν2 a' w' hR (Agree.trans (ha.mono hD.b hD.l) ha2 (Nat.le_refl _) (Nat.le_refl _)) ht2 hw2
   . cases h
 . cases h
theorem runOpsA {E : Env} (HC : CallOk E) {w1 : Base} {n nb nl fuel : Nat} {ops : Array Oper} (hG : GlobB E w1) {l : List Oper} {p : Pick} (orc : List Bool) (ob : List (Bool × Bool)) {s s2 : St} (hg : (goodB s && Nat.ble nb s.own.b.length && Nat.ble nl s.own.l.length && prefB nb p.bs && prefB nl p.ls) = true) (h : runOps E fuel n ops l p orc s = some (s2, ob)) (hh : ∀ p ∈ ob, p.1 = p.2)
   {Q : Exit -> Act -> World -> Prop} {ν : Nu} {a : Act} {w : World} (ht : TR n ν s a) (hw : WR w1 ν s.own s.mem w) (hK : ∀ ν2 a2 w', Agree nb nl ν ν2 -> TR n ν2 s2 a2 -> WR w1 ν2 s2.own s2.mem w' -> Q .normal a2 w') : wpList E.P ops Q l a w :=
 CX.rest HC hG (R := fun x w2 s3 => x = none /\ w2 = w1 /\ s3 = s2) orc ob hg h hh ⟨rfl, rfl, rfl⟩ ht hw fun x w2 s3 ν2 a2 w' ⟨e1, e2, e3⟩ ha ht2 hw2 => by
   subst e1; subst e2; subst e3
   exact hK ν2 a2 w' ha ht2 hw2
theorem CX.cut2 {E : Env} (HC : CallOk E) {w0 : Base} {n nb nl fuel id : Nat} {ops : Array Oper} (hG : GlobB E w0) {R : X -> Base -> St -> Prop} {l1 l2 : List Oper} {p1 : Pick} (orc1 : List Bool) (ob1 : List (Bool × Bool)) {s s1 : St} (hl : ops.toList = l1 ++ l2)
   (hg1 : (goodB s && Nat.ble nb s.own.b.length && Nat.ble nl s.own.l.length && prefB nb p1.bs && prefB nl p1.ls) = true) (h1 : runOps E fuel n ops l1 p1 orc1 s = some (s1, ob1)) (hh1 : ∀ p ∈ ob1, p.1 = p.2)
   (hmid : ∀ ν1 a1 w1, TR n ν1 s1 a1 -> WR w0 ν1 s1.own s1.mem w1 -> ∃ (w2 : Base) (s2 s3 : St) (p2 : Pick) (orc2 : List Bool) (ob2 : List (Bool × Bool)), GlobB E w2 /\ TR n ν1 s2 a1 /\ WR w2 ν1 s2.own s2.mem w1 /\ (goodB s2 && Nat.ble nb s2.own.b.length && Nat.ble nl s2.own.l.length && prefB nb p2.bs && prefB nl p2.ls) = true /\ runOps E fuel n ops l2 p2 orc2 s2 = some (s3, ob2) /\ (∀ p ∈ ob2, p.1 = p.2) /\ R none w2 s3) : CX E.P n nb nl w0 s (.region id ops false) R := fun Q ν a w ht hw hQ => by
 refine wp_region_list ?_
 rw [hl]
 refine wpList_app (runOpsA HC hG orc1 ob1 hg1 h1 hh1 ht hw fun ν1 a1 w1 ha ht1 hw1 => ?_)
 obtain ⟨w2, s2, s3, p2, orc2, ob2, hG2, ht2, hw2, hg2, h2, hh2, hR⟩ := hmid ν1 a1 w1 ht1 hw1
 exact CX.rest HC hG2 orc2 ob2 hg2 h2 hh2 hR ht2 hw2 fun x w3 s4 ν2 a2 w' hr ha2 => hQ x w3 s4 ν2 a2 w' hr (Agree.trans ha ha2 (Nat.le_refl _) (Nat.le_refl _))
theorem CX.then {E : Env} {w0 : Base} {nb nl n : Nat} {c1 c2 : Code} {s S1 : St} {R : X -> Base -> St -> Prop} (h : SemA E w0 nb nl n c1 s none S1) (h2 : CX E.P n nb nl w0 S1 c2 R) : CX E.P n nb nl w0 s (.seq c1 c2) R :=
 CX.seq (R1 := fun x w1 s1 => x = none /\ w1 = w0 /\ s1 = S1) (CX.of h ⟨rfl, rfl, rfl⟩) (fun w1 s1 ⟨_, e1, e2⟩ => by subst e1; subst e2; exact h2) (fun y w1 s1 ⟨hx, _⟩ => by cases hx)
theorem CX.leave {E : Env} {w0 : Base} {nb nl n : Nat} {c1 c2 : Code} {s S1 : St} {y : Option Nat} {R : X -> Base -> St -> Prop} (h : SemA E w0 nb nl n c1 s (some y) S1) (hR : R (some y) w0 S1) : CX E.P n nb nl w0 s (.seq c1 c2) R :=
 CX.seq (R1 := fun x w1 s1 => x = some y /\ w1 = w0 /\ s1 = S1) (CX.of h ⟨rfl, rfl, rfl⟩) (fun w1 s1 ⟨hx, _⟩ => by cases hx) (fun y' w1 s1 ⟨hx, e1, e2⟩ => by subst e1; subst e2; rw [hx]; exact hR)
theorem CX.mid {E : Env} (HC : CallOk E) {w0 : Base} {n nb nl fuel id d : Nat} {ops : Array Oper} (hG : GlobB E w0) {R : X -> Base -> St -> Prop} {l1 l2 : List Oper} {o : Oper} {p1 : Pick} (orc1 : List Bool) (ob1 : List (Bool × Bool)) {s s1 : St} {f : FuncId} {args : List SV} (hl : ops.toList = l1 ++ o :: l2)
   (hg1 : (goodB s && Nat.ble nb s.own.b.length && Nat.ble nl s.own.l.length && prefB nb p1.bs && prefB nl p1.ls) = true) (h1 : runOps E fuel n ops l1 p1 orc1 s = some (s1, ob1)) (hh1 : ∀ p ∈ ob1, p.1 = p.2) (ho : o.guard = none) (hd : o.dst = some d) (hdn : d < n) (hc : callArgs s1 o = some (f, args)) (hg2 : (goodB s1 && Nat.ble nb s1.own.b.length && Nat.ble nl s1.own.l.length) = true)
   (hf : ∃ fn, E.P.funcs[f]? = some fn ∧ (fn.name == "runtime.NumGoroutine") = false ∧ fn.body.isNone = false)
   (hcall : ∀ ν1 w1 vs, WR w0 ν1 s1.own s1.mem w1 -> IsL ν1 args vs -> Calls E.P f vs.toArray w1 fun e w2 => ∃ (v : Value) (wB : Base) (ν2 : Nu) (xc : SV) (own2 : Mem) (s3 : St) (p2 : Pick) (orc2 : List Bool) (ob2 : List (Bool × Bool)), e = .returned v /\ Agree s1.own.b.length s1.own.l.length ν1 ν2 /\ Is ν2 xc v /\ WR wB ν2 own2 true w2 /\ GlobB E wB /\
     (goodB { tmps := (d, xc) :: s1.tmps, own := own2, lo := 0, llo := 0, mem := true, orc := [], obl := [] } && Nat.ble nb own2.b.length && Nat.ble nl own2.l.length && prefB nb p2.bs && prefB nl p2.ls) = true /\ runOps E fuel n ops l2 p2 orc2 { tmps := (d, xc) :: s1.tmps, own := own2, lo := 0, llo := 0, mem := true, orc := [], obl := [] } = some (s3, ob2) /\ (∀ p ∈ ob2, p.1 = p.2) /\ R none wB s3) : CX E.P n nb nl w0 s (.region id ops false) R := fun Q ν a w ht hw hQ => by
 simp only [Bool.and_eq_true] at hg2
 obtain ⟨⟨hg2, hb2⟩, hl2⟩ := hg2
 have g2 := goodB_ok hg2
 refine wp_region_list ?_
 rw [hl]
 refine wpList_app (runOpsA HC hG orc1 ob1 hg1 h1 hh1 ht hw fun ν1 a1 w1 ha ht1 hw1 => list_mid ho hc ht1 hf fun vs hvs => ?_)
 refine (hcall ν1 w1 vs hw1 hvs).mono fun e w2 ⟨v, wB, ν2, xc, own2, s3, p2, orc2, ob2, he, hag, hx, hwB, hGB, hgd, hr, hob, hR⟩ => ⟨v, he, ?_⟩
 have ht2 : TR n ν2 { tmps := (d, xc) :: s1.tmps, own := own2, lo := 0, llo := 0, mem := true, orc := [], obl := [] } (a1.put o.dst v) := by
   rw [hd]
   refine tr_put (s := { tmps := s1.tmps, own := own2, lo := 0, llo := 0, mem := true, orc := [], obl := [] }) (x := xc) ?_ hx ⟨ht1.size, fun t => Is_congr (look_ok g2.ok) hag (ht1.tm t), ht1.df⟩
   show (bif Nat.blt d n then some _ else none) = _
   rw [show Nat.blt d n = true by rw [Nat.blt_eq]; exact hdn]; rfl
 exact CX.rest HC hGB orc2 ob2 hgd hr hob hR ht2 hwB fun x w3 s4 ν4 a4 w' hr4 ha4 => hQ x w3 s4 ν4 a4 w' hr4 (Agree.trans (Agree.trans ha (hag.mono (Nat.le_of_ble_eq_true hb2) (Nat.le_of_ble_eq_true hl2)) (Nat.le_refl _) (Nat.le_refl _)) ha4 (Nat.le_refl _) (Nat.le_refl _))
theorem WR.addNew {w0 : Base} {ν : Nu} {own : Mem} {mem : Bool} {w1 w2 : World} (h : WR w0 ν own mem w1) (hb : Below w1.heap.size w1 w2) {e : LE} {u : Value} (ho : e.own = true) (hv : OwnB w1.heap.size w2 e u) : WR w0 (extV ν own.l.length u) { own with l := own.l ++ [e] } true w2 := by
 have hg := h.grown hb
 have hfr := freshC_of h [.inr e] [u] (w' := w2) ⟨⟨hv, fun g hg u' hu => by cases hu⟩, trivial⟩
 refine hg.addRow ho (hv.more h.below.size) hfr.1 fun g hgb => ?_
 rcases hv.2.2 with ⟨rfl, _⟩ | ⟨g', cap, cur, rfl, hge, _⟩
 . cases hgb
 . obtain rfl : g' = g := by simpa [Value.ownBlock] using hgb
   exact h.fr.fresh hge
theorem CX.calls {P : Program} {f : FuncId} {fn : Func} {c : Code} (hfn : P.funcs[f]? = some fn) (hbody : fn.body = some c) {E : Env} (hE : E.P = P) {args : List SV} {own : Mem} {w0 : Base} {R : X -> Base -> St -> Prop}
   (h : CX P (args.length + (fn.ntmps - args.length)) own.b.length own.l.length w0 { tmps := initS 0 args, own := own, lo := 0, llo := 0, mem := true, orc := [], obl := [] } c R) {K : Ending -> World -> Prop} {ν : Nu}
   (hK : ∀ x w1 s1, R x w1 s1 -> (∀ i, x ≠ some (some i)) /\ ∃ r, simRes P fn s1 = some r /\ ∀ ν1 v w', Ag own ν ν1 -> Is ν1 r v -> WR w1 ν1 s1.own true w' -> K (.returned v) w') {w : World} {vs : List Value} (hvs : IsL ν args vs) (hw : WR w0 ν own true w) : Calls P f vs.toArray w K := by
 have ht := tr_init hvs fn.ntmps { tmps := initS 0 args, own := own, lo := 0, llo := 0, mem := true, orc := [], obl := [] }
 refine calls_of_wp hfn hbody (h _ ν _ w ht hw fun x w1 s1 ν1 a1 w' hr ha ht1 hw1 => ?_)
 obtain ⟨hx, r, hsr, hk⟩ := hK x w1 s1 hr
 have hmem : WR w1 ν1 s1.own true w' := hw1.mem
 obtain ⟨v, hv, hres⟩ := simRes_ok (E := E) (by rw [hE]; exact hsr) ht1 hw1
 rcases x with _ | _ | i
 . exact bodyPost_end (by rw [<- hE]; exact hres) ht1.df (hk ν1 v w' ha hv hmem)
 . exact bodyPost_ret (by rw [<- hE]; exact hres) ht1.df (hk ν1 v w' ha hv hmem)
 . exact absurd rfl (hx i)
end Go.Proofs.Ytmaffamhjmlonaa.S2
namespace Go.Proofs.Ytmaffamhjmlonaa
open Go Go.RowKit Sim S2
noncomputable def eNB : ETab := orE eNum (orE eRecs eRow)
theorem eNB_ok {gl : Gl} : EffOk Try.prog gl eNB := eNum_ok.or (eRecs_ok.or eRow_ok)
theorem enB_ok : CallOk (enH13 eNB) := enH13_ok eNB_ok
def zB (v u : Value) : S2.Blk := ⟨[.inl ([true], v), .inl ([true], u)], 25, .cells⟩
noncomputable def xhB : Code := codeOf Try.prog 26
noncomputable def xhC (p : List Nat) : Code := codeAt xhB p
noncomputable def xhK : Code := xhC (0 :: liP)
noncomputable def xh8 : Code := codeAt xhK [1, 0, 0, 1, 1]
theorem xhB_eq : xhB = .seq (xhC [0]) (.seq (xhC [0, 1]) (.seq (xhC [0, 1, 1]) (.seq (xhC [0, 1, 1, 1]) (.seq (.seq (xhC [0, 0, 1, 1, 1, 1]) (.block 0 (.loop xhK))) (xhC [1, 1, 1, 1, 1]))))) := by kernel_rfl
theorem xhK_eq : xhK = .seq (codeAt xhK [0]) (.seq (codeAt xhK [0, 1]) (.seq (.block 1 (.seq (codeAt xhK [0, 0, 0, 1, 1]) (.region (regI xh8) (regO xh8) false))) (codeAt xhK [1, 1, 1]))) := by kernel_rfl
def xhE (el : Nat -> List Value) (j : Nat) : LE := ⟨40, 1, j, el, true, false, true⟩
def xh0 (v0 u0 v2 u2 : Value) (B : List Int) (b : Bool) : S2.St := { tmps := [(0, .inr (1, 0, none)), (1, .inl ([], .int .i64 8)), (2, .fn 27 [.a 1 0] [])], own := ⟨[zB v0 u0, rdK 0 b, zB v2 u2], [rsE B]⟩, lo := 0, llo := 0, mem := true, orc := [], obl := [] }
def xh1 (v0 u0 v2 u2 : Value) (B : List Int) (B1 : List Int) (b : Bool) (n : Int) : S2.St := { tmps := [(0, .inr (1, 0, none)), (1, .inl ([], .int .i64 8)), (2, .fn 27 [.a 1 0] []), (7, .inl ([true], .int .i64 n))], own := ⟨[zB v0 u0, rdK 1 b, zB v2 u2], [rsE B, rsE B1]⟩, lo := 0, llo := 0, mem := true, orc := [], obl := [] }
def xh3 (v0 u0 v2 u2 : Value) (B : List Int) (B1 : List Int) (b : Bool) (n : Int) : S2.St := { tmps := [(0, .inr (1, 0, none)), (2, .fn 27 [.a 1 0] []), (7, .inl ([true], .int .i64 n)), (8, .inl ([], .slice none 0 0))], own := ⟨[zB v0 u0, rdK 1 b, zB v2 u2], [rsE B, rsE B1]⟩, lo := 0, llo := 0, mem := true, orc := [], obl := [] }
def xhS (v0 u0 v2 u2 : Value) (B : List Int) (B1 : List Int) (b : Bool) (n : Int) (el : Nat -> List Value) (j : Nat) : S2.St := { tmps := [(0, .inr (1, 0, none)), (2, .fn 27 [.a 1 0] []), (8, .c 2), (23, .inl ([true], .int .i64 n)), (24, .inl ([true], .int .i64 j))], own := ⟨[zB v0 u0, rdK 1 b, zB v2 u2], [rsE B, rsE B1, xhE el j]⟩, lo := 0, llo := 0, mem := true, orc := [], obl := [] }
def xhSx (v0 u0 v2 u2 : Value) (B : List Int) (B1 : List Int) (b : Bool) (n : Int) (el : Nat -> List Value) (j : Nat) (x : Nat × S2.SV) : S2.St := { tmps := [(0, .inr (1, 0, none)), (2, .fn 27 [.a 1 0] []), (8, .c 2), (23, .inl ([true], .int .i64 n)), (24, .inl ([true], .int .i64 j)), x], own := ⟨[zB v0 u0, rdK 1 b, zB v2 u2], [rsE B, rsE B1, xhE el j]⟩, lo := 0, llo := 0, mem := true, orc := [], obl := [] }
def xhU (v0 u0 v2 u2 : Value) (B : List Int) (B1 : List Int) : S2.St := { tmps := [(6, .inl ([], .slice none 0 0))], own := ⟨[zB v0 u0, rdK 1 true, zB v2 u2], [rsE B, rsE B1]⟩, lo := 0, llo := 0, mem := true, orc := [], obl := [] }
def xhZ (v0 u0 v2 u2 : Value) (B : List Int) (B1 : List Int) (b : Bool) (el : Nat -> List Value) (j : Nat) : S2.St := { tmps := [(6, .c 2)], own := ⟨[zB v0 u0, rdK 1 b, zB v2 u2], [rsE B, rsE B1, xhE el j]⟩, lo := 0, llo := 0, mem := true, orc := [], obl := [] }
theorem xh_r0 (v0 u0 v2 u2 : Value) (B : List Int) (b : Bool) (w0 : S2.Base) (hG : GlobB (enH13 eNB) w0) : SemA (enH13 eNB) w0 3 1 37 (xhC [0]) (xh0 v0 u0 v2 u2 B b) none (xh0 v0 u0 v2 u2 B b) :=
 semA_iter enB_ok hG (p := { ts := [0, 1, 2], bs := [0, 1, 2], ls := [0] }) (fuel := 1000) [] [] (by kernel_rfl) (by kernel_rfl) qZ
theorem xh_r1 (v0 u0 v2 u2 : Value) (B : List Int) (b : Bool) (hB : B.length <= 1000000000000) (w0 : S2.Base) (hG : GlobB (enH13 eNB) w0) : SemA (enH13 eNB) w0 3 1 37 (xhC [0, 1]) (xh0 v0 u0 v2 u2 B b) none (xh1 v0 u0 v2 u2 B (numO B b).2.1 (numO B b).2.2 (numO B b).1) := by
 have h : SemA (enH13 eNB) w0 3 1 37 (xhC [0, 1]) (xh0 v0 u0 v2 u2 B b) none (xh1 v0 u0 v2 u2 B (numO (bysL (rsE B)) b).2.1 (numO (bysL (rsE B)) b).2.2 (numO (bysL (rsE B)) b).1) :=
   semA_iter enB_ok hG (p := { ts := [0, 1, 2, 7], bs := [0, 1, 2], ls := [0, 1] }) (fuel := 1000) [] [(pre (propB (isRest (rsE B))), true)] (by kernel_rfl) (by kernel_rfl) (qA (propB_ok.mpr (isRest_rs hB)) qZ)
 rw [bysL_rs] at h
 exact h
theorem xh_r2 (v0 u0 v2 u2 : Value) (B : List Int) (B1 : List Int) (b : Bool) (n : Int) (w0 : S2.Base) (hG : GlobB (enH13 eNB) w0) : SemA (enH13 eNB) w0 3 1 37 (xhC [0, 1, 1]) (xh1 v0 u0 v2 u2 B B1 b n) none (xh1 v0 u0 v2 u2 B B1 (b || decide (n > 8)) n) := by
 cases b
 . exact semA_iter enB_ok hG (p := { ts := [0, 1, 2, 7], bs := [0, 1, 2], ls := [0, 1], opb := [1] }) (fuel := 1000) [false] [(false, false)] (by kernel_rfl) (by kernel_rfl) (qA rfl qZ)
 . exact semA_iter enB_ok hG (p := { ts := [0, 1, 2, 7], bs := [0, 1, 2], ls := [0, 1], opb := [1] }) (fuel := 1000) [true] [(true, true)] (by kernel_rfl) (by kernel_rfl) (qA rfl qZ)
theorem xh_r3 (v0 u0 v2 u2 : Value) (B : List Int) (B1 : List Int) (b : Bool) (n : Int) (w0 : S2.Base) (hG : GlobB (enH13 eNB) w0) : SemA (enH13 eNB) w0 3 1 37 (xhC [0, 1, 1, 1]) (xh1 v0 u0 v2 u2 B B1 b n) none (xh3 v0 u0 v2 u2 B B1 b n) :=
 semA_iter enB_ok hG (p := { ts := [0, 2, 7, 8], bs := [0, 1, 2], ls := [0, 1] }) (fuel := 1000) [] [] (by kernel_rfl) (by kernel_rfl) qZ
theorem xh_r4 (v0 u0 v2 u2 : Value) (B : List Int) (B1 : List Int) (b : Bool) (n : Int) (el : Nat -> List Value) (w0 : S2.Base) (hG : GlobB (enH13 eNB) w0) : SemA (enH13 eNB) w0 3 1 37 (xhC [0, 0, 1, 1, 1, 1]) (xh3 v0 u0 v2 u2 B B1 b n) none (xhS v0 u0 v2 u2 B B1 b n el 0) :=
 semA_iter enB_ok hG (p := { ts := [0, 2, 8, 23, 24], bs := [0, 1, 2], ls := [0, 1, 2], opn := [24], nil := [(8, 40, 1, el)] }) (fuel := 1000) [] [] (by kernel_rfl) (by kernel_rfl) qZ
theorem xh_r10 (v0 u0 v2 u2 : Value) (B : List Int) (B1 : List Int) (b : Bool) (n : Int) (el : Nat -> List Value) (j : Nat) (w0 : S2.Base) (hG : GlobB (enH13 eNB) w0) : SemA (enH13 eNB) w0 3 1 37 (xhC [1, 1, 1, 1, 1]) (xhS v0 u0 v2 u2 B B1 b n el j) (some none) (xhZ v0 u0 v2 u2 B B1 b el j) :=
 semA_iter enB_ok hG (p := { ts := [6], bs := [0, 1, 2], ls := [0, 1, 2] }) (fuel := 1000) [] [] (by kernel_rfl) (by kernel_rfl) qZ
theorem xh_t (v0 u0 v2 u2 : Value) (B : List Int) (B1 : List Int) (b : Bool) (n : Int) (el : Nat -> List Value) (j : Nat) (w0 : S2.Base) (hG : GlobB (enH13 eNB) w0) : SemA (enH13 eNB) w0 3 1 37 (codeAt xhK [0]) (xhS v0 u0 v2 u2 B B1 b n el j) none (xhSx v0 u0 v2 u2 B B1 b n el j (25, .inl ([true], .bool (decide ((j : Int) < n))))) :=
 semA_iter enB_ok hG (p := { ts := [0, 2, 8, 23, 24, 25], bs := [0, 1, 2], ls := [0, 1, 2] }) (fuel := 1000) [] [] (by kernel_rfl) (by kernel_rfl) qZ
theorem xh_go (v0 u0 v2 u2 : Value) (B : List Int) (B1 : List Int) (b : Bool) (n : Int) (el : Nat -> List Value) (j : Nat) (hj : (j : Int) < n) (w0 : S2.Base) (hG : GlobB (enH13 eNB) w0) : SemA (enH13 eNB) w0 3 1 37 (codeAt xhK [0, 1]) (xhSx v0 u0 v2 u2 B B1 b n el j (25, .inl ([true], .bool (decide ((j : Int) < n))))) none (xhS v0 u0 v2 u2 B B1 b n el j) :=
 semA_iter enB_ok hG (p := { ts := [0, 2, 8, 23, 24], bs := [0, 1, 2], ls := [0, 1, 2] }) (fuel := 1000) [true] [(decide ((j : Int) < n), true)] (by kernel_rfl) (by kernel_rfl) (qA (ob_yes hj) qZ)
theorem xh_done (v0 u0 v2 u2 : Value) (B : List Int) (B1 : List Int) (b : Bool) (n : Int) (el : Nat -> List Value) (j : Nat) (hj : ¬ (j : Int) < n) (w0 : S2.Base) (hG : GlobB (enH13 eNB) w0) : SemA (enH13 eNB) w0 3 1 37 (codeAt xhK [0, 1]) (xhSx v0 u0 v2 u2 B B1 b n el j (25, .inl ([true], .bool (decide ((j : Int) < n))))) (some (some 0)) (xhS v0 u0 v2 u2 B B1 b n el j) :=
 semA_iter enB_ok hG (p := { ts := [0, 2, 8, 23, 24], bs := [0, 1, 2], ls := [0, 1, 2] }) (fuel := 1000) [false] [(decide ((j : Int) < n), false)] (by kernel_rfl) (by kernel_rfl) (qA (ob_no hj) qZ)
theorem xh_g (v0 u0 v2 u2 : Value) (B : List Int) (B1 : List Int) (n : Int) (el : Nat -> List Value) (j : Nat) (w0 : S2.Base) (hG : GlobB (enH13 eNB) w0) : SemA (enH13 eNB) w0 3 1 37 (codeAt xhK [0, 0, 0, 1, 1]) (xhS v0 u0 v2 u2 B B1 false n el j) none (xhS v0 u0 v2 u2 B B1 false n el j) :=
 semA_iter enB_ok hG (p := { ts := [0, 2, 8, 23, 24], bs := [0, 1, 2], ls := [0, 1, 2] }) (fuel := 1000) [false] [(false, false)] (by kernel_rfl) (by kernel_rfl) (qA rfl qZ)
theorem xh_bad (v0 u0 v2 u2 : Value) (B : List Int) (B1 : List Int) (n : Int) (el : Nat -> List Value) (j : Nat) (w0 : S2.Base) (hG : GlobB (enH13 eNB) w0) : SemA (enH13 eNB) w0 3 1 37 (codeAt xhK [0, 0, 0, 1, 1]) (xhS v0 u0 v2 u2 B B1 true n el j) (some none) (xhU v0 u0 v2 u2 B B1) :=
 semA_iter enB_ok hG (p := { ts := [6], bs := [0, 1, 2], ls := [0, 1] }) (fuel := 1000) [true] [(true, true)] (by kernel_rfl) (by kernel_rfl) (qA rfl qZ)
theorem xh_inc (v0 u0 v2 u2 : Value) (B : List Int) (B1 : List Int) (b : Bool) (n : Int) (el : Nat -> List Value) (j : Nat) (hj : j < 100000) (w0 : S2.Base) (hG : GlobB (enH13 eNB) w0) : SemA (enH13 eNB) w0 3 1 37 (codeAt xhK [1, 1, 1]) ({ xhS v0 u0 v2 u2 B B1 b n el j with own := ⟨[zB v0 u0, rdK 1 b, zB v2 u2], [rsE B, rsE B1, xhE el (j + 1)]⟩ }) none (xhS v0 u0 v2 u2 B B1 b n el (j + 1)) :=
 semA_iter enB_ok hG (p := { ts := [0, 2, 8, 23, 24], bs := [0, 1, 2], ls := [0, 1, 2], opn := [24] }) (fuel := 1000) [] [(pre (inI ((j : Int) + 1)), true)] (by kernel_rfl) (by kernel_rfl) (qA (ob_inI (by omega)) qZ)
noncomputable def xrB : Code := codeOf Try.prog 28
noncomputable def xrC (p : List Nat) : Code := codeAt xrB p
noncomputable def xrK : Code := xrC (0 :: liP)
noncomputable def xr8 : Code := codeAt xrK [1, 0, 0, 1, 1]
theorem xrB_eq : xrB = .seq (xrC [0]) (.seq (xrC [0, 1]) (.seq (xrC [0, 1, 1]) (.seq (xrC [0, 1, 1, 1]) (.seq (.seq (xrC [0, 0, 1, 1, 1, 1]) (.block 0 (.loop xrK))) (xrC [1, 1, 1, 1, 1]))))) := by kernel_rfl
theorem xrK_eq : xrK = .seq (codeAt xrK [0]) (.seq (codeAt xrK [0, 1]) (.seq (.block 1 (.seq (codeAt xrK [0, 0, 0, 1, 1]) (.region (regI xr8) (regO xr8) false))) (codeAt xrK [1, 1, 1]))) := by kernel_rfl
def xrE (el : Nat -> List Value) (j : Nat) : LE := ⟨43, 2, j, el, true, false, true⟩
def xr0 (v0 u0 v2 u2 : Value) (Ba B : List Int) (b : Bool) : S2.St := { tmps := [(0, .inr (1, 0, none)), (1, .inl ([], .int .i64 8192)), (2, .fn 29 [.a 1 0] [])], own := ⟨[zB v0 u0, rdK 1 b, zB v2 u2], [rsE Ba, rsE B]⟩, lo := 0, llo := 0, mem := true, orc := [], obl := [] }
def xr1 (v0 u0 v2 u2 : Value) (Ba B : List Int) (B1 : List Int) (b : Bool) (n : Int) : S2.St := { tmps := [(0, .inr (1, 0, none)), (1, .inl ([], .int .i64 8192)), (2, .fn 29 [.a 1 0] []), (7, .inl ([true], .int .i64 n))], own := ⟨[zB v0 u0, rdK 2 b, zB v2 u2], [rsE Ba, rsE B, rsE B1]⟩, lo := 0, llo := 0, mem := true, orc := [], obl := [] }
def xr3 (v0 u0 v2 u2 : Value) (Ba B : List Int) (B1 : List Int) (b : Bool) (n : Int) : S2.St := { tmps := [(0, .inr (1, 0, none)), (2, .fn 29 [.a 1 0] []), (7, .inl ([true], .int .i64 n)), (8, .inl ([], .slice none 0 0))], own := ⟨[zB v0 u0, rdK 2 b, zB v2 u2], [rsE Ba, rsE B, rsE B1]⟩, lo := 0, llo := 0, mem := true, orc := [], obl := [] }
def xrS (v0 u0 v2 u2 : Value) (Ba B : List Int) (B1 : List Int) (b : Bool) (n : Int) (el : Nat -> List Value) (j : Nat) : S2.St := { tmps := [(0, .inr (1, 0, none)), (2, .fn 29 [.a 1 0] []), (8, .c 3), (23, .inl ([true], .int .i64 n)), (24, .inl ([true], .int .i64 j))], own := ⟨[zB v0 u0, rdK 2 b, zB v2 u2], [rsE Ba, rsE B, rsE B1, xrE el j]⟩, lo := 0, llo := 0, mem := true, orc := [], obl := [] }
def xrSx (v0 u0 v2 u2 : Value) (Ba B : List Int) (B1 : List Int) (b : Bool) (n : Int) (el : Nat -> List Value) (j : Nat) (x : Nat × S2.SV) : S2.St := { tmps := [(0, .inr (1, 0, none)), (2, .fn 29 [.a 1 0] []), (8, .c 3), (23, .inl ([true], .int .i64 n)), (24, .inl ([true], .int .i64 j)), x], own := ⟨[zB v0 u0, rdK 2 b, zB v2 u2], [rsE Ba, rsE B, rsE B1, xrE el j]⟩, lo := 0, llo := 0, mem := true, orc := [], obl := [] }
def xrU (v0 u0 v2 u2 : Value) (Ba B : List Int) (B1 : List Int) : S2.St := { tmps := [(6, .inl ([], .slice none 0 0))], own := ⟨[zB v0 u0, rdK 2 true, zB v2 u2], [rsE Ba, rsE B, rsE B1]⟩, lo := 0, llo := 0, mem := true, orc := [], obl := [] }
def xrZ (v0 u0 v2 u2 : Value) (Ba B : List Int) (B1 : List Int) (b : Bool) (el : Nat -> List Value) (j : Nat) : S2.St := { tmps := [(6, .c 3)], own := ⟨[zB v0 u0, rdK 2 b, zB v2 u2], [rsE Ba, rsE B, rsE B1, xrE el j]⟩, lo := 0, llo := 0, mem := true, orc := [], obl := [] }
theorem xr_r0 (v0 u0 v2 u2 : Value) (Ba B : List Int) (b : Bool) (w0 : S2.Base) (hG : GlobB (enH13 eNB) w0) : SemA (enH13 eNB) w0 3 2 37 (xrC [0]) (xr0 v0 u0 v2 u2 Ba B b) none (xr0 v0 u0 v2 u2 Ba B b) :=
 semA_iter enB_ok hG (p := { ts := [0, 1, 2], bs := [0, 1, 2], ls := [0, 1] }) (fuel := 1000) [] [] (by kernel_rfl) (by kernel_rfl) qZ
theorem xr_r1 (v0 u0 v2 u2 : Value) (Ba B : List Int) (b : Bool) (hB : B.length <= 1000000000000) (w0 : S2.Base) (hG : GlobB (enH13 eNB) w0) : SemA (enH13 eNB) w0 3 2 37 (xrC [0, 1]) (xr0 v0 u0 v2 u2 Ba B b) none (xr1 v0 u0 v2 u2 Ba B (numO B b).2.1 (numO B b).2.2 (numO B b).1) := by
 have h : SemA (enH13 eNB) w0 3 2 37 (xrC [0, 1]) (xr0 v0 u0 v2 u2 Ba B b) none (xr1 v0 u0 v2 u2 Ba B (numO (bysL (rsE B)) b).2.1 (numO (bysL (rsE B)) b).2.2 (numO (bysL (rsE B)) b).1) :=
   semA_iter enB_ok hG (p := { ts := [0, 1, 2, 7], bs := [0, 1, 2], ls := [0, 1, 2] }) (fuel := 1000) [] [(pre (propB (isRest (rsE B))), true)] (by kernel_rfl) (by kernel_rfl) (qA (propB_ok.mpr (isRest_rs hB)) qZ)
 rw [bysL_rs] at h
 exact h
theorem xr_r2 (v0 u0 v2 u2 : Value) (Ba B : List Int) (B1 : List Int) (b : Bool) (n : Int) (w0 : S2.Base) (hG : GlobB (enH13 eNB) w0) : SemA (enH13 eNB) w0 3 2 37 (xrC [0, 1, 1]) (xr1 v0 u0 v2 u2 Ba B B1 b n) none (xr1 v0 u0 v2 u2 Ba B B1 (b || decide (n > 8192)) n) := by
 cases b
 . exact semA_iter enB_ok hG (p := { ts := [0, 1, 2, 7], bs := [0, 1, 2], ls := [0, 1, 2], opb := [1] }) (fuel := 1000) [false] [(false, false)] (by kernel_rfl) (by kernel_rfl) (qA rfl qZ)
 . exact semA_iter enB_ok hG (p := { ts := [0, 1, 2, 7], bs := [0, 1, 2], ls := [0, 1, 2], opb := [1] }) (fuel := 1000) [true] [(true, true)] (by kernel_rfl) (by kernel_rfl) (qA rfl qZ)
theorem xr_r3 (v0 u0 v2 u2 : Value) (Ba B : List Int) (B1 : List Int) (b : Bool) (n : Int) (w0 : S2.Base) (hG : GlobB (enH13 eNB) w0) : SemA (enH13 eNB) w0 3 2 37 (xrC [0, 1, 1, 1]) (xr1 v0 u0 v2 u2 Ba B B1 b n) none (xr3 v0 u0 v2 u2 Ba B B1 b n) :=
 semA_iter enB_ok hG (p := { ts := [0, 2, 7, 8], bs := [0, 1, 2], ls := [0, 1, 2] }) (fuel := 1000) [] [] (by kernel_rfl) (by kernel_rfl) qZ
theorem xr_r4 (v0 u0 v2 u2 : Value) (Ba B : List Int) (B1 : List Int) (b : Bool) (n : Int) (el : Nat -> List Value) (w0 : S2.Base) (hG : GlobB (enH13 eNB) w0) : SemA (enH13 eNB) w0 3 2 37 (xrC [0, 0, 1, 1, 1, 1]) (xr3 v0 u0 v2 u2 Ba B B1 b n) none (xrS v0 u0 v2 u2 Ba B B1 b n el 0) :=
 semA_iter enB_ok hG (p := { ts := [0, 2, 8, 23, 24], bs := [0, 1, 2], ls := [0, 1, 2, 3], opn := [24], nil := [(8, 43, 2, el)] }) (fuel := 1000) [] [] (by kernel_rfl) (by kernel_rfl) qZ
theorem xr_r10 (v0 u0 v2 u2 : Value) (Ba B : List Int) (B1 : List Int) (b : Bool) (n : Int) (el : Nat -> List Value) (j : Nat) (w0 : S2.Base) (hG : GlobB (enH13 eNB) w0) : SemA (enH13 eNB) w0 3 2 37 (xrC [1, 1, 1, 1, 1]) (xrS v0 u0 v2 u2 Ba B B1 b n el j) (some none) (xrZ v0 u0 v2 u2 Ba B B1 b el j) :=
 semA_iter enB_ok hG (p := { ts := [6], bs := [0, 1, 2], ls := [0, 1, 2, 3] }) (fuel := 1000) [] [] (by kernel_rfl) (by kernel_rfl) qZ
theorem xr_t (v0 u0 v2 u2 : Value) (Ba B : List Int) (B1 : List Int) (b : Bool) (n : Int) (el : Nat -> List Value) (j : Nat) (w0 : S2.Base) (hG : GlobB (enH13 eNB) w0) : SemA (enH13 eNB) w0 3 2 37 (codeAt xrK [0]) (xrS v0 u0 v2 u2 Ba B B1 b n el j) none (xrSx v0 u0 v2 u2 Ba B B1 b n el j (25, .inl ([true], .bool (decide ((j : Int) < n))))) :=
 semA_iter enB_ok hG (p := { ts := [0, 2, 8, 23, 24, 25], bs := [0, 1, 2], ls := [0, 1, 2, 3] }) (fuel := 1000) [] [] (by kernel_rfl) (by kernel_rfl) qZ
theorem xr_go (v0 u0 v2 u2 : Value) (Ba B : List Int) (B1 : List Int) (b : Bool) (n : Int) (el : Nat -> List Value) (j : Nat) (hj : (j : Int) < n) (w0 : S2.Base) (hG : GlobB (enH13 eNB) w0) : SemA (enH13 eNB) w0 3 2 37 (codeAt xrK [0, 1]) (xrSx v0 u0 v2 u2 Ba B B1 b n el j (25, .inl ([true], .bool (decide ((j : Int) < n))))) none (xrS v0 u0 v2 u2 Ba B B1 b n el j) :=
 semA_iter enB_ok hG (p := { ts := [0, 2, 8, 23, 24], bs := [0, 1, 2], ls := [0, 1, 2, 3] }) (fuel := 1000) [true] [(decide ((j : Int) < n), true)] (by kernel_rfl) (by kernel_rfl) (qA (ob_yes hj) qZ)
theorem xr_done (v0 u0 v2 u2 : Value) (Ba B : List Int) (B1 : List Int) (b : Bool) (n : Int) (el : Nat -> List Value) (j : Nat) (hj : ¬ (j : Int) < n) (w0 : S2.Base) (hG : GlobB (enH13 eNB) w0) : SemA (enH13 eNB) w0 3 2 37 (codeAt xrK [0, 1]) (xrSx v0 u0 v2 u2 Ba B B1 b n el j (25, .inl ([true], .bool (decide ((j : Int) < n))))) (some (some 0)) (xrS v0 u0 v2 u2 Ba B B1 b n el j) :=
 semA_iter enB_ok hG (p := { ts := [0, 2, 8, 23, 24], bs := [0, 1, 2], ls := [0, 1, 2, 3] }) (fuel := 1000) [false] [(decide ((j : Int) < n), false)] (by kernel_rfl) (by kernel_rfl) (qA (ob_no hj) qZ)
theorem xr_g (v0 u0 v2 u2 : Value) (Ba B : List Int) (B1 : List Int) (n : Int) (el : Nat -> List Value) (j : Nat) (w0 : S2.Base) (hG : GlobB (enH13 eNB) w0) : SemA (enH13 eNB) w0 3 2 37 (codeAt xrK [0, 0, 0, 1, 1]) (xrS v0 u0 v2 u2 Ba B B1 false n el j) none (xrS v0 u0 v2 u2 Ba B B1 false n el j) :=
 semA_iter enB_ok hG (p := { ts := [0, 2, 8, 23, 24], bs := [0, 1, 2], ls := [0, 1, 2, 3] }) (fuel := 1000) [false] [(false, false)] (by kernel_rfl) (by kernel_rfl) (qA rfl qZ)
theorem xr_bad (v0 u0 v2 u2 : Value) (Ba B : List Int) (B1 : List Int) (n : Int) (el : Nat -> List Value) (j : Nat) (w0 : S2.Base) (hG : GlobB (enH13 eNB) w0) : SemA (enH13 eNB) w0 3 2 37 (codeAt xrK [0, 0, 0, 1, 1]) (xrS v0 u0 v2 u2 Ba B B1 true n el j) (some none) (xrU v0 u0 v2 u2 Ba B B1) :=
 semA_iter enB_ok hG (p := { ts := [6], bs := [0, 1, 2], ls := [0, 1, 2] }) (fuel := 1000) [true] [(true, true)] (by kernel_rfl) (by kernel_rfl) (qA rfl qZ)
theorem xr_inc (v0 u0 v2 u2 : Value) (Ba B : List Int) (B1 : List Int) (b : Bool) (n : Int) (el : Nat -> List Value) (j : Nat) (hj : j < 100000) (w0 : S2.Base) (hG : GlobB (enH13 eNB) w0) : SemA (enH13 eNB) w0 3 2 37 (codeAt xrK [1, 1, 1]) ({ xrS v0 u0 v2 u2 Ba B B1 b n el j with own := ⟨[zB v0 u0, rdK 2 b, zB v2 u2], [rsE Ba, rsE B, rsE B1, xrE el (j + 1)]⟩ }) none (xrS v0 u0 v2 u2 Ba B B1 b n el (j + 1)) :=
 semA_iter enB_ok hG (p := { ts := [0, 2, 8, 23, 24], bs := [0, 1, 2], ls := [0, 1, 2, 3], opn := [24] }) (fuel := 1000) [] [(pre (inI ((j : Int) + 1)), true)] (by kernel_rfl) (by kernel_rfl) (qA (ob_inI (by omega)) qZ)
def HOk (F : Nat -> Option Obj) (el : Nat -> List Value) (Ls : List (List Rc)) : Prop := ∀ i, i < Ls.length -> ∃ v, el i = [v] /\ FRow F v (coE ((Ls[i]?).getD []))
def ROk (F : Nat -> Option Obj) (el : Nat -> List Value) (Ls : List (Int × List Rf)) : Prop := ∀ i, i < Ls.length -> ∃ v, el i = [.int .i64 ((Ls[i]?).getD (0, [])).1, v] /\ FRow F v (roE ((Ls[i]?).getD (0, [])).2)
theorem HOk.grow {F F' : Nat -> Option Obj} (hF : FLe F F') {el : Nat -> List Value} {Ls : List (List Rc)} {n : Nat} (hn : n = Ls.length) (h : HOk F el Ls) {L : List Rc} {v : Value} (hv : FRow F' v (coE L)) : HOk F' (joinE n el (tabE [[v]])) (Ls ++ [L]) := fun i hi => by
 subst hn
 rw [List.length_append] at hi
 have hi : i < Ls.length + 1 := hi
 unfold joinE
 cases hb : Nat.blt i Ls.length
 . have : i = Ls.length := by
     have : ¬ i < Ls.length := fun hc => by rw [<- Nat.blt_eq, hb] at hc; cases hc
     omega
   subst this
   refine ⟨v, by show tabE [[v]] (Ls.length - Ls.length) = [v]; rw [Nat.sub_self]; rfl, ?_⟩
   simpa using hv
 . have hlt : i < Ls.length := by simpa [Nat.blt_eq] using hb
   obtain ⟨u, h1, h2⟩ := h i hlt
   refine ⟨u, h1, ?_⟩
   rw [List.getElem?_append_left hlt]
   exact h2.mono hF
theorem ROk.grow {F F' : Nat -> Option Obj} (hF : FLe F F') {el : Nat -> List Value} {Ls : List (Int × List Rf)} {n : Nat} (hn : n = Ls.length) (h : ROk F el Ls) {L : Int × List Rf} {v : Value} (hv : FRow F' v (roE L.2)) : ROk F' (joinE n el (tabE [[.int .i64 L.1, v]])) (Ls ++ [L]) := fun i hi => by
 subst hn
 rw [List.length_append] at hi
 have hi : i < Ls.length + 1 := hi
 unfold joinE
 cases hb : Nat.blt i Ls.length
 . have : i = Ls.length := by
     have : ¬ i < Ls.length := fun hc => by rw [<- Nat.blt_eq, hb] at hc; cases hc
     omega
   subst this
   refine ⟨v, by show tabE [[.int .i64 L.1, v]] (Ls.length - Ls.length) = _; rw [Nat.sub_self]; simp [tabE], ?_⟩
   simpa using hv
 . have hlt : i < Ls.length := by simpa [Nat.blt_eq] using hb
   obtain ⟨u, h1, h2⟩ := h i hlt
   refine ⟨u, by rw [List.getElem?_append_left hlt]; exact h1, ?_⟩
   rw [List.getElem?_append_left hlt]
   exact h2.mono hF
theorem HOk.mono {F F' : Nat -> Option Obj} (hF : FLe F F') {el : Nat -> List Value} {Ls : List (List Rc)} (h : HOk F el Ls) : HOk F' el Ls := fun i hi => by
 obtain ⟨v, h1, h2⟩ := h i hi
 exact ⟨v, h1, h2.mono hF⟩
theorem ROk.mono {F F' : Nat -> Option Obj} (hF : FLe F F') {el : Nat -> List Value} {Ls : List (Int × List Rf)} (h : ROk F el Ls) : ROk F' el Ls := fun i hi => by
 obtain ⟨v, h1, h2⟩ := h i hi
 exact ⟨v, h1, h2.mono hF⟩
theorem enB_bt : (enH13 eNB).bt = none := rfl
theorem outE_one {F : Nat -> Option Obj} {v : Value} {e : LE} (h : FRow F v e) : ∃ a cap, v = .slice a e.n cap := by
 obtain ⟨_, a, cap, hv, _⟩ := h
 exact ⟨a, cap, hv⟩
theorem glob_at {E : S2.Env} {W0 w1 : S2.Base} (h : GlobB E W0) (hbt : E.bt = none) (he : w1.toWorld = W0.toWorld) : GlobB E w1 := ⟨by rw [he]; exact h.glob, fun hb => by rw [hbt] at hb; cases hb⟩
def xhM (v0 u0 v2 u2 : Value) (B : List Int) (B2 : List Int) (b2 : Bool) (n : Int) (el : Nat -> List Value) (j : Nat) (x : S2.SV) (e : LE) : S2.St := { tmps := [(0, .inr (1, 0, none)), (2, .fn 27 [.a 1 0] []), (8, .c 2), (23, .inl ([true], .int .i64 n)), (24, .inl ([true], .int .i64 j)), (30, .c 2), (32, x)], own := ⟨[zB v0 u0, rdK 1 b2, zB v2 u2], [rsE B, rsE B2, xhE el j, e]⟩, lo := 0, llo := 0, mem := true, orc := [], obl := [] }
def xhN (v0 u0 v2 u2 : Value) (B : List Int) (B2 : List Int) (b2 : Bool) (n : Int) (el : Nat -> List Value) (j : Nat) (e : LE) : S2.St := { tmps := [(0, .inr (1, 0, none)), (2, .fn 27 [.a 1 0] []), (8, .c 2), (23, .inl ([true], .int .i64 n)), (24, .inl ([true], .int .i64 j))], own := ⟨[zB v0 u0, rdK 1 b2, zB v2 u2], [rsE B, rsE B2, e]⟩, lo := 0, llo := 0, mem := true, orc := [], obl := [] }
theorem xh8_ops : (regO xh8).toList = (regO xh8).toList.take 3 ++ (regO xh8).toList.drop 3 := by kernel_rfl
theorem xh_cut (v0 u0 v2 u2 : Value) (B : List Int) (B1 : List Int) (n : Int) (el : Nat -> List Value) (j : Nat) : runOps (enH13 eNB) 1000 37 (regO xh8) ((regO xh8).toList.take 3) { ts := [0, 2, 8, 23, 24, 30, 32], bs := [0, 1, 2], ls := [0, 3, 2, 4] } [] (xhS v0 u0 v2 u2 B B1 false n el j) = some (xhM v0 u0 v2 u2 B (lcO (bysL (rsE B1)) false).2.1 (lcO (bysL (rsE B1)) false).2.2 n el j (.c 3) (coE (lcO (bysL (rsE B1)) false).1), [(pre (propB (isRest (rsE B1))), true)]) := by kernel_rfl
theorem xh_app (v0 u0 v2 u2 : Value) (B : List Int) (B2 : List Int) (b2 : Bool) (n : Int) (el : Nat -> List Value) (j : Nat) (a : Option Addr) (len cap : Nat) (x : Int) (e : LE) : runOps (enH13 eNB) 1000 37 (regO xh8) ((regO xh8).toList.drop 3) { ts := [0, 2, 8, 23, 24], bs := [0, 1, 2], ls := [0, 1, 4] } [] (xhM v0 u0 v2 u2 B B2 b2 n el j (.inl ([true], .slice a len cap)) { e with dead := true }) = some (xhN v0 u0 v2 u2 B B2 b2 n el j (xhE (joinE j el (tabE [[.slice a len cap]])) (j + 1)), [(pre (decide (j + 1 <= maxLen /\ (j + 1) * 24 <= 140737488355328 /\ 0 < 1)), true)]) := by kernel_rfl
theorem xh_eight (v0 u0 v2 u2 : Value) (B : List Int) (B1 : List Int) (hB : B1.length <= 1000000000000) (n : Int) (el : Nat -> List Value) (j : Nat) (hj : j < 100000) (w0 : S2.Base) (hG : GlobB (enH13 eNB) w0) : CX Try.prog 37 3 1 w0 (xhS v0 u0 v2 u2 B B1 false n el j) (.region (regI xh8) (regO xh8) false) fun x w1 s1 => x = none /\ w1.toWorld = w0.toWorld /\ FLe w0.F w1.F /\ ∃ v, FRow w1.F v (coE (lcO B1 false).1) /\ s1 = xhN v0 u0 v2 u2 B (lcO B1 false).2.1 (lcO B1 false).2.2 n el j (xhE (joinE j el (tabE [[v]])) (j + 1)) := by
 refine CX.cut2 (E := enH13 eNB) enB_ok hG (l1 := (regO xh8).toList.take 3) (l2 := (regO xh8).toList.drop 3) [] _ xh8_ops (by kernel_rfl) (xh_cut v0 u0 v2 u2 B B1 n el j) (qA (propB_ok.mpr (isRest_rs hB)) qZ) fun ν1 a1 w1 ht1 hw1 => ?_
 obtain ⟨F', hF, hw2, hrow⟩ := hw1.seal (k := 3) (e := (coE (lcO (bysL (rsE B1)) false).1)) rfl rfl rfl
 obtain ⟨a, cap, hv⟩ := outE_one hrow
 have hv : ν1.v 3 = .slice a (lcO (bysL (rsE B1)) false).1.length cap := hv
 rw [bysL_rs] at hv hrow
 refine ⟨setF w0 F', xhM v0 u0 v2 u2 B (lcO B1 false).2.1 (lcO B1 false).2.2 n el j (.inl ([true], .slice a (lcO B1 false).1.length cap)) { (coE (lcO B1 false).1) with dead := true }, _, _, [], _, hG.setF enB_bt F', ?_, ?_, ?_, xh_app v0 u0 v2 u2 B (lcO B1 false).2.1 (lcO B1 false).2.2 n el j a (lcO B1 false).1.length cap 0 (coE (lcO B1 false).1), ?_, rfl, rfl, hF, .slice a (lcO B1 false).1.length cap, ?_, rfl⟩
 . rw [bysL_rs] at ht1
   refine ht1.rebase fun p hp u hu => ?_
   simp only [xhM, List.mem_cons, List.not_mem_nil, or_false] at hp
   rcases hp with rfl | rfl | rfl | rfl | rfl | rfl | rfl
   . exact hu
   . exact hu
   . exact hu
   . exact hu
   . exact hu
   . exact hu
   . have hu : u = ν1.v 3 := hu
     show u = _
     rw [hu, hv]; rfl
 . rw [bysL_rs] at hw2
   exact hw2
 . kernel_rfl
 . exact qA (by unfold pre maxLen; exact decide_eq_true (by omega)) qZ
 . rw [<- hv]; exact hrow
def xhR (v0 u0 v2 u2 : Value) (B : List Int) (B1 : List Int) (b : Bool) (n : Int) (W0 : S2.Base) (x : X) (w1 : S2.Base) (s1 : S2.St) : Prop := w1.toWorld = W0.toWorld /\ FLe W0.F w1.F /\ ((x = some (some 0) /\ wrN lcO B1 b n.toNat = n.toNat /\ ∃ el, s1 = xhS v0 u0 v2 u2 B (stF lcO B1 b n.toNat).2.1 (stF lcO B1 b n.toNat).2.2 n el (n.toNat) /\ HOk w1.F el (stF lcO B1 b n.toNat).1) \/ (x = some none /\ wrN lcO B1 b n.toNat ≠ n.toNat /\ s1 = xhU v0 u0 v2 u2 B (stF lcO B1 b (wrN lcO B1 b n.toNat)).2.1))
def xhI (v0 u0 v2 u2 : Value) (B : List Int) (B1 : List Int) (b : Bool) (n : Int) (W0 : S2.Base) (j : Nat) (w1 : S2.Base) (s1 : S2.St) : Prop := w1.toWorld = W0.toWorld /\ FLe W0.F w1.F /\ ∃ el, s1 = xhS v0 u0 v2 u2 B (stF lcO B1 b j).2.1 (stF lcO B1 b j).2.2 n el (j) /\ HOk w1.F el (stF lcO B1 b j).1
theorem xh_round (v0 u0 v2 u2 : Value) (B : List Int) (B1 : List Int) (hB : B1.length <= 1000000000000) (b : Bool) (n : Int) (hn : b = false -> n <= 8) (W0 : S2.Base) (hG : GlobB (enH13 eNB) W0) (j : Nat) (hj : j < wrN lcO B1 b n.toNat) (w1 : S2.Base) (s1 : S2.St) (hI : xhI v0 u0 v2 u2 B B1 b n W0 j w1 s1) : CX Try.prog 37 3 1 w1 s1 xhK fun x w2 s2 => match x with
     | none => xhI v0 u0 v2 u2 B B1 b n W0 (j + 1) w2 s2
     | some y => xhR v0 u0 v2 u2 B B1 b n W0 (some y) w2 s2 := by
 obtain ⟨hw, hF, el, rfl, hok⟩ := hI
 have hG1 := glob_at hG enB_bt hw
 have hle := skipN_le (fun j => !(stF lcO B1 b j).2.2) n.toNat 0
 have hle : wrN lcO B1 b n.toNat <= 0 + n.toNat := hle
 have h0 := skipN_all (fun j => !(stF lcO B1 b j).2.2) n.toNat 0
 have hz : b = false := by simpa [stF] using h0 0 (Nat.le_refl _) (by show 0 < wrN lcO B1 b n.toNat; omega)
 have hb : (stF lcO B1 b j).2.2 = false := by simpa using h0 j (Nat.zero_le _) hj
 have hn := hn hz
 have hl := stF_less lc_less B1 b j
 have hlen := stF_len (next := lcO) B1 b j
 have e1 : stF lcO B1 b (j + 1) = ((stF lcO B1 b j).1 ++ [(lcO (stF lcO B1 b j).2.1 (stF lcO B1 b j).2.2).1], (lcO (stF lcO B1 b j).2.1 (stF lcO B1 b j).2.2).2) := rfl
 rw [hb] at e1 ⊢
 generalize hB2 : (stF lcO B1 b j).2.1 = B2 at *
 rw [xhK_eq]
 refine CX.then (xh_t v0 u0 v2 u2 B B2 false n el j w1 hG1) (CX.then (xh_go v0 u0 v2 u2 B B2 false n el j (by omega) w1 hG1) ?_)
 refine CX.seq (R1 := fun x w2 s2 => x = none /\ w2.toWorld = w1.toWorld /\ FLe w1.F w2.F /\ ∃ v, FRow w2.F v (coE (lcO B2 false).1) /\ s2 = xhN v0 u0 v2 u2 B (lcO B2 false).2.1 (lcO B2 false).2.2 n el j (xhE (joinE j el (tabE [[v]])) (j + 1))) (CX.block (CX.then (xh_g v0 u0 v2 u2 B B2 n el j w1 hG1) ((xh_eight v0 u0 v2 u2 B B2 (by omega) n el j (by omega) w1 hG1).mono fun x w2 s2 h => ?_))) (fun w2 s2 h => ?_) (fun y w2 s2 h => by cases h.1)
 . obtain ⟨hx, h⟩ := h
   subst hx
   exact ⟨rfl, h⟩
 . obtain ⟨_, q1, q2, v, q3, rfl⟩ := h
   refine CX.of (E := enH13 eNB) (xh_inc v0 u0 v2 u2 B (lcO B2 false).2.1 (lcO B2 false).2.2 n (joinE j el (tabE [[v]])) j (by omega) w2 (glob_at hG1 enB_bt q1)) ?_
   refine ⟨q1.trans hw, hF.trans q2, joinE j el (tabE [[v]]), ?_, ?_⟩
   . rw [e1]
   . rw [e1]
     exact HOk.grow q2 hlen.symm hok q3
def xrM (v0 u0 v2 u2 : Value) (Ba B : List Int) (B2 : List Int) (b2 : Bool) (n : Int) (el : Nat -> List Value) (j : Nat) (x : S2.SV) (e : LE) : S2.St := { tmps := [(0, .inr (1, 0, none)), (2, .fn 29 [.a 1 0] []), (8, .c 3), (23, .inl ([true], .int .i64 n)), (24, .inl ([true], .int .i64 j)), (30, .c 3), (32, x)], own := ⟨[zB v0 u0, rdK 2 b2, zB v2 u2], [rsE Ba, rsE B, rsE B2, xrE el j, e]⟩, lo := 0, llo := 0, mem := true, orc := [], obl := [] }
def xrN (v0 u0 v2 u2 : Value) (Ba B : List Int) (B2 : List Int) (b2 : Bool) (n : Int) (el : Nat -> List Value) (j : Nat) (e : LE) : S2.St := { tmps := [(0, .inr (1, 0, none)), (2, .fn 29 [.a 1 0] []), (8, .c 3), (23, .inl ([true], .int .i64 n)), (24, .inl ([true], .int .i64 j))], own := ⟨[zB v0 u0, rdK 2 b2, zB v2 u2], [rsE Ba, rsE B, rsE B2, e]⟩, lo := 0, llo := 0, mem := true, orc := [], obl := [] }
theorem xr8_ops : (regO xr8).toList = (regO xr8).toList.take 3 ++ (regO xr8).toList.drop 3 := by kernel_rfl
theorem xr_cut (v0 u0 v2 u2 : Value) (Ba B : List Int) (B1 : List Int) (n : Int) (el : Nat -> List Value) (j : Nat) : runOps (enH13 eNB) 1000 37 (regO xr8) ((regO xr8).toList.take 3) { ts := [0, 2, 8, 23, 24, 30, 32], bs := [0, 1, 2], ls := [0, 1, 5, 3, 6] } [] (xrS v0 u0 v2 u2 Ba B B1 false n el j) = some (xrM v0 u0 v2 u2 Ba B (rowO (bysL (rsE B1)) false).2.1 (rowO (bysL (rsE B1)) false).2.2 n el j (.st [.v [true] (.int .i64 (rowO (bysL (rsE B1)) false).1.1), .l 4]) (roE (rowO (bysL (rsE B1)) false).1.2), [(pre (propB (isRest (rsE B1))), true)]) := by kernel_rfl
theorem xr_app (v0 u0 v2 u2 : Value) (Ba B : List Int) (B2 : List Int) (b2 : Bool) (n : Int) (el : Nat -> List Value) (j : Nat) (a : Option Addr) (len cap : Nat) (x : Int) (e : LE) : runOps (enH13 eNB) 1000 37 (regO xr8) ((regO xr8).toList.drop 3) { ts := [0, 2, 8, 23, 24], bs := [0, 1, 2], ls := [0, 1, 2, 5] } [] (xrM v0 u0 v2 u2 Ba B B2 b2 n el j (.inl ([true, true], .agg #[.int .i64 x, .slice a len cap])) { e with dead := true }) = some (xrN v0 u0 v2 u2 Ba B B2 b2 n el j (xrE (joinE j el (tabE [[.int .i64 x, .slice a len cap]])) (j + 1)), [(pre (decide (j + 1 <= maxLen /\ (j + 1) * 32 <= 140737488355328 /\ 0 < 1)), true)]) := by kernel_rfl
theorem xr_eight (v0 u0 v2 u2 : Value) (Ba B : List Int) (B1 : List Int) (hB : B1.length <= 1000000000000) (n : Int) (el : Nat -> List Value) (j : Nat) (hj : j < 100000) (w0 : S2.Base) (hG : GlobB (enH13 eNB) w0) : CX Try.prog 37 3 2 w0 (xrS v0 u0 v2 u2 Ba B B1 false n el j) (.region (regI xr8) (regO xr8) false) fun x w1 s1 => x = none /\ w1.toWorld = w0.toWorld /\ FLe w0.F w1.F /\ ∃ v, FRow w1.F v (roE (rowO B1 false).1.2) /\ s1 = xrN v0 u0 v2 u2 Ba B (rowO B1 false).2.1 (rowO B1 false).2.2 n el j (xrE (joinE j el (tabE [[.int .i64 (rowO B1 false).1.1, v]])) (j + 1)) := by
 refine CX.cut2 (E := enH13 eNB) enB_ok hG (l1 := (regO xr8).toList.take 3) (l2 := (regO xr8).toList.drop 3) [] _ xr8_ops (by kernel_rfl) (xr_cut v0 u0 v2 u2 Ba B B1 n el j) (qA (propB_ok.mpr (isRest_rs hB)) qZ) fun ν1 a1 w1 ht1 hw1 => ?_
 obtain ⟨F', hF, hw2, hrow⟩ := hw1.seal (k := 4) (e := (roE (rowO (bysL (rsE B1)) false).1.2)) rfl rfl rfl
 obtain ⟨a, cap, hv⟩ := outE_one hrow
 have hv : ν1.v 4 = .slice a (rowO (bysL (rsE B1)) false).1.2.length cap := hv
 rw [bysL_rs] at hv hrow
 refine ⟨setF w0 F', xrM v0 u0 v2 u2 Ba B (rowO B1 false).2.1 (rowO B1 false).2.2 n el j (.inl ([true, true], .agg #[.int .i64 (rowO B1 false).1.1, .slice a (rowO B1 false).1.2.length cap])) { (roE (rowO B1 false).1.2) with dead := true }, _, _, [], _, hG.setF enB_bt F', ?_, ?_, ?_, xr_app v0 u0 v2 u2 Ba B (rowO B1 false).2.1 (rowO B1 false).2.2 n el j a (rowO B1 false).1.2.length cap (rowO B1 false).1.1 (roE (rowO B1 false).1.2), ?_, rfl, rfl, hF, .slice a (rowO B1 false).1.2.length cap, ?_, rfl⟩
 . rw [bysL_rs] at ht1
   refine ht1.rebase fun p hp u hu => ?_
   simp only [xrM, List.mem_cons, List.not_mem_nil, or_false] at hp
   rcases hp with rfl | rfl | rfl | rfl | rfl | rfl | rfl
   . exact hu
   . exact hu
   . exact hu
   . exact hu
   . exact hu
   . exact hu
   . have hu : u = .agg #[.int .i64 (rowO B1 false).1.1, ν1.v 4] := hu
     show u = _
     rw [hu, hv]; rfl
 . rw [bysL_rs] at hw2
   exact hw2
 . kernel_rfl
 . exact qA (by unfold pre maxLen; exact decide_eq_true (by omega)) qZ
 . rw [<- hv]; exact hrow
def xrR (v0 u0 v2 u2 : Value) (Ba B : List Int) (B1 : List Int) (b : Bool) (n : Int) (W0 : S2.Base) (x : X) (w1 : S2.Base) (s1 : S2.St) : Prop := w1.toWorld = W0.toWorld /\ FLe W0.F w1.F /\ ((x = some (some 0) /\ wrN rowO B1 b n.toNat = n.toNat /\ ∃ el, s1 = xrS v0 u0 v2 u2 Ba B (stF rowO B1 b n.toNat).2.1 (stF rowO B1 b n.toNat).2.2 n el (n.toNat) /\ ROk w1.F el (stF rowO B1 b n.toNat).1) \/ (x = some none /\ wrN rowO B1 b n.toNat ≠ n.toNat /\ s1 = xrU v0 u0 v2 u2 Ba B (stF rowO B1 b (wrN rowO B1 b n.toNat)).2.1))
def xrI (v0 u0 v2 u2 : Value) (Ba B : List Int) (B1 : List Int) (b : Bool) (n : Int) (W0 : S2.Base) (j : Nat) (w1 : S2.Base) (s1 : S2.St) : Prop := w1.toWorld = W0.toWorld /\ FLe W0.F w1.F /\ ∃ el, s1 = xrS v0 u0 v2 u2 Ba B (stF rowO B1 b j).2.1 (stF rowO B1 b j).2.2 n el (j) /\ ROk w1.F el (stF rowO B1 b j).1
theorem xr_round (v0 u0 v2 u2 : Value) (Ba B : List Int) (B1 : List Int) (hB : B1.length <= 1000000000000) (b : Bool) (n : Int) (hn : b = false -> n <= 8192) (W0 : S2.Base) (hG : GlobB (enH13 eNB) W0) (j : Nat) (hj : j < wrN rowO B1 b n.toNat) (w1 : S2.Base) (s1 : S2.St) (hI : xrI v0 u0 v2 u2 Ba B B1 b n W0 j w1 s1) : CX Try.prog 37 3 2 w1 s1 xrK fun x w2 s2 => match x with
     | none => xrI v0 u0 v2 u2 Ba B B1 b n W0 (j + 1) w2 s2
     | some y => xrR v0 u0 v2 u2 Ba B B1 b n W0 (some y) w2 s2 := by
 obtain ⟨hw, hF, el, rfl, hok⟩ := hI
 have hG1 := glob_at hG enB_bt hw
 have hle := skipN_le (fun j => !(stF rowO B1 b j).2.2) n.toNat 0
 have hle : wrN rowO B1 b n.toNat <= 0 + n.toNat := hle
 have h0 := skipN_all (fun j => !(stF rowO B1 b j).2.2) n.toNat 0
 have hz : b = false := by simpa [stF] using h0 0 (Nat.le_refl _) (by show 0 < wrN rowO B1 b n.toNat; omega)
 have hb : (stF rowO B1 b j).2.2 = false := by simpa using h0 j (Nat.zero_le _) hj
 have hn := hn hz
 have hl := stF_less row_less B1 b j
 have hlen := stF_len (next := rowO) B1 b j
 have e1 : stF rowO B1 b (j + 1) = ((stF rowO B1 b j).1 ++ [(rowO (stF rowO B1 b j).2.1 (stF rowO B1 b j).2.2).1], (rowO (stF rowO B1 b j).2.1 (stF rowO B1 b j).2.2).2) := rfl
 rw [hb] at e1 ⊢
 generalize hB2 : (stF rowO B1 b j).2.1 = B2 at *
 rw [xrK_eq]
 refine CX.then (xr_t v0 u0 v2 u2 Ba B B2 false n el j w1 hG1) (CX.then (xr_go v0 u0 v2 u2 Ba B B2 false n el j (by omega) w1 hG1) ?_)
 refine CX.seq (R1 := fun x w2 s2 => x = none /\ w2.toWorld = w1.toWorld /\ FLe w1.F w2.F /\ ∃ v, FRow w2.F v (roE (rowO B2 false).1.2) /\ s2 = xrN v0 u0 v2 u2 Ba B (rowO B2 false).2.1 (rowO B2 false).2.2 n el j (xrE (joinE j el (tabE [[.int .i64 (rowO B2 false).1.1, v]])) (j + 1))) (CX.block (CX.then (xr_g v0 u0 v2 u2 Ba B B2 n el j w1 hG1) ((xr_eight v0 u0 v2 u2 Ba B B2 (by omega) n el j (by omega) w1 hG1).mono fun x w2 s2 h => ?_))) (fun w2 s2 h => ?_) (fun y w2 s2 h => by cases h.1)
 . obtain ⟨hx, h⟩ := h
   subst hx
   exact ⟨rfl, h⟩
 . obtain ⟨_, q1, q2, v, q3, rfl⟩ := h
   refine CX.of (E := enH13 eNB) (xr_inc v0 u0 v2 u2 Ba B (rowO B2 false).2.1 (rowO B2 false).2.2 n (joinE j el (tabE [[.int .i64 (rowO B2 false).1.1, v]])) j (by omega) w2 (glob_at hG1 enB_bt q1)) ?_
   refine ⟨q1.trans hw, hF.trans q2, joinE j el (tabE [[.int .i64 (rowO B2 false).1.1, v]]), ?_, ?_⟩
   . rw [e1]
   . rw [e1]
     exact ROk.grow q2 hlen.symm hok q3
theorem xh_last (v0 u0 v2 u2 : Value) (B : List Int) (B1 : List Int) (b : Bool) (n : Int) (W0 : S2.Base) (hG : GlobB (enH13 eNB) W0) (w1 : S2.Base) (s1 : S2.St) (hI : xhI v0 u0 v2 u2 B B1 b n W0 (wrN lcO B1 b n.toNat) w1 s1) : CX Try.prog 37 3 1 w1 s1 xhK fun x w2 s2 => x ≠ none /\ xhR v0 u0 v2 u2 B B1 b n W0 x w2 s2 := by
 obtain ⟨hw, hF, el, rfl, hok⟩ := hI
 have hG1 := glob_at hG enB_bt hw
 have hle := skipN_le (fun j => !(stF lcO B1 b j).2.2) n.toNat 0
 have hle : wrN lcO B1 b n.toNat <= 0 + n.toNat := hle
 rw [xhK_eq]
 by_cases hk : wrN lcO B1 b n.toNat = n.toNat
 . rw [hk] at hok ⊢
   exact CX.then (xh_t v0 u0 v2 u2 B _ _ n el n.toNat w1 hG1) (CX.leave (xh_done v0 u0 v2 u2 B _ _ n el n.toNat (by omega) w1 hG1) ⟨(fun h => by cases h), hw, hF, .inl ⟨rfl, hk, el, rfl, hok⟩⟩)
 . have hh := skipN_hit (P := fun j => !(stF lcO B1 b j).2.2) (k := n.toNat) (a := 0) (by show wrN lcO B1 b n.toNat < 0 + n.toNat; omega)
   have hh : (stF lcO B1 b (wrN lcO B1 b n.toNat)).2.2 = true := by
     have : (!(stF lcO B1 b (wrN lcO B1 b n.toNat)).2.2) = false := hh
     simpa using this
   refine CX.then (xh_t v0 u0 v2 u2 B _ _ n el (wrN lcO B1 b n.toNat) w1 hG1) (CX.then (xh_go v0 u0 v2 u2 B _ _ n el (wrN lcO B1 b n.toNat) (by omega) w1 hG1) ?_)
   rw [hh]
   exact CX.seq (R1 := fun x w2 s2 => x = some none /\ w2 = w1 /\ s2 = xhU v0 u0 v2 u2 B (stF lcO B1 b (wrN lcO B1 b n.toNat)).2.1) (CX.block (CX.leave (xh_bad v0 u0 v2 u2 B _ n el (wrN lcO B1 b n.toNat) w1 hG1) ⟨rfl, rfl, rfl⟩)) (fun w2 s2 h => by cases h.1) (fun y w2 s2 h => by
     obtain ⟨h1, rfl, rfl⟩ := h
     obtain rfl := Option.some.inj h1
     exact ⟨(fun h => by cases h), hw, hF, .inr ⟨rfl, hk, rfl⟩⟩)
def xhX (v0 u0 v2 u2 : Value) (B : List Int) (B1 : List Int) (b : Bool) (n : Int) (W0 : S2.Base) (x : X) (w1 : S2.Base) (s1 : S2.St) : Prop := x = some none /\ w1.toWorld = W0.toWorld /\ FLe W0.F w1.F /\ ((wrN lcO B1 b n.toNat = n.toNat /\ ∃ el, s1 = xhZ v0 u0 v2 u2 B (stF lcO B1 b n.toNat).2.1 (stF lcO B1 b n.toNat).2.2 el n.toNat /\ HOk w1.F el (stF lcO B1 b n.toNat).1) \/ (wrN lcO B1 b n.toNat ≠ n.toNat /\ s1 = xhU v0 u0 v2 u2 B (stF lcO B1 b (wrN lcO B1 b n.toNat)).2.1))
theorem xh_from (v0 u0 v2 u2 : Value) (B : List Int) (B1 : List Int) (hB : B1.length <= 1000000000000) (b : Bool) (n : Int) (hn : b = false -> n <= 8) (W0 : S2.Base) (hG : GlobB (enH13 eNB) W0) : CX Try.prog 37 3 1 W0 (xh3 v0 u0 v2 u2 B B1 b n) (.seq (.seq (xhC [0, 0, 1, 1, 1, 1]) (.block 0 (.loop xhK))) (xhC [1, 1, 1, 1, 1])) (xhX v0 u0 v2 u2 B B1 b n W0) := by
 refine CX.seq (R1 := fun x w1 s1 => w1.toWorld = W0.toWorld /\ FLe W0.F w1.F /\ ((x = none /\ wrN lcO B1 b n.toNat = n.toNat /\ ∃ el, s1 = xhS v0 u0 v2 u2 B (stF lcO B1 b n.toNat).2.1 (stF lcO B1 b n.toNat).2.2 n el n.toNat /\ HOk w1.F el (stF lcO B1 b n.toNat).1) \/ (x = some none /\ wrN lcO B1 b n.toNat ≠ n.toNat /\ s1 = xhU v0 u0 v2 u2 B (stF lcO B1 b (wrN lcO B1 b n.toNat)).2.1))) (CX.then (xh_r4 v0 u0 v2 u2 B B1 b n (fun _ => []) W0 hG) (CX.block (CX.mono (R := xhR v0 u0 v2 u2 B B1 b n W0) (CX.loop (xhI v0 u0 v2 u2 B B1 b n W0) (wrN lcO B1 b n.toNat) (fun j hj w1 s1 hI => xh_round v0 u0 v2 u2 B B1 hB b n hn W0 hG j hj w1 s1 hI) (fun w1 s1 hI => xh_last v0 u0 v2 u2 B B1 b n W0 hG w1 s1 hI) ⟨rfl, .refl _, fun _ => [], rfl, fun i hi => absurd hi (Nat.not_lt_zero _)⟩) fun x w1 s1 h => ?_))) (fun w1 s1 h => ?_) (fun y w1 s1 h => ?_)
 . obtain ⟨q1, q2, ⟨rfl, q3⟩ | ⟨rfl, q3⟩⟩ := h
   . exact ⟨q1, q2, .inl ⟨rfl, q3⟩⟩
   . exact ⟨q1, q2, .inr ⟨rfl, q3⟩⟩
 . obtain ⟨q1, q2, ⟨_, q3, el, rfl, q4⟩ | ⟨q3, _⟩⟩ := h
   . exact CX.of (E := enH13 eNB) (xh_r10 v0 u0 v2 u2 B _ _ n el n.toNat w1 (glob_at hG enB_bt q1)) ⟨rfl, q1, q2, .inl ⟨q3, el, rfl, q4⟩⟩
   . cases q3
 . obtain ⟨q1, q2, ⟨q3, _⟩ | ⟨q3, q4, q5⟩⟩ := h
   . cases q3
   . exact ⟨q3, q1, q2, .inr ⟨q4, q5⟩⟩
theorem xhF_ex : ∃ f : List Int -> Bool -> List (List Rc) × List Int × Bool, ∀ B b, f B b = ltF lcO 8 B b := ⟨_, fun _ _ => rfl⟩
noncomputable def xhO : List Int -> Bool -> List (List Rc) × List Int × Bool := Classical.choose xhF_ex
theorem xhO_eq (B : List Int) (b : Bool) : xhO B b = ltF lcO 8 B b := Classical.choose_spec xhF_ex B b
theorem xhO_less (B : List Int) (b : Bool) : (xhO B b).2.1.length <= B.length := by
 rw [xhO_eq]; exact ltF_less lc_less _ B b
def xhRow (F : Nat -> Option Obj) (v : Value) (Ls : List (List Rc)) : Prop := ∃ el, FRow F v (xhE el Ls.length) /\ HOk F el Ls
theorem xh_body (v0 u0 v2 u2 : Value) (B : List Int) (b : Bool) (hB : B.length <= 1000000000000) (W0 : S2.Base) (hG : GlobB (enH13 eNB) W0) : CX Try.prog 37 3 1 W0 (xh0 v0 u0 v2 u2 B b) xhB (xhX v0 u0 v2 u2 B (numO B b).2.1 ((numO B b).2.2 || decide ((numO B b).1 > 8)) (numO B b).1 W0) := by
 have q := num_less B b
 rw [xhB_eq]
 refine CX.then (xh_r0 v0 u0 v2 u2 B b W0 hG) (CX.then (xh_r1 v0 u0 v2 u2 B b hB W0 hG) (CX.then (xh_r2 v0 u0 v2 u2 B _ _ _ W0 hG) (CX.then (xh_r3 v0 u0 v2 u2 B _ _ _ W0 hG) (xh_from v0 u0 v2 u2 B _ (by omega) _ _ (fun h => ?_) W0 hG))))
 have := (Bool.or_eq_false_iff.mp h).2
 have := of_decide_eq_false this
 omega
theorem xh_calls (v0 u0 v2 u2 : Value) (B : List Int) (b : Bool) (hB : B.length <= 1000000000000) (W0 : S2.Base) (hG : GlobB (enH13 eNB) W0) {ν : Nu} {w : World} {vs : List Value} (hvs : IsL ν [.inr (1, 0, none), .inl ([], .int .i64 8), .fn 27 [.a 1 0] []] vs) (hw : WR W0 ν (xh0 v0 u0 v2 u2 B b).own true w) :
   Calls Try.prog 26 vs.toArray w fun e w' => ∃ (w1 : S2.Base) (ν1 : Nu) (v : Value), w1.toWorld = W0.toWorld /\ FLe W0.F w1.F /\ Ag (xh0 v0 u0 v2 u2 B b).own ν ν1 /\ e = .returned v /\ WR w1 ν1 ⟨[zB v0 u0, rdK 1 (xhO B b).2.2, zB v2 u2], [rsE B, rsE (xhO B b).2.1]⟩ true w' /\ xhRow w1.F v (xhO B b).1 := by
 have hsame : ({ tmps := S2.initS 0 [.inr (1, 0, none), .inl ([], .int .i64 8), .fn 27 [.a 1 0] []], own := (xh0 v0 u0 v2 u2 B b).own, lo := 0, llo := 0, mem := true, orc := [], obl := [] } : S2.St) = xh0 v0 u0 v2 u2 B b := rfl
 have hb := xh_body v0 u0 v2 u2 B b hB W0 hG
 rw [<- hsame] at hb
 refine CX.calls (E := enH13 eNB) (fn := (Try.prog.funcs[(26 : Nat)]?).getD default) (by kernel_rfl) (c := xhB) (by kernel_rfl) rfl (args := [.inr (1, 0, none), .inl ([], .int .i64 8), .fn 27 [.a 1 0] []]) (own := (xh0 v0 u0 v2 u2 B b).own) (w0 := W0) (R := xhX v0 u0 v2 u2 B (numO B b).2.1 ((numO B b).2.2 || decide ((numO B b).1 > 8)) (numO B b).1 W0) hb ?_ hvs hw
 intro x w1 s1 h
 obtain ⟨rfl, q1, q2, ⟨q3, el, rfl, q4⟩ | ⟨q3, rfl⟩⟩ := h
 . refine ⟨(fun i h => by cases h), .c 2, by kernel_rfl, fun ν1 v w' ha hv hw' => ?_⟩
   have he : xhO B b = stF lcO (numO B b).2.1 ((numO B b).2.2 || decide ((numO B b).1 > 8)) (numO B b).1.toNat := by
     rw [xhO_eq]
     unfold ltF
     simp only
     rw [if_pos q3]
   rw [<- he] at hw' q4
   obtain ⟨F', hF, hw2, hrow⟩ := hw'.seal (k := 2) (e := xhE el (numO B b).1.toNat) rfl rfl rfl
   have hlen : (numO B b).1.toNat = (xhO B b).1.length := by rw [he, stF_len]
   have hv : v = ν1.v 2 := hv
   refine ⟨setF w1 F', ν1, v, q1, q2.trans hF, ha, rfl, hw2.restrict (own := ⟨[zB v0 u0, rdK 1 (xhO B b).2.2, zB v2 u2], [rsE B, rsE (xhO B b).2.1]⟩) (fun i b' hi c hc => okVB_ok (List.all_eq_true.mp (List.all_eq_true.mp (show (([zB v0 u0, rdK 1 (xhO B b).2.2, zB v2 u2] : List S2.Blk).all fun b => b.cells.all (okVB 3 2)) = true from by kernel_rfl) b' (List.mem_of_getElem? hi)) c hc)) ⟨fun _ _ => rfl, fun _ _ => rfl⟩ (Nat.le_refl _) (fun i hi => rfl) (fun i hi => ?_), el, ?_, q4.mono hF⟩
   . have hi : i < 2 := hi
     match i, hi with
     | 0, _ => rfl
     | 1, _ => rfl
   . rw [hv, <- hlen]; exact hrow
 . refine ⟨(fun i h => by cases h), .inl ([], .slice none 0 0), by kernel_rfl, fun ν1 v w' ha hv hw' => ?_⟩
   have he : xhO B b = ([], (stF lcO (numO B b).2.1 ((numO B b).2.2 || decide ((numO B b).1 > 8)) (wrN lcO (numO B b).2.1 ((numO B b).2.2 || decide ((numO B b).1 > 8)) (numO B b).1.toNat)).2.1, true) := by
     rw [xhO_eq]
     unfold ltF
     simp only
     rw [if_neg q3]
   have hv : v = .slice none 0 0 := hv
   rw [he, hv]
   exact ⟨w1, ν1, .slice none 0 0, q1, q2, ha, rfl, hw', fun _ => [], ⟨⟨by show 0 < 1; decide, fun j hj => absurd hj (Nat.not_lt_zero _)⟩, none, 0, rfl, Nat.le_refl _, fun hn => absurd hn (Nat.not_lt_zero _)⟩, fun i hi => absurd hi (Nat.not_lt_zero _)⟩
theorem xr_last (v0 u0 v2 u2 : Value) (Ba B : List Int) (B1 : List Int) (b : Bool) (n : Int) (W0 : S2.Base) (hG : GlobB (enH13 eNB) W0) (w1 : S2.Base) (s1 : S2.St) (hI : xrI v0 u0 v2 u2 Ba B B1 b n W0 (wrN rowO B1 b n.toNat) w1 s1) : CX Try.prog 37 3 2 w1 s1 xrK fun x w2 s2 => x ≠ none /\ xrR v0 u0 v2 u2 Ba B B1 b n W0 x w2 s2 := by
 obtain ⟨hw, hF, el, rfl, hok⟩ := hI
 have hG1 := glob_at hG enB_bt hw
 have hle := skipN_le (fun j => !(stF rowO B1 b j).2.2) n.toNat 0
 have hle : wrN rowO B1 b n.toNat <= 0 + n.toNat := hle
 rw [xrK_eq]
 by_cases hk : wrN rowO B1 b n.toNat = n.toNat
 . rw [hk] at hok ⊢
   exact CX.then (xr_t v0 u0 v2 u2 Ba B _ _ n el n.toNat w1 hG1) (CX.leave (xr_done v0 u0 v2 u2 Ba B _ _ n el n.toNat (by omega) w1 hG1) ⟨(fun h => by cases h), hw, hF, .inl ⟨rfl, hk, el, rfl, hok⟩⟩)
 . have hh := skipN_hit (P := fun j => !(stF rowO B1 b j).2.2) (k := n.toNat) (a := 0) (by show wrN rowO B1 b n.toNat < 0 + n.toNat; omega)
   have hh : (stF rowO B1 b (wrN rowO B1 b n.toNat)).2.2 = true := by
     have : (!(stF rowO B1 b (wrN rowO B1 b n.toNat)).2.2) = false := hh
     simpa using this
   refine CX.then (xr_t v0 u0 v2 u2 Ba B _ _ n el (wrN rowO B1 b n.toNat) w1 hG1) (CX.then (xr_go v0 u0 v2 u2 Ba B _ _ n el (wrN rowO B1 b n.toNat) (by omega) w1 hG1) ?_)
   rw [hh]
   exact CX.seq (R1 := fun x w2 s2 => x = some none /\ w2 = w1 /\ s2 = xrU v0 u0 v2 u2 Ba B (stF rowO B1 b (wrN rowO B1 b n.toNat)).2.1) (CX.block (CX.leave (xr_bad v0 u0 v2 u2 Ba B _ n el (wrN rowO B1 b n.toNat) w1 hG1) ⟨rfl, rfl, rfl⟩)) (fun w2 s2 h => by cases h.1) (fun y w2 s2 h => by
     obtain ⟨h1, rfl, rfl⟩ := h
     obtain rfl := Option.some.inj h1
     exact ⟨(fun h => by cases h), hw, hF, .inr ⟨rfl, hk, rfl⟩⟩)
def xrX (v0 u0 v2 u2 : Value) (Ba B : List Int) (B1 : List Int) (b : Bool) (n : Int) (W0 : S2.Base) (x : X) (w1 : S2.Base) (s1 : S2.St) : Prop := x = some none /\ w1.toWorld = W0.toWorld /\ FLe W0.F w1.F /\ ((wrN rowO B1 b n.toNat = n.toNat /\ ∃ el, s1 = xrZ v0 u0 v2 u2 Ba B (stF rowO B1 b n.toNat).2.1 (stF rowO B1 b n.toNat).2.2 el n.toNat /\ ROk w1.F el (stF rowO B1 b n.toNat).1) \/ (wrN rowO B1 b n.toNat ≠ n.toNat /\ s1 = xrU v0 u0 v2 u2 Ba B (stF rowO B1 b (wrN rowO B1 b n.toNat)).2.1))
theorem xr_from (v0 u0 v2 u2 : Value) (Ba B : List Int) (B1 : List Int) (hB : B1.length <= 1000000000000) (b : Bool) (n : Int) (hn : b = false -> n <= 8192) (W0 : S2.Base) (hG : GlobB (enH13 eNB) W0) : CX Try.prog 37 3 2 W0 (xr3 v0 u0 v2 u2 Ba B B1 b n) (.seq (.seq (xrC [0, 0, 1, 1, 1, 1]) (.block 0 (.loop xrK))) (xrC [1, 1, 1, 1, 1])) (xrX v0 u0 v2 u2 Ba B B1 b n W0) := by
 refine CX.seq (R1 := fun x w1 s1 => w1.toWorld = W0.toWorld /\ FLe W0.F w1.F /\ ((x = none /\ wrN rowO B1 b n.toNat = n.toNat /\ ∃ el, s1 = xrS v0 u0 v2 u2 Ba B (stF rowO B1 b n.toNat).2.1 (stF rowO B1 b n.toNat).2.2 n el n.toNat /\ ROk w1.F el (stF rowO B1 b n.toNat).1) \/ (x = some none /\ wrN rowO B1 b n.toNat ≠ n.toNat /\ s1 = xrU v0 u0 v2 u2 Ba B (stF rowO B1 b (wrN rowO B1 b n.toNat)).2.1))) (CX.then (xr_r4 v0 u0 v2 u2 Ba B B1 b n (fun _ => []) W0 hG) (CX.block (CX.mono (R := xrR v0 u0 v2 u2 Ba B B1 b n W0) (CX.loop (xrI v0 u0 v2 u2 Ba B B1 b n W0) (wrN rowO B1 b n.toNat) (fun j hj w1 s1 hI => xr_round v0 u0 v2 u2 Ba B B1 hB b n hn W0 hG j hj w1 s1 hI) (fun w1 s1 hI => xr_last v0 u0 v2 u2 Ba B B1 b n W0 hG w1 s1 hI) ⟨rfl, .refl _, fun _ => [], rfl, fun i hi => absurd hi (Nat.not_lt_zero _)⟩) fun x w1 s1 h => ?_))) (fun w1 s1 h => ?_) (fun y w1 s1 h => ?_)
 . obtain ⟨q1, q2, ⟨rfl, q3⟩ | ⟨rfl, q3⟩⟩ := h
   . exact ⟨q1, q2, .inl ⟨rfl, q3⟩⟩
   . exact ⟨q1, q2, .inr ⟨rfl, q3⟩⟩
 . obtain ⟨q1, q2, ⟨_, q3, el, rfl, q4⟩ | ⟨q3, _⟩⟩ := h
   . exact CX.of (E := enH13 eNB) (xr_r10 v0 u0 v2 u2 Ba B _ _ n el n.toNat w1 (glob_at hG enB_bt q1)) ⟨rfl, q1, q2, .inl ⟨q3, el, rfl, q4⟩⟩
   . cases q3
 . obtain ⟨q1, q2, ⟨q3, _⟩ | ⟨q3, q4, q5⟩⟩ := h
   . cases q3
   . exact ⟨q3, q1, q2, .inr ⟨q4, q5⟩⟩
theorem xrF_ex : ∃ f : List Int -> Bool -> List (Int × List Rf) × List Int × Bool, ∀ B b, f B b = ltF rowO 8192 B b := ⟨_, fun _ _ => rfl⟩
noncomputable def xrO : List Int -> Bool -> List (Int × List Rf) × List Int × Bool := Classical.choose xrF_ex
theorem xrO_eq (B : List Int) (b : Bool) : xrO B b = ltF rowO 8192 B b := Classical.choose_spec xrF_ex B b
def xrRow (F : Nat -> Option Obj) (v : Value) (Ls : List (Int × List Rf)) : Prop := ∃ el, FRow F v (xrE el Ls.length) /\ ROk F el Ls
theorem xr_body (v0 u0 v2 u2 : Value) (Ba B : List Int) (b : Bool) (hB : B.length <= 1000000000000) (W0 : S2.Base) (hG : GlobB (enH13 eNB) W0) : CX Try.prog 37 3 2 W0 (xr0 v0 u0 v2 u2 Ba B b) xrB (xrX v0 u0 v2 u2 Ba B (numO B b).2.1 ((numO B b).2.2 || decide ((numO B b).1 > 8192)) (numO B b).1 W0) := by
 have q := num_less B b
 rw [xrB_eq]
 refine CX.then (xr_r0 v0 u0 v2 u2 Ba B b W0 hG) (CX.then (xr_r1 v0 u0 v2 u2 Ba B b hB W0 hG) (CX.then (xr_r2 v0 u0 v2 u2 Ba B _ _ _ W0 hG) (CX.then (xr_r3 v0 u0 v2 u2 Ba B _ _ _ W0 hG) (xr_from v0 u0 v2 u2 Ba B _ (by omega) _ _ (fun h => ?_) W0 hG))))
 have := (Bool.or_eq_false_iff.mp h).2
 have := of_decide_eq_false this
 omega
theorem xr_calls (v0 u0 v2 u2 : Value) (Ba B : List Int) (b : Bool) (hB : B.length <= 1000000000000) (W0 : S2.Base) (hG : GlobB (enH13 eNB) W0) {ν : Nu} {w : World} {vs : List Value} (hvs : IsL ν [.inr (1, 0, none), .inl ([], .int .i64 8192), .fn 29 [.a 1 0] []] vs) (hw : WR W0 ν (xr0 v0 u0 v2 u2 Ba B b).own true w) :
   Calls Try.prog 28 vs.toArray w fun e w' => ∃ (w1 : S2.Base) (ν1 : Nu) (v : Value), w1.toWorld = W0.toWorld /\ FLe W0.F w1.F /\ Ag (xr0 v0 u0 v2 u2 Ba B b).own ν ν1 /\ e = .returned v /\ WR w1 ν1 ⟨[zB v0 u0, rdK 2 (xrO B b).2.2, zB v2 u2], [rsE Ba, rsE B, rsE (xrO B b).2.1]⟩ true w' /\ xrRow w1.F v (xrO B b).1 := by
 have hsame : ({ tmps := S2.initS 0 [.inr (1, 0, none), .inl ([], .int .i64 8192), .fn 29 [.a 1 0] []], own := (xr0 v0 u0 v2 u2 Ba B b).own, lo := 0, llo := 0, mem := true, orc := [], obl := [] } : S2.St) = xr0 v0 u0 v2 u2 Ba B b := rfl
 have hb := xr_body v0 u0 v2 u2 Ba B b hB W0 hG
 rw [<- hsame] at hb
 refine CX.calls (E := enH13 eNB) (fn := (Try.prog.funcs[(28 : Nat)]?).getD default) (by kernel_rfl) (c := xrB) (by kernel_rfl) rfl (args := [.inr (1, 0, none), .inl ([], .int .i64 8192), .fn 29 [.a 1 0] []]) (own := (xr0 v0 u0 v2 u2 Ba B b).own) (w0 := W0) (R := xrX v0 u0 v2 u2 Ba B (numO B b).2.1 ((numO B b).2.2 || decide ((numO B b).1 > 8192)) (numO B b).1 W0) hb ?_ hvs hw
 intro x w1 s1 h
 obtain ⟨rfl, q1, q2, ⟨q3, el, rfl, q4⟩ | ⟨q3, rfl⟩⟩ := h
 . refine ⟨(fun i h => by cases h), .c 3, by kernel_rfl, fun ν1 v w' ha hv hw' => ?_⟩
   have he : xrO B b = stF rowO (numO B b).2.1 ((numO B b).2.2 || decide ((numO B b).1 > 8192)) (numO B b).1.toNat := by
     rw [xrO_eq]
     unfold ltF
     simp only
     rw [if_pos q3]
   rw [<- he] at hw' q4
   obtain ⟨F', hF, hw2, hrow⟩ := hw'.seal (k := 3) (e := xrE el (numO B b).1.toNat) rfl rfl rfl
   have hlen : (numO B b).1.toNat = (xrO B b).1.length := by rw [he, stF_len]
   have hv : v = ν1.v 3 := hv
   refine ⟨setF w1 F', ν1, v, q1, q2.trans hF, ha, rfl, hw2.restrict (own := ⟨[zB v0 u0, rdK 2 (xrO B b).2.2, zB v2 u2], [rsE Ba, rsE B, rsE (xrO B b).2.1]⟩) (fun i b' hi c hc => okVB_ok (List.all_eq_true.mp (List.all_eq_true.mp (show (([zB v0 u0, rdK 2 (xrO B b).2.2, zB v2 u2] : List S2.Blk).all fun b => b.cells.all (okVB 3 3)) = true from by kernel_rfl) b' (List.mem_of_getElem? hi)) c hc)) ⟨fun _ _ => rfl, fun _ _ => rfl⟩ (Nat.le_refl _) (fun i hi => rfl) (fun i hi => ?_), el, ?_, q4.mono hF⟩
   . have hi : i < 3 := hi
     match i, hi with
     | 0, _ => rfl
     | 1, _ => rfl
     | 2, _ => rfl
   . rw [hv, <- hlen]; exact hrow
 . refine ⟨(fun i h => by cases h), .inl ([], .slice none 0 0), by kernel_rfl, fun ν1 v w' ha hv hw' => ?_⟩
   have he : xrO B b = ([], (stF rowO (numO B b).2.1 ((numO B b).2.2 || decide ((numO B b).1 > 8192)) (wrN rowO (numO B b).2.1 ((numO B b).2.2 || decide ((numO B b).1 > 8192)) (numO B b).1.toNat)).2.1, true) := by
     rw [xrO_eq]
     unfold ltF
     simp only
     rw [if_neg q3]
   have hv : v = .slice none 0 0 := hv
   rw [he, hv]
   exact ⟨w1, ν1, .slice none 0 0, q1, q2, ha, rfl, hw', fun _ => [], ⟨⟨by show 0 < 2; decide, fun j hj => absurd hj (Nat.not_lt_zero _)⟩, none, 0, rfl, Nat.le_refl _, fun hn => absurd hn (Nat.not_lt_zero _)⟩, fun i hi => absurd hi (Nat.not_lt_zero _)⟩
end Go.Proofs.Ytmaffamhjmlonaa
