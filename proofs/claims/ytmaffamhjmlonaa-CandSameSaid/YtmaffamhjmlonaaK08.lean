/- RdL13, Cx, RdX13. -/
import Derived.Test.YtmaffamhjmlonaaK04
import Derived.Test.YtmaffamhjmlonaaK07
import Derived.Test.YtmaffamhjmlonaaPEnc13
set_option linter.unusedVariables false
set_option linter.unusedSimpArgs false
namespace Go.Proofs.Ytmaffamhjmlonaa
open Go.RowKit Sim S2
def roE (L : List Rf) : LE := ⟨46, 2, L.length, fun j => rfC ((L[j]?).getD ⟨0, 0⟩), true, false, true⟩
def coE (L : List Rc) : LE := ⟨48, 6, L.length, fun j => rcC ((L[j]?).getD ⟨0, 0, 0, 0, false, false⟩), true, false, true⟩
end Go.Proofs.Ytmaffamhjmlonaa
namespace Go.Proofs.Ytmaffamhjmlonaa.S2
open Go Go.RowKit Sim
def FRow (F : Nat -> Option Obj) (v : Value) (e : LE) : Prop :=
 e.wf /\ ∃ a cap, v = .slice a e.n cap /\ e.n <= cap /\ (0 < e.n -> ∃ g cs t, a = some ⟨g, 0, none⟩ /\ F g = some (.cells cs t (0, 0)) /\ ∀ j, j < e.n -> ∀ (o : Nat) c, (e.el j)[o]? = some c -> cs.toList[j * e.size + o]? = some c)
def FLe (F F' : Nat -> Option Obj) : Prop := ∀ b o, F b = some o -> F' b = some o
theorem FLe.refl (F : Nat -> Option Obj) : FLe F F := fun _ _ h => h
theorem FLe.trans {F F' F'' : Nat -> Option Obj} (h : FLe F F') (h' : FLe F' F'') : FLe F F'' := fun b o k => h' b o (h b o k)
theorem FRow.mono {F F' : Nat -> Option Obj} (hF : FLe F F') {v : Value} {e : LE} (h : FRow F v e) : FRow F' v e := by
 obtain ⟨h1, a, cap, hv, hc, h2⟩ := h
 refine ⟨h1, a, cap, hv, hc, fun hn => ?_⟩
 obtain ⟨g, cs, t, ha, hg, h3⟩ := h2 hn
 exact ⟨g, cs, t, ha, hF _ _ hg, h3⟩
theorem FRow.rowG {F : Nat -> Option Obj} {w : World} (hF : ∀ b o, F b = some o -> w.heap[b]? = some o) {v : Value} {e : LE} (h : FRow F v e) : rowG (frz w) v e := by
 obtain ⟨h1, a, cap, hv, hc, h2⟩ := h
 refine ⟨h1, a, cap, hv, hc, fun hn => ?_⟩
 obtain ⟨g, cs, t, ha, hg, h3⟩ := h2 hn
 refine ⟨g, 0, cs.toList, ha, ?_, fun j hj o c hoc => ?_⟩
 . unfold frz
   rw [hF _ _ hg]
 . rw [Nat.zero_add]
   exact h3 j hj o c hoc
def setF (w0 : Base) (F : Nat -> Option Obj) : Base := ⟨w0.toWorld, F⟩
theorem WR.seal {w0 : Base} {ν : Nu} {own : Mem} {mem : Bool} {w : World} (h : WR w0 ν own mem w) {k : Nat} {e : LE} (hk : own.l[k]? = some e) (hd : e.dead = false) (ho : e.own = true) :
   ∃ F', FLe w0.F F' /\ WR (setF w0 F') ν ⟨own.b, own.l.set k { e with dead := true }⟩ mem w /\ FRow F' (ν.v k) e := by
 classical
 let F' : Nat -> Option Obj := fun b => if (ν.v k).ownBlock = some b then w.heap[b]? else w0.F b
 have hkl : k < own.l.length := lt_of_some_list hk
 have old : ∀ (i : Nat) (e' : LE), (own.l.set k { e with dead := true })[i]? = some e' -> e'.dead = false -> i ≠ k /\ own.l[i]? = some e' := fun i e' hi hd' => by
   by_cases hik : k = i
   . subst hik
     rw [List.getElem?_set_self hkl] at hi
     obtain rfl := Option.some.inj hi
     cases hd'
   . rw [List.getElem?_set_ne hik] at hi
     exact ⟨fun e => hik e.symm, hi⟩
 have hle : FLe w0.F F' := fun b o hb => by
   show (if (ν.v k).ownBlock = some b then w.heap[b]? else w0.F b) = some o
   by_cases hg : (ν.v k).ownBlock = some b
   . rw [if_pos hg]; exact h.fr.here b o hb
   . rw [if_neg hg]; exact hb
 have hlk := h.lst k e hk hd
 unfold LOk at hlk
 rw [ho] at hlk
 have hown : OwnB w0.heap.size w e (ν.v k) := hlk
 refine ⟨F', hle, ⟨h.below, fun i b hi => h.blk i b hi, ?_, h.inj, fun i e' hi hd' => ?_, fun i e' hi hd' ho' g hg => ?_, h.same, ⟨fun b o hb => ?_, fun i hi => ?_, fun i e' hi hd' ho' g hg => ?_⟩⟩, ?_⟩
 . show OkB own.b.length (own.l.set k _).length own.b
   rw [List.length_set]; exact h.okb
 . exact h.lst i e' (old i e' hi hd').2 hd'
 . obtain ⟨hne, hi'⟩ := old i e' hi hd'
   obtain ⟨s1, s2⟩ := h.sep i e' hi' hd' ho' g hg
   exact ⟨s1, fun j e2 hj hd2 ho2 hne2 => s2 j e2 (old j e2 hj hd2).2 hd2 ho2 hne2⟩
 . have hb : (if (ν.v k).ownBlock = some b then w.heap[b]? else w0.F b) = some o := hb
   by_cases hg : (ν.v k).ownBlock = some b
   . rw [if_pos hg] at hb; exact hb
   . rw [if_neg hg] at hb; exact h.fr.here b o hb
 . show (if (ν.v k).ownBlock = some (ν.l i) then w.heap[ν.l i]? else w0.F (ν.l i)) = none
   rw [if_neg (fun hg => (h.sep k e hk hd ho _ hg).1 i hi rfl)]
   exact h.fr.offb i hi
 . obtain ⟨hne, hi'⟩ := old i e' hi hd'
   show (if (ν.v k).ownBlock = some g then w.heap[g]? else w0.F g) = none
   rw [if_neg (fun hg' => (h.sep k e hk hd ho g hg').2 i e' hi' hd' ho' hne hg)]
   exact h.fr.offl i e' hi' hd' ho' g hg
 . have hrow := hown.2
   refine ⟨hown.1, ?_⟩
   rcases hrow.2 with ⟨hv, h0⟩ | ⟨g, cap, cur, hv, hb, hg, hc, _, hsz, htk⟩
   . exact ⟨none, 0, by rw [hv, h0], by omega, fun hn => absurd hn (by omega)⟩
   . refine ⟨some ⟨g, 0, none⟩, cap, hv, hc, fun hn => ⟨g, cur, e.elT, rfl, ?_, fun j hj o c hoc => ?_⟩⟩
     . show (if (ν.v k).ownBlock = some g then w.heap[g]? else w0.F g) = _
       rw [if_pos (by rw [hv]; rfl), hg]
     . have hos : o < e.size := by rw [<- (hown.1.2 j hj).1]; exact lt_of_some_list hoc
       have h1 : e.flat[j * e.size + o]? = some c := by unfold LE.flat; rw [flat_get e.n (fun j hj => (hown.1.2 j hj).1) j hj o hos]; exact hoc
       rw [<- htk] at h1
       have hlt : j * e.size + o < e.n * e.size := by
         have : (j + 1) * e.size <= e.n * e.size := Nat.mul_le_mul_right _ hj
         rw [Nat.add_mul, Nat.one_mul] at this; omega
       rw [List.getElem?_take_of_lt hlt] at h1
       exact h1
theorem GlobB.setF {E : Env} {w0 : Base} (h : GlobB E w0) (hbt : E.bt = none) (F : Nat -> Option Obj) : GlobB E (setF w0 F) := ⟨h.glob, fun hb => by rw [hbt] at hb; cases hb⟩
def CX (P : Program) (n nb nl : Nat) (w0 : Base) (s : St) (c : Code) (R : X -> Base -> St -> Prop) : Prop :=
 ∀ Q ν a w, TR n ν s a -> WR w0 ν s.own s.mem w -> (∀ x w1 s1 ν1 a1 w', R x w1 s1 -> Agree nb nl ν ν1 -> TR n ν1 s1 a1 -> WR w1 ν1 s1.own s1.mem w' -> Q x.toExit a1 w') -> c.wp P Q a w
theorem CX.of {E : Env} {w0 : Base} {nb nl n : Nat} {c : Code} {s s' : St} {x : X} {R : X -> Base -> St -> Prop} (h : SemA E w0 nb nl n c s x s') (hR : R x w0 s') : CX E.P n nb nl w0 s c R := fun Q ν a w ht hw hQ =>
 h Q ν a w ht hw fun ν' a' w' ha ht' hw' => hQ x w0 s' ν' a' w' hR ha ht' hw'
theorem CX.mono {P : Program} {n nb nl : Nat} {w0 : Base} {s : St} {c : Code} {R R' : X -> Base -> St -> Prop} (h : CX P n nb nl w0 s c R) (hR : ∀ x w1 s1, R x w1 s1 -> R' x w1 s1) : CX P n nb nl w0 s c R' := fun Q ν a w ht hw hQ =>
 h Q ν a w ht hw fun x w1 s1 ν1 a1 w' hr => hQ x w1 s1 ν1 a1 w' (hR x w1 s1 hr)
theorem CX.seq {P : Program} {n nb nl : Nat} {w0 : Base} {s : St} {c1 c2 : Code} {R1 R : X -> Base -> St -> Prop} (h1 : CX P n nb nl w0 s c1 R1) (h2 : ∀ w1 s1, R1 none w1 s1 -> CX P n nb nl w1 s1 c2 R) (h3 : ∀ y w1 s1, R1 (some y) w1 s1 -> R (some y) w1 s1) : CX P n nb nl w0 s (.seq c1 c2) R := fun Q ν a w ht hw hQ => by
 refine wp_seq (h1 _ ν a w ht hw fun x w1 s1 ν1 a1 w' hr ha ht1 hw1 => ?_)
 rcases x with _ | _ | i
 . exact h2 w1 s1 hr Q ν1 a1 w' ht1 hw1 fun x w2 s2 ν2 a2 w'' hr2 ha2 => hQ x w2 s2 ν2 a2 w'' hr2 (Agree.trans ha ha2 (Nat.le_refl _) (Nat.le_refl _))
 . exact hQ (some none) w1 s1 ν1 a1 w' (h3 _ _ _ hr) ha ht1 hw1
 . exact hQ (some (some i)) w1 s1 ν1 a1 w' (h3 _ _ _ hr) ha ht1 hw1
def outB (id : Nat) : X -> X
 | some (some i) => if i = id then none else some (some i)
 | x => x
theorem CX.block {P : Program} {n nb nl : Nat} {w0 : Base} {s : St} {c : Code} {id : Nat} {R : X -> Base -> St -> Prop} (h : CX P n nb nl w0 s c fun x w1 s1 => R (outB id x) w1 s1) : CX P n nb nl w0 s (.block id c) R := fun Q ν a w ht hw hQ => by
 refine wp_block (h _ ν a w ht hw fun x w1 s1 ν1 a1 w' hr ha ht1 hw1 => ?_)
 rcases x with _ | _ | i
 . exact hQ none w1 s1 ν1 a1 w' hr ha ht1 hw1
 . exact hQ (some none) w1 s1 ν1 a1 w' hr ha ht1 hw1
 . show Exit.inBlock id Q (.exit i) a1 w'
   have hr : R (if i = id then none else some (some i)) w1 s1 := hr
   show (if i = id then Q .normal a1 w' else Q (.exit i) a1 w')
   by_cases hi : i = id
   . rw [if_pos hi] at hr
     rw [if_pos hi]
     exact hQ none w1 s1 ν1 a1 w' hr ha ht1 hw1
   . rw [if_neg hi] at hr
     rw [if_neg hi]
     exact hQ (some (some i)) w1 s1 ν1 a1 w' hr ha ht1 hw1
theorem CX.loop {P : Program} {n nb nl : Nat} {c : Code} {R : X -> Base -> St -> Prop} (I : Nat -> Base -> St -> Prop) (N : Nat) (step : ∀ j, j < N -> ∀ w1 s1, I j w1 s1 -> CX P n nb nl w1 s1 c fun x w2 s2 => match x with
     | none => I (j + 1) w2 s2
     | some y => R (some y) w2 s2)
   (last : ∀ w1 s1, I N w1 s1 -> CX P n nb nl w1 s1 c fun x w2 s2 => x ≠ none /\ R x w2 s2) {w0 : Base} {s : St} (h0 : I 0 w0 s) : CX P n nb nl w0 s (.loop c) R := fun Q ν a w ht hw hQ => by
 refine wp_loop_rounds (N + 1) ?_
 have key : ∀ k j, j + k = N -> ∀ w1 s1, I j w1 s1 -> ∀ ν1 a w, Agree nb nl ν ν1 -> TR n ν1 s1 a -> WR w1 ν1 s1.own s1.mem w -> Code.rounds P c Q (k + 1) a w := by
   intro k
   induction k with
   | zero =>
     intro j hj w1 s1 hI ν1 a w ha ht hw
     obtain rfl : j = N := by omega
     rw [rounds_succ]
     refine last w1 s1 hI _ ν1 a w ht hw fun x w2 s2 ν2 a2 w' ⟨hx, hr⟩ ha2 ht2 hw2 => ?_
     have ha3 := Agree.trans ha ha2 (Nat.le_refl _) (Nat.le_refl _)
     rcases x with _ | _ | i
     . exact absurd rfl hx
     . exact hQ _ w2 s2 ν2 a2 w' hr ha3 ht2 hw2
     . exact hQ _ w2 s2 ν2 a2 w' hr ha3 ht2 hw2
   | succ k ih =>
     intro j hj w1 s1 hI ν1 a w ha ht hw
     rw [rounds_succ]
     refine step j (by omega) w1 s1 hI _ ν1 a w ht hw fun x w2 s2 ν2 a2 w' hr ha2 ht2 hw2 => ?_
     have ha3 := Agree.trans ha ha2 (Nat.le_refl _) (Nat.le_refl _)
     rcases x with _ | _ | i
     . exact ih (j + 1) (by omega) w2 s2 hr ν2 a2 w' ha3 ht2 hw2
     . exact hQ (some none) w2 s2 ν2 a2 w' hr ha3 ht2 hw2
     . exact hQ (some (some i)) w2 s2 ν2 a2 w' hr ha3 ht2 hw2
 exact key N 0 (by omega) w0 s h0 ν a w (.refl _ _ _) ht hw
theorem CX.region {E : Env} (HC : CallOk E) {cl : Callee} (hst : ClSt cl) {w0 : Base} (hok : ClOk E w0 cl) {n nb nl id : Nat} {ops : Array Oper} (hG : GlobB E w0) {R : X -> Base -> St -> Prop} {l1 l2 : List Oper} (hl : ops.toList = l1 ++ l2) {s s1 : St} (h : simOps E cl n ops false l1 s = some s1) (hg : Good s) (hb : nb <= s.own.b.length) (hnl : nl <= s.own.l.length) (hh : Holds' s1)
   (hQ : ∀ Q ν1 a1 w1, TR n ν1 s1 a1 -> WR w0 ν1 s1.own s1.mem w1 -> (∀ x w2 s2 ν2 a2 w', R x w2 s2 -> Agree nb nl ν1 ν2 -> TR n ν2 s2 a2 -> WR w2 ν2 s2.own s2.mem w' -> Q x.toExit a2 w') -> wpList E.P ops Q l2 a1 w1) : CX E.P n nb nl w0 s (.region id ops false) R := fun Q ν a w ht hw hK => by
 refine wp_region_list ?_
 rw [hl]
 refine wpList_app (simOps_wp HC hst hok hG l1 s s1 h hg hh ν a w ht hw fun ν1 a1 w1 ha ht1 hw1 => ?_)
 exact hQ Q ν1 a1 w1 ht1 hw1 fun x w2 s2 ν2 a2 w' hr ha2 => hK x w2 s2 ν2 a2 w' hr (Agree.trans (ha.mono hb hnl) ha2 (Nat.le_refl _) (Nat.le_refl _))
theorem CX.cut {E : Env} (HC : CallOk E) {w0 : Base} {n nb nl id fuel : Nat} {ops : Array Oper} (hG : GlobB E w0) {R : X -> Base -> St -> Prop} {l1 l2 : List Oper} (orc : List Bool) (ob : List (Bool × Bool)) (hl : ops.toList = l1 ++ l2) {s s1 : St} (hg : goodB s = true) (h : simOps E (enterS E (simC E fuel)) n ops false l1 { s with orc := orc, obl := [] } = some s1) (hob : s1.obl = ob) (hb : nb <= s.own.b.length) (hnl : nl <= s.own.l.length) (hh : ∀ p ∈ ob, p.1 = p.2)
   (hQ : ∀ Q ν1 a1 w1, TR n ν1 s1 a1 -> WR w0 ν1 s1.own s1.mem w1 -> (∀ x w2 s2 ν2 a2 w', R x w2 s2 -> Agree nb nl ν1 ν2 -> TR n ν2 s2 a2 -> WR w2 ν2 s2.own s2.mem w' -> Q x.toExit a2 w') -> wpList E.P ops Q l2 a1 w1) : CX E.P n nb nl w0 s (.region id ops false) R := fun Q ν a w ht hw hK => by
 have g0 := goodB_ok hg
 have hst := enterS_st (E := E) (simC_st E fuel)
 exact CX.region HC hst (enterS_ok HC hG (simC_st E fuel) (simC_ok HC hG fuel)) hG hl h ⟨g0.lo, g0.llo, g0.ok, g0.okb⟩ hb hnl (fun p hp => hh p (by rw [<- hob]; exact hp)) hQ Q ν a w ⟨ht.size, ht.tm, ht.df⟩ hw hK
theorem CX.rest {E : Env} (HC : CallOk E) {w1 : Base} {n nb nl fuel : Nat} {ops : Array Oper} (hG : GlobB E w1) {R : X -> Base -> St -> Prop} {l2 : List Oper} {p : Pick} (orc : List Bool) (ob : List (Bool × Bool)) {s s2 : St} (hg : (goodB s && Nat.ble nb s.own.b.length && Nat.ble nl s.own.l.length && prefB nb p.bs && prefB nl p.ls) = true) (h : runOps E fuel n ops l2 p orc s = some (s2, ob)) (hh : ∀ p ∈ ob, p.1 = p.2) (hR : R none w1 s2)
   {Q : Exit -> Act -> World -> Prop} {ν : Nu} {a : Act} {w : World} (ht : TR n ν s a) (hw : WR w1 ν s.own s.mem w) (hK : ∀ x w2 s2 ν2 a2 w', R x w2 s2 -> Agree nb nl ν ν2 -> TR n ν2 s2 a2 -> WR w2 ν2 s2.own s2.mem w' -> Q x.toExit a2 w') : wpList E.P ops Q l2 a w := by
 simp only [Bool.and_eq_true] at hg
 obtain ⟨⟨⟨⟨hg, hb1⟩, hl1⟩, hb2⟩, hl2⟩ := hg
 have hD : Deep nb nl s := ⟨Nat.le_of_ble_eq_true hb1, Nat.le_of_ble_eq_true hl1⟩
 unfold runOps at h
 split at h
 . rename_i s' hs
   split at h
   . rename_i s3 hp
     simp only [qS, qP] at h
     obtain ⟨rfl, rfl⟩ := h
     have g0 := goodB_ok hg
     have g1 : Good { s with orc := orc, obl := [] } := ⟨g0.lo, g0.llo, g0.ok, g0.okb⟩
     have hst := enterS_st (E := E) (simC_st E fuel)
     obtain ⟨l1, g2⟩ := simOps_st hst l2 _ _ g1 hs
     refine simOps_wp HC hst (enterS_ok HC hG (simC_st E fuel) (simC_ok HC hG fuel)) hG l2 _ _ hs g1 hh ν a w ⟨ht.size, ht.tm, ht.df⟩ hw fun ν' a' w' ha ht' hw' => ?_
     obtain ⟨ν2, ha2, ht2, hw2⟩ := pick_okA (nb := nb) (nl := nl) ⟨Nat.le_trans hD.b l1.len, Nat.le_trans hD.l l1.llen⟩ hb2 hl2 hp g2.1 ht' hw'
     exact hK none w1 s3 ν2 a' w' hR (Agree.trans (ha.mono hD.b hD.l) ha2 (Nat.le_refl _) (Nat.le_refl _)) ht2 hw2
   . cases h
 . cases h
theorem runOpsA {E : Env} (HC : CallOk E) {w1 : Base} {n nb nl fuel : Nat} {ops : Array Oper} (hG : GlobB E w1) {l : List Oper} {p : Pick} (orc : List Bool) (ob : List (Bool × Bool)) {s s2 : St} (hg : (goodB s && Nat.ble nb s.own.b.length && Nat.ble nl s.own.l.length && prefB nb p.bs && prefB nl p.ls) = true) (h : runOps E fuel n ops l p orc s = some (s2, ob)) (hh : ∀ p ∈ ob, p.1 = p.2)
   {Q : Exit -> Act -> World -> Prop} {ν : Nu} {a : Act} {w : World} (ht : TR n ν s a) (hw : WR w1 ν s.own s.mem w) (hK : ∀ ν2 a2 w', Agree nb nl ν ν2 -> TR n ν2 s2 a2 -> WR w1 ν2 s2.own s2.mem w' -> Q .normal a2 w') : wpList E.P ops Q l a w :=
 CX.rest HC hG (R := fun x w2 s3 => x = none /\ w2 = w1 /\ s3 = s2) orc ob hg h hh ⟨rfl, rfl, rfl⟩ ht hw fun x w2 s3 ν2 a2 w' ⟨e1, e2, e3⟩ ha ht2 hw2 => by
   subst e1; subst e2; subst e3
   exact hK ν2 a2 w' ha ht2 hw2
theorem CX.then {E : Env} {w0 : Base} {nb nl n : Nat} {c1 c2 : Code} {s S1 : St} {R : X -> Base -> St -> Prop} (h : SemA E w0 nb nl n c1 s none S1) (h2 : CX E.P n nb nl w0 S1 c2 R) : CX E.P n nb nl w0 s (.seq c1 c2) R :=
 CX.seq (R1 := fun x w1 s1 => x = none /\ w1 = w0 /\ s1 = S1) (CX.of h ⟨rfl, rfl, rfl⟩) (fun w1 s1 ⟨_, e1, e2⟩ => by subst e1; subst e2; exact h2) (fun y w1 s1 ⟨hx, _⟩ => by cases hx)
theorem CX.leave {E : Env} {w0 : Base} {nb nl n : Nat} {c1 c2 : Code} {s S1 : St} {y : Option Nat} {R : X -> Base -> St -> Prop} (h : SemA E w0 nb nl n c1 s (some y) S1) (hR : R (some y) w0 S1) : CX E.P n nb nl w0 s (.seq c1 c2) R :=
 CX.seq (R1 := fun x w1 s1 => x = some y /\ w1 = w0 /\ s1 = S1) (CX.of h ⟨rfl, rfl, rfl⟩) (fun w1 s1 ⟨hx, _⟩ => by cases hx) (fun y' w1 s1 ⟨hx, e1, e2⟩ => by subst e1; subst e2; rw [hx]; exact hR)
theorem CX.mid {E : Env} (HC : CallOk E) {w0 : Base} {n nb nl fuel id d : Nat} {ops : Array Oper} (hG : GlobB E w0) {R : X -> Base -> St -> Prop} {l1 l2 : List Oper} {o : Oper} {p1 : Pick} (orc1 : List Bool) (ob1 : List (Bool × Bool)) {s s1 : St} {f : FuncId} {args : List SV} (hl : ops.toList = l1 ++ o :: l2)
   (hg1 : (goodB s && Nat.ble nb s.own.b.length && Nat.ble nl s.own.l.length && prefB nb p1.bs && prefB nl p1.ls) = true) (h1 : runOps E fuel n ops l1 p1 orc1 s = some (s1, ob1)) (hh1 : ∀ p ∈ ob1, p.1 = p.2) (ho : o.guard = none) (hd : o.dst = some d) (hdn : d < n) (hc : callArgs s1 o = some (f, args)) (hg2 : (goodB s1 && Nat.ble nb s1.own.b.length && Nat.ble nl s1.own.l.length) = true)
   (hf : ∃ fn, E.P.funcs[f]? = some fn ∧ (fn.name == "runtime.NumGoroutine") = false ∧ fn.body.isNone = false)
   (hcall : ∀ ν1 w1 vs, WR w0 ν1 s1.own s1.mem w1 -> IsL ν1 args vs -> Calls E.P f vs.toArray w1 fun e w2 => ∃ (v : Value) (wB : Base) (ν2 : Nu) (xc : SV) (own2 : Mem) (s3 : St) (p2 : Pick) (orc2 : List Bool) (ob2 : List (Bool × Bool)), e = .returned v /\ Agree s1.own.b.length s1.own.l.length ν1 ν2 /\ Is ν2 xc v /\ WR wB ν2 own2 true w2 /\ GlobB E wB /\
     (goodB { tmps := (d, xc) :: s1.tmps, own := own2, lo := 0, llo := 0, mem := true, orc := [], obl := [] } && Nat.ble nb own2.b.length && Nat.ble nl own2.l.length && prefB nb p2.bs && prefB nl p2.ls) = true /\ runOps E fuel n ops l2 p2 orc2 { tmps := (d, xc) :: s1.tmps, own := own2, lo := 0, llo := 0, mem := true, orc := [], obl := [] } = some (s3, ob2) /\ (∀ p ∈ ob2, p.1 = p.2) /\ R none wB s3) : CX E.P n nb nl w0 s (.region id ops false) R := fun Q ν a w ht hw hQ => by
 simp only [Bool.and_eq_true] at hg2
 obtain ⟨⟨hg2, hb2⟩, hl2⟩ := hg2
 have g2 := goodB_ok hg2
 refine wp_region_list ?_
 rw [hl]
 refine wpList_app (runOpsA HC hG orc1 ob1 hg1 h1 hh1 ht hw fun ν1 a1 w1 ha ht1 hw1 => list_mid ho hc ht1 hf fun vs hvs => ?_)
 refine (hcall ν1 w1 vs hw1 hvs).mono fun e w2 ⟨v, wB, ν2, xc, own2, s3, p2, orc2, ob2, he, hag, hx, hwB, hGB, hgd, hr, hob, hR⟩ => ⟨v, he, ?_⟩
 have ht2 : TR n ν2 { tmps := (d, xc) :: s1.tmps, own := own2, lo := 0, llo := 0, mem := true, orc := [], obl := [] } (a1.put o.dst v) := by
   rw [hd]
   refine tr_put (s := { tmps := s1.tmps, own := own2, lo := 0, llo := 0, mem := true, orc := [], obl := [] }) (x := xc) ?_ hx ⟨ht1.size, fun t => Is_congr (look_ok g2.ok) hag (ht1.tm t), ht1.df⟩
   show (bif Nat.blt d n then some _ else none) = _
   rw [show Nat.blt d n = true by rw [Nat.blt_eq]; exact hdn]; rfl
 exact CX.rest HC hGB orc2 ob2 hgd hr hob hR ht2 hwB fun x w3 s4 ν4 a4 w' hr4 ha4 => hQ x w3 s4 ν4 a4 w' hr4 (Agree.trans (Agree.trans ha (hag.mono (Nat.le_of_ble_eq_true hb2) (Nat.le_of_ble_eq_true hl2)) (Nat.le_refl _) (Nat.le_refl _)) ha4 (Nat.le_refl _) (Nat.le_refl _))
theorem WR.addNew {w0 : Base} {ν : Nu} {own : Mem} {mem : Bool} {w1 w2 : World} (h : WR w0 ν own mem w1) (hb : Below w1.heap.size w1 w2) {e : LE} {u : Value} (ho : e.own = true) (hv : OwnB w1.heap.size w2 e u) : WR w0 (extV ν own.l.length u) { own with l := own.l ++ [e] } true w2 := by
 have hg := h.grown hb
 have hfr := freshC_of h [.inr e] [u] (w' := w2) ⟨⟨hv, fun g hg u' hu => by cases hu⟩, trivial⟩
 refine hg.addRow ho (hv.more h.below.size) hfr.1 fun g hgb => ?_
 rcases hv.2.2 with ⟨rfl, _⟩ | ⟨g', cap, cur, rfl, hge, _⟩
 . cases hgb
 . obtain rfl : g' = g := by simpa [Value.ownBlock] using hgb
   exact h.fr.fresh hge
theorem CX.calls {P : Program} {f : FuncId} {fn : Func} {c : Code} (hfn : P.funcs[f]? = some fn) (hbody : fn.body = some c) {E : Env} (hE : E.P = P) {args : List SV} {own : Mem} {w0 : Base} {R : X -> Base -> St -> Prop}
   (h : CX P (args.length + (fn.ntmps - args.length)) own.b.length own.l.length w0 { tmps := initS 0 args, own := own, lo := 0, llo := 0, mem := true, orc := [], obl := [] } c R) {K : Ending -> World -> Prop} {ν : Nu}
   (hK : ∀ x w1 s1, R x w1 s1 -> (∀ i, x ≠ some (some i)) /\ ∃ r, simRes P fn s1 = some r /\ ∀ ν1 v w', Ag own ν ν1 -> Is ν1 r v -> WR w1 ν1 s1.own true w' -> K (.returned v) w') {w : World} {vs : List Value} (hvs : IsL ν args vs) (hw : WR w0 ν own true w) : Calls P f vs.toArray w K := by
 have ht := tr_init hvs fn.ntmps { tmps := initS 0 args, own := own, lo := 0, llo := 0, mem := true, orc := [], obl := [] }
 refine calls_of_wp hfn hbody (h _ ν _ w ht hw fun x w1 s1 ν1 a1 w' hr ha ht1 hw1 => ?_)
 obtain ⟨hx, r, hsr, hk⟩ := hK x w1 s1 hr
 have hmem : WR w1 ν1 s1.own true w' := hw1.mem
 obtain ⟨v, hv, hres⟩ := simRes_ok (E := E) (by rw [hE]; exact hsr) ht1 hw1
 rcases x with _ | _ | i
 . exact bodyPost_end (by rw [<- hE]; exact hres) ht1.df (hk ν1 v w' ha hv hmem)
 . exact bodyPost_ret (by rw [<- hE]; exact hres) ht1.df (hk ν1 v w' ha hv hmem)
 . exact absurd rfl (hx i)
end Go.Proofs.Ytmaffamhjmlonaa.S2
namespace Go.Proofs.Ytmaffamhjmlonaa
open Go Go.RowKit Sim S2
def xhE (el : Nat -> List Value) (j : Nat) : LE := ⟨40, 1, j, el, true, false, true⟩
def xrE (el : Nat -> List Value) (j : Nat) : LE := ⟨43, 2, j, el, true, false, true⟩
def HOk (F : Nat -> Option Obj) (el : Nat -> List Value) (Ls : List (List Rc)) : Prop := ∀ i, i < Ls.length -> ∃ v, el i = [v] /\ FRow F v (coE ((Ls[i]?).getD []))
def ROk (F : Nat -> Option Obj) (el : Nat -> List Value) (Ls : List (Int × List Rf)) : Prop := ∀ i, i < Ls.length -> ∃ v, el i = [.int .i64 ((Ls[i]?).getD (0, [])).1, v] /\ FRow F v (roE ((Ls[i]?).getD (0, [])).2)
theorem HOk.grow {F F' : Nat -> Option Obj} (hF : FLe F F') {el : Nat -> List Value} {Ls : List (List Rc)} {n : Nat} (hn : n = Ls.length) (h : HOk F el Ls) {L : List Rc} {v : Value} (hv : FRow F' v (coE L)) : HOk F' (joinE n el (tabE [[v]])) (Ls ++ [L]) := fun i hi => by
 subst hn
 rw [List.length_append] at hi
 have hi : i < Ls.length + 1 := hi
 unfold joinE
 cases hb : Nat.blt i Ls.length
 . have : i = Ls.length := by
     have : ¬ i < Ls.length := fun hc => by rw [<- Nat.blt_eq, hb] at hc; cases hc
     omega
   subst this
   refine ⟨v, by show tabE [[v]] (Ls.length - Ls.length) = [v]; rw [Nat.sub_self]; rfl, ?_⟩
   simpa using hv
 . have hlt : i < Ls.length := by simpa [Nat.blt_eq] using hb
   obtain ⟨u, h1, h2⟩ := h i hlt
   refine ⟨u, h1, ?_⟩
   rw [List.getElem?_append_left hlt]
   exact h2.mono hF
theorem ROk.grow {F F' : Nat -> Option Obj} (hF : FLe F F') {el : Nat -> List Value} {Ls : List (Int × List Rf)} {n : Nat} (hn : n = Ls.length) (h : ROk F el Ls) {L : Int × List Rf} {v : Value} (hv : FRow F' v (roE L.2)) : ROk F' (joinE n el (tabE [[.int .i64 L.1, v]])) (Ls ++ [L]) := fun i hi => by
 subst hn
 rw [List.length_append] at hi
 have hi : i < Ls.length + 1 := hi
 unfold joinE
 cases hb : Nat.blt i Ls.length
 . have : i = Ls.length := by
     have : ¬ i < Ls.length := fun hc => by rw [<- Nat.blt_eq, hb] at hc; cases hc
     omega
   subst this
   refine ⟨v, by show tabE [[.int .i64 L.1, v]] (Ls.length - Ls.length) = _; rw [Nat.sub_self]; simp [tabE], ?_⟩
   simpa using hv
 . have hlt : i < Ls.length := by simpa [Nat.blt_eq] using hb
   obtain ⟨u, h1, h2⟩ := h i hlt
   refine ⟨u, by rw [List.getElem?_append_left hlt]; exact h1, ?_⟩
   rw [List.getElem?_append_left hlt]
   exact h2.mono hF
theorem HOk.mono {F F' : Nat -> Option Obj} (hF : FLe F F') {el : Nat -> List Value} {Ls : List (List Rc)} (h : HOk F el Ls) : HOk F' el Ls := fun i hi => by
 obtain ⟨v, h1, h2⟩ := h i hi
 exact ⟨v, h1, h2.mono hF⟩
theorem ROk.mono {F F' : Nat -> Option Obj} (hF : FLe F F') {el : Nat -> List Value} {Ls : List (Int × List Rf)} (h : ROk F el Ls) : ROk F' el Ls := fun i hi => by
 obtain ⟨v, h1, h2⟩ := h i hi
 exact ⟨v, h1, h2.mono hF⟩
theorem outE_one {F : Nat -> Option Obj} {v : Value} {e : LE} (h : FRow F v e) : ∃ a cap, v = .slice a e.n cap := by
 obtain ⟨_, a, cap, hv, _⟩ := h
 exact ⟨a, cap, hv⟩
theorem glob_at {E : S2.Env} {W0 w1 : S2.Base} (h : GlobB E W0) (hbt : E.bt = none) (he : w1.toWorld = W0.toWorld) : GlobB E w1 := ⟨by rw [he]; exact h.glob, fun hb => by rw [hbt] at hb; cases hb⟩
def xhRow (F : Nat -> Option Obj) (v : Value) (Ls : List (List Rc)) : Prop := ∃ el, FRow F v (xhE el Ls.length) /\ HOk F el Ls
def xrRow (F : Nat -> Option Obj) (v : Value) (Ls : List (Int × List Rf)) : Prop := ∃ el, FRow F v (xrE el Ls.length) /\ ROk F el Ls
end Go.Proofs.Ytmaffamhjmlonaa
