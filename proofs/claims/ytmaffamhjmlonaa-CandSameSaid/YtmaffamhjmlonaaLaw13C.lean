/- Layer 13: CandSame's region: its order is drawn, and Clone's answers lie nobody knows where. -/
import Derived.Test.YtmaffamhjmlonaaK07
import Derived.Test.YtmaffamhjmlonaaDynD
set_option linter.unusedVariables false
set_option linter.unusedSimpArgs false
namespace Go.Proofs.Ytmaffamhjmlonaa
open Go Go.RowKit Sim S2
noncomputable def csK : Code := codeAt (codeOf Try.prog 5) [1, 1]
noncomputable def csO : Array Oper := regO (seqL csK)
noncomputable def csN (i : Nat) : Oper := hdO (csO.toList.drop i)
theorem csK_eq : csK = .seq (.region (regI (seqL csK)) csO true) (seqR csK) := by kernel_rfl
def vA (c : Cn) : S2.SV := .inl ([true, true], cnV c)
def vS (s : Bool) : S2.SV := .inl ([true], .bool s)
def vT : S2.SV := .inl ([], .bool true)
def vP (g : Nat) (c : Cn) : S2.SV := .rp (ownV g) (ccE c) 0 0
def csS (l : List (Nat × S2.SV)) : S2.St := { tmps := l, own := ⟨[], []⟩, lo := 0, llo := 0, mem := true, orc := [], obl := [] }
def csZ (d : Nat) : Pick := { ts := [d], bs := [], ls := [] }
noncomputable def pCS (gl : Gl) : PTab := prow 15 decCC (fun x => .bool (sameZ gl x.1 x.2)) (fun x => propB (CnOk gl x.1 /\ CnOk gl x.2 /\ CnSm gl x.1))
noncomputable def enC (gl0 gl : Gl) : S2.Env := enD gl tAw13 (orP (pRefSame gl0) (pCS gl0)) noL
def csKd (i : Nat) : Nat := ([0, 1, 2, 0, 1, 2, 3, 3, 0, 4, 0, 3, 3, 3, 0, 0, 4, 3, 3, 3, 3, 3, 3] : List Nat).getD i 3
def csPK (W : World) (c b : Cn) (w : World) (v : Value) : Nat -> Prop
 | 0 => v = cnV c
 | 1 => v = cnV b
 | 2 => v = .bool (sameZ (frz W) c b)
 | 3 => v = .bool true
 | _ => ∃ d, v = cnV d /\ CnOk (frz w) d /\ CnSm (frz w) d /\ hartsT (frz w) d = hartsT (frz W) c /\ rowsT (frz w) d = rowsT (frz W) c
def csP (W : World) (c b : Cn) (i : Nat) (w : World) (v : Value) : Prop := csPK W c b w v (csKd i)
abbrev CsI (W : World) (ν0 : Nu) (c b : Cn) (w : World) : Prop := WR (base0 W) ν0 ⟨[cnB c, cnB b], []⟩ true w
theorem CnSm.keep {w w2 : World} {c : Cn} (h : CnSm (frz w) c) (hb : Below w.heap.size w w2) (hk : CnOk (frz w) c) : CnSm (frz w2) c :=
 ⟨h.1, h.2.1, fun i hi => by rw [hv_keep hb hk hi]; exact h.2.2.1 i hi, fun i hi => by rw [rv_keep hb hk hi]; exact h.2.2.2 i hi⟩
structure CsH (W : World) (c b : Cn) : Prop where
 ok : CnOk (frz W) c
 okb : CnOk (frz W) b
 sm : CnSm (frz W) c
 aw : ∀ w, Ret Try.prog 7 #[] (.bool true) w
 same : ∀ gl, PTabOk Try.prog gl (pCS gl)
 clone : ∀ w, Below W.heap.size W w -> Calls Try.prog 16 #[cnV c] w fun e w2 => ∃ d, e = .returned (cnV d) /\ Below w.heap.size w w2 /\ CnOk (frz w2) d /\ CnSm (frz w2) d /\ hartsT (frz w2) d = hartsT (frz w) c /\ rowsT (frz w2) d = rowsT (frz w) c
theorem csP_mono {W : World} {c b : Cn} (H : CsH W c b) {i : Nat} {w w' : World} {v : Value} (hb : Below w.heap.size w w') (h : csP W c b i w v) : csP W c b i w' v := by
 unfold csP at h ⊢
 generalize csKd i = k at h ⊢
 match k, h with
 | 0, h => exact h
 | 1, h => exact h
 | 2, h => exact h
 | 3, h => exact h
 | k + 4, h =>
   obtain ⟨d, h1, h2, h3, h4, h5⟩ := h
   exact ⟨d, h1, h2.keep hb, h3.keep hb h2, (harts_keep hb h2).trans h4, (rows_keep hb h2).trans h5⟩
theorem enC_ok {W : World} {c b : Cn} (H : CsH W c b) {gl0 gl : Gl} (h : GlTo gl0 gl) : CallOk (enC gl0 gl) :=
 enD_ok (tab0 fun w hG => H.aw w) ((ptab_to pRefSame_ok h).or (ptab_to (H.same gl0) h)) (.none _ _)
noncomputable def depC (i j t : Nat) : Bool := (match csO[j]? with | some oj => (match oj.dst with | some u => Nat.beq u t | none => false) | none => false) && ((csN i).after.toList.any fun e => Region.binds .any e && Nat.beq e.on j)
theorem dep_of {i : Nat} {W : World} {c b : Cn} {a : Act} {w : World} (hs : ∀ (j : Nat) oj t, csO[j]? = some oj -> oj.dst = some t -> (∃ e ∈ (csN i).after, Region.binds .any e = true /\ e.on = j) -> csP W c b j w (a.tmps.getD t undef)) (j t : Nat) (h : depC i j t = true) : csP W c b j w (a.tmps.getD t undef) := by
 unfold depC at h
 rw [Bool.and_eq_true, List.any_eq_true] at h
 obtain ⟨h1, e, he, h2⟩ := h
 rw [Bool.and_eq_true] at h2
 split at h1
 . rename_i oj hj
   split at h1
   . rename_i u hu
     obtain rfl := qB h1
     exact hs j oj u hj hu ⟨e, by simpa using he, h2.1, qB h2.2⟩
   . cases h1
 . cases h1
noncomputable def outC (t : Nat) : Bool := csO.toList.all fun o => match o.dst with | some u => !Nat.beq u t | none => true
theorem out_of (t : Nat) (h : outC t = true) : ∀ (j : Nat) (oj : Oper), csO[j]? = some oj -> oj.dst ≠ some t := fun j oj hj hd => by
 have h1 := List.all_eq_true.mp h oj (by
   have : csO.toList[j]? = some oj := by simpa using hj
   exact List.mem_of_getElem? this)
 rw [hd] at h1
 simp at h1
theorem sl_nil {ν : Nu} {a : Act} : ∀ p ∈ ([] : List (Nat × S2.SV)), Is ν p.2 (a.tmps.getD p.1 undef) := fun p hp => by cases hp
theorem sl_cons {ν : Nu} {a : Act} {t : Nat} {x : S2.SV} {l : List (Nat × S2.SV)} (h : Is ν x (a.tmps.getD t undef)) (hl : ∀ p ∈ l, Is ν p.2 (a.tmps.getD p.1 undef)) : ∀ p ∈ (t, x) :: l, Is ν p.2 (a.tmps.getD p.1 undef) := fun p hp => by
 rcases List.mem_cons.mp hp with rfl | hp
 . exact h
 . exact hl p hp
theorem csRowA {W : World} {ν0 : Nu} {c b : Cn} {w : World} (hI : CsI W ν0 c b w) : rowG (frz w) (ownV (ν0.l 0)) (ccE c) := own_row hI (i := 0) (b := cnB c) rfl rfl (show 0 < 2 by omega) rfl
theorem csRowB {W : World} {ν0 : Nu} {c b : Cn} {w : World} (hI : CsI W ν0 c b w) : rowG (frz w) (ownV (ν0.l 1)) (ccE b) := own_row hI (i := 1) (b := cnB b) rfl rfl (show 0 < 2 by omega) rfl
theorem cs_op {W : World} {ν0 : Nu} {c b : Cn} {a : Act} {w : World} {gl0 : Gl} (H : CsH W c b) (hto : GlTo gl0 (frz w)) (hI : CsI W ν0 c b w) (hn : a.tmps.size = 34) (hd : a.defers = []) (i d : Nat) (l : List (Nat × S2.SV)) (fl : List Bool) (v : Value) (ob : List (Bool × Bool)) (ho : csO[i]? = some (csN i)) (hdst : (csN i).dst = some d)
   (hl : ∀ p ∈ l, Is ν0 p.2 (a.tmps.getD p.1 undef)) (hg : goodB (csS l) = true) (run : runOps (enC gl0 (frz w)) 1000 34 csO [csN i] (csZ d) [] (csS l) = some (csS [(d, .inl (fl, v))], ob)) (hob : ∀ p ∈ ob, p.1 = p.2) (hv : ∀ w', Below w.heap.size w w' -> csP W c b i w' v) :
   wpOp Try.prog csO (fun _ _ _ => False) i (Post1 34 (CsI W ν0 c b) (csP W c b) i (csN i) a w) a w :=
 op_run (E := enC gl0 (frz w)) (enC_ok H hto) (frz_ok w) [] ob ho hg run hob (TR.some hn hd hl) (WR.void w ν0) fun ν' a' w' ht' hw' hk => ⟨ht'.df, hk, hI.grown hw'.below, hw'.below, fun t ht => by
   obtain rfl := Option.some.inj (hdst.symm.trans ht)
   have e : S2.look (csS [(d, .inl (fl, v))]).tmps d = .inl (fl, v) := by
     show (bif Nat.beq d d then _ else _) = _
     rw [Nat.beq_refl]; rfl
   have h1 := ht'.tm d
   rw [e] at h1
   rw [show a'.tmps.getD d undef = v from h1]
   exact hv w' hw'.below⟩
def csT (c b : Cn) : S2.St := { tmps := [(2, .inr (0, 0, none)), (3, .inr (1, 0, none))], own := ⟨[cnB c, cnB b], []⟩, lo := 0, llo := 0, mem := true, orc := [], obl := [] }
def csR (c b : Cn) : S2.St := { tmps := [(4, .inl ([true], .bool true))], own := ⟨[cnB c, cnB b], []⟩, lo := 0, llo := 0, mem := true, orc := [], obl := [] }
def ccT2 : S2.St := { tmps := [(4, .inl ([true], .bool true))], own := ⟨[], []⟩, lo := 0, llo := 0, mem := true, orc := [], obl := [] }
def ccP4 : Pick := { ts := [4], bs := [], ls := [], opn := [4] }
theorem cs_0 {W : World} {ν0 : Nu} {c b : Cn} {a : Act} {w : World} (H : CsH W c b) (hI : CsI W ν0 c b w) (hn : a.tmps.size = 34) (hd : a.defers = []) (h2 : a.tmps.getD 2 undef = .pointer (some ⟨ν0.l 0, 0, none⟩)) (h3 : a.tmps.getD 3 undef = .pointer (some ⟨ν0.l 1, 0, none⟩)) (hs : ∀ (j : Nat) oj t, csO[j]? = some oj -> oj.dst = some t -> (∃ e ∈ (csN 0).after, Region.binds .any e = true /\ e.on = j) -> csP W c b j w (a.tmps.getD t undef)) : wpOp Try.prog csO (fun _ _ _ => False) 0 (Post1 34 (CsI W ν0 c b) (csP W c b) 0 (csN 0) a w) a w := by
 have hl : ∀ p ∈ ([(2, vP (ν0.l 0) c)] : List (Nat × S2.SV)), Is ν0 p.2 (a.tmps.getD p.1 undef) := sl_cons (own_ptr (ν := ν0) (b := cnB c) h2) <| sl_nil
 refine cs_op (gl0 := (frz W)) H (frz_to hI.below) hI hn hd 0 12 [(2, vP (ν0.l 0) c)] [true, true] (cnV c) [(pre (rowB (frz w) (ownV (ν0.l 0)) (ccE c)), true), (pre (decide (0 < 1)), true)] (by kernel_rfl) (by kernel_rfl) hl (by kernel_rfl) (by kernel_rfl) ?_ (fun _ _ => rfl)
 exact qA (rowB_ok.mpr (csRowA hI)) <| qA (rfl) <| qZ
theorem cs_1 {W : World} {ν0 : Nu} {c b : Cn} {a : Act} {w : World} (H : CsH W c b) (hI : CsI W ν0 c b w) (hn : a.tmps.size = 34) (hd : a.defers = []) (h2 : a.tmps.getD 2 undef = .pointer (some ⟨ν0.l 0, 0, none⟩)) (h3 : a.tmps.getD 3 undef = .pointer (some ⟨ν0.l 1, 0, none⟩)) (hs : ∀ (j : Nat) oj t, csO[j]? = some oj -> oj.dst = some t -> (∃ e ∈ (csN 1).after, Region.binds .any e = true /\ e.on = j) -> csP W c b j w (a.tmps.getD t undef)) : wpOp Try.prog csO (fun _ _ _ => False) 1 (Post1 34 (CsI W ν0 c b) (csP W c b) 1 (csN 1) a w) a w := by
 have hl : ∀ p ∈ ([(3, vP (ν0.l 1) b)] : List (Nat × S2.SV)), Is ν0 p.2 (a.tmps.getD p.1 undef) := sl_cons (own_ptr (ν := ν0) (b := cnB b) h3) <| sl_nil
 refine cs_op (gl0 := (frz W)) H (frz_to hI.below) hI hn hd 1 13 [(3, vP (ν0.l 1) b)] [true, true] (cnV b) [(pre (rowB (frz w) (ownV (ν0.l 1)) (ccE b)), true), (pre (decide (0 < 1)), true)] (by kernel_rfl) (by kernel_rfl) hl (by kernel_rfl) (by kernel_rfl) ?_ (fun _ _ => rfl)
 exact qA (rowB_ok.mpr (csRowB hI)) <| qA (rfl) <| qZ
theorem cs_2 {W : World} {ν0 : Nu} {c b : Cn} {a : Act} {w : World} (H : CsH W c b) (hI : CsI W ν0 c b w) (hn : a.tmps.size = 34) (hd : a.defers = []) (h2 : a.tmps.getD 2 undef = .pointer (some ⟨ν0.l 0, 0, none⟩)) (h3 : a.tmps.getD 3 undef = .pointer (some ⟨ν0.l 1, 0, none⟩)) (hs : ∀ (j : Nat) oj t, csO[j]? = some oj -> oj.dst = some t -> (∃ e ∈ (csN 2).after, Region.binds .any e = true /\ e.on = j) -> csP W c b j w (a.tmps.getD t undef)) : wpOp Try.prog csO (fun _ _ _ => False) 2 (Post1 34 (CsI W ν0 c b) (csP W c b) 2 (csN 2) a w) a w := by
 have f12 : a.tmps.getD 12 undef = cnV c := dep_of hs 0 12 (by kernel_rfl)
 have f13 : a.tmps.getD 13 undef = cnV b := dep_of hs 1 13 (by kernel_rfl)
 have hl : ∀ p ∈ ([(12, vA c), (13, vA b)] : List (Nat × S2.SV)), Is ν0 p.2 (a.tmps.getD p.1 undef) := sl_cons (f12) <| sl_cons (f13) <| sl_nil
 refine cs_op (gl0 := (frz W)) H (frz_to hI.below) hI hn hd 2 14 [(12, vA c), (13, vA b)] [true] (.bool (sameZ (frz W) c b)) [(pre (propB (CnOk (frz W) c /\ CnOk (frz W) b /\ CnSm (frz W) c)), true)] (by kernel_rfl) (by kernel_rfl) hl (by kernel_rfl) (by kernel_rfl) ?_ (fun _ _ => rfl)
 exact qA (propB_ok.mpr ⟨H.ok, H.okb, H.sm⟩) <| qZ
theorem cs_3 {W : World} {ν0 : Nu} {c b : Cn} {a : Act} {w : World} (H : CsH W c b) (hI : CsI W ν0 c b w) (hn : a.tmps.size = 34) (hd : a.defers = []) (h2 : a.tmps.getD 2 undef = .pointer (some ⟨ν0.l 0, 0, none⟩)) (h3 : a.tmps.getD 3 undef = .pointer (some ⟨ν0.l 1, 0, none⟩)) (hs : ∀ (j : Nat) oj t, csO[j]? = some oj -> oj.dst = some t -> (∃ e ∈ (csN 3).after, Region.binds .any e = true /\ e.on = j) -> csP W c b j w (a.tmps.getD t undef)) : wpOp Try.prog csO (fun _ _ _ => False) 3 (Post1 34 (CsI W ν0 c b) (csP W c b) 3 (csN 3) a w) a w := by
 have hl : ∀ p ∈ ([(2, vP (ν0.l 0) c)] : List (Nat × S2.SV)), Is ν0 p.2 (a.tmps.getD p.1 undef) := sl_cons (own_ptr (ν := ν0) (b := cnB c) h2) <| sl_nil
 refine cs_op (gl0 := (frz W)) H (frz_to hI.below) hI hn hd 3 15 [(2, vP (ν0.l 0) c)] [true, true] (cnV c) [(pre (rowB (frz w) (ownV (ν0.l 0)) (ccE c)), true), (pre (decide (0 < 1)), true)] (by kernel_rfl) (by kernel_rfl) hl (by kernel_rfl) (by kernel_rfl) ?_ (fun _ _ => rfl)
 exact qA (rowB_ok.mpr (csRowA hI)) <| qA (rfl) <| qZ
theorem cs_4 {W : World} {ν0 : Nu} {c b : Cn} {a : Act} {w : World} (H : CsH W c b) (hI : CsI W ν0 c b w) (hn : a.tmps.size = 34) (hd : a.defers = []) (h2 : a.tmps.getD 2 undef = .pointer (some ⟨ν0.l 0, 0, none⟩)) (h3 : a.tmps.getD 3 undef = .pointer (some ⟨ν0.l 1, 0, none⟩)) (hs : ∀ (j : Nat) oj t, csO[j]? = some oj -> oj.dst = some t -> (∃ e ∈ (csN 4).after, Region.binds .any e = true /\ e.on = j) -> csP W c b j w (a.tmps.getD t undef)) : wpOp Try.prog csO (fun _ _ _ => False) 4 (Post1 34 (CsI W ν0 c b) (csP W c b) 4 (csN 4) a w) a w := by
 have hl : ∀ p ∈ ([(3, vP (ν0.l 1) b)] : List (Nat × S2.SV)), Is ν0 p.2 (a.tmps.getD p.1 undef) := sl_cons (own_ptr (ν := ν0) (b := cnB b) h3) <| sl_nil
 refine cs_op (gl0 := (frz W)) H (frz_to hI.below) hI hn hd 4 16 [(3, vP (ν0.l 1) b)] [true, true] (cnV b) [(pre (rowB (frz w) (ownV (ν0.l 1)) (ccE b)), true), (pre (decide (0 < 1)), true)] (by kernel_rfl) (by kernel_rfl) hl (by kernel_rfl) (by kernel_rfl) ?_ (fun _ _ => rfl)
 exact qA (rowB_ok.mpr (csRowB hI)) <| qA (rfl) <| qZ
theorem cs_5 {W : World} {ν0 : Nu} {c b : Cn} {a : Act} {w : World} (H : CsH W c b) (hI : CsI W ν0 c b w) (hn : a.tmps.size = 34) (hd : a.defers = []) (h2 : a.tmps.getD 2 undef = .pointer (some ⟨ν0.l 0, 0, none⟩)) (h3 : a.tmps.getD 3 undef = .pointer (some ⟨ν0.l 1, 0, none⟩)) (hs : ∀ (j : Nat) oj t, csO[j]? = some oj -> oj.dst = some t -> (∃ e ∈ (csN 5).after, Region.binds .any e = true /\ e.on = j) -> csP W c b j w (a.tmps.getD t undef)) : wpOp Try.prog csO (fun _ _ _ => False) 5 (Post1 34 (CsI W ν0 c b) (csP W c b) 5 (csN 5) a w) a w := by
 have f15 : a.tmps.getD 15 undef = cnV c := dep_of hs 3 15 (by kernel_rfl)
 have f16 : a.tmps.getD 16 undef = cnV b := dep_of hs 4 16 (by kernel_rfl)
 have hl : ∀ p ∈ ([(15, vA c), (16, vA b)] : List (Nat × S2.SV)), Is ν0 p.2 (a.tmps.getD p.1 undef) := sl_cons (f15) <| sl_cons (f16) <| sl_nil
 refine cs_op (gl0 := (frz W)) H (frz_to hI.below) hI hn hd 5 17 [(15, vA c), (16, vA b)] [true] (.bool (sameZ (frz W) c b)) [(pre (propB (CnOk (frz W) c /\ CnOk (frz W) b /\ CnSm (frz W) c)), true)] (by kernel_rfl) (by kernel_rfl) hl (by kernel_rfl) (by kernel_rfl) ?_ (fun _ _ => rfl)
 exact qA (propB_ok.mpr ⟨H.ok, H.okb, H.sm⟩) <| qZ
theorem cs_6 {W : World} {ν0 : Nu} {c b : Cn} {a : Act} {w : World} (H : CsH W c b) (hI : CsI W ν0 c b w) (hn : a.tmps.size = 34) (hd : a.defers = []) (h2 : a.tmps.getD 2 undef = .pointer (some ⟨ν0.l 0, 0, none⟩)) (h3 : a.tmps.getD 3 undef = .pointer (some ⟨ν0.l 1, 0, none⟩)) (hs : ∀ (j : Nat) oj t, csO[j]? = some oj -> oj.dst = some t -> (∃ e ∈ (csN 6).after, Region.binds .any e = true /\ e.on = j) -> csP W c b j w (a.tmps.getD t undef)) : wpOp Try.prog csO (fun _ _ _ => False) 6 (Post1 34 (CsI W ν0 c b) (csP W c b) 6 (csN 6) a w) a w := by
 have f14 : a.tmps.getD 14 undef = .bool (sameZ (frz W) c b) := dep_of hs 2 14 (by kernel_rfl)
 have f17 : a.tmps.getD 17 undef = .bool (sameZ (frz W) c b) := dep_of hs 5 17 (by kernel_rfl)
 have hl : ∀ p ∈ ([(14, vS (sameZ (frz W) c b)), (17, vS (sameZ (frz W) c b))] : List (Nat × S2.SV)), Is ν0 p.2 (a.tmps.getD p.1 undef) := sl_cons (f14) <| sl_cons (f17) <| sl_nil
 refine cs_op (gl0 := (frz W)) H (frz_to hI.below) hI hn hd 6 18 [(14, vS (sameZ (frz W) c b)), (17, vS (sameZ (frz W) c b))] [true] (.bool (sameZ (frz W) c b == sameZ (frz W) c b)) [] (by kernel_rfl) (by kernel_rfl) hl (by kernel_rfl) (by kernel_rfl) ?_ (fun _ _ => congrArg Value.bool (beq_self_eq_true _))
 exact qZ
theorem cs_7 {W : World} {ν0 : Nu} {c b : Cn} {a : Act} {w : World} (H : CsH W c b) (hI : CsI W ν0 c b w) (hn : a.tmps.size = 34) (hd : a.defers = []) (h2 : a.tmps.getD 2 undef = .pointer (some ⟨ν0.l 0, 0, none⟩)) (h3 : a.tmps.getD 3 undef = .pointer (some ⟨ν0.l 1, 0, none⟩)) (hs : ∀ (j : Nat) oj t, csO[j]? = some oj -> oj.dst = some t -> (∃ e ∈ (csN 7).after, Region.binds .any e = true /\ e.on = j) -> csP W c b j w (a.tmps.getD t undef)) : wpOp Try.prog csO (fun _ _ _ => False) 7 (Post1 34 (CsI W ν0 c b) (csP W c b) 7 (csN 7) a w) a w := by
 have f18 : a.tmps.getD 18 undef = .bool true := dep_of hs 6 18 (by kernel_rfl)
 have hl : ∀ p ∈ ([(18, vT)] : List (Nat × S2.SV)), Is ν0 p.2 (a.tmps.getD p.1 undef) := sl_cons (f18) <| sl_nil
 refine cs_op (gl0 := (frz W)) H (frz_to hI.below) hI hn hd 7 19 [(18, vT)] [] (.bool true) [] (by kernel_rfl) (by kernel_rfl) hl (by kernel_rfl) (by kernel_rfl) ?_ (fun _ _ => rfl)
 exact qZ
theorem cs_8 {W : World} {ν0 : Nu} {c b : Cn} {a : Act} {w : World} (H : CsH W c b) (hI : CsI W ν0 c b w) (hn : a.tmps.size = 34) (hd : a.defers = []) (h2 : a.tmps.getD 2 undef = .pointer (some ⟨ν0.l 0, 0, none⟩)) (h3 : a.tmps.getD 3 undef = .pointer (some ⟨ν0.l 1, 0, none⟩)) (hs : ∀ (j : Nat) oj t, csO[j]? = some oj -> oj.dst = some t -> (∃ e ∈ (csN 8).after, Region.binds .any e = true /\ e.on = j) -> csP W c b j w (a.tmps.getD t undef)) : wpOp Try.prog csO (fun _ _ _ => False) 8 (Post1 34 (CsI W ν0 c b) (csP W c b) 8 (csN 8) a w) a w := by
 have f19 : a.tmps.getD 19 undef = .bool true := dep_of hs 7 19 (by kernel_rfl)
 have hl : ∀ p ∈ ([(2, vP (ν0.l 0) c), (19, vT)] : List (Nat × S2.SV)), Is ν0 p.2 (a.tmps.getD p.1 undef) := sl_cons (own_ptr (ν := ν0) (b := cnB c) h2) <| sl_cons (f19) <| sl_nil
 refine cs_op (gl0 := (frz W)) H (frz_to hI.below) hI hn hd 8 20 [(2, vP (ν0.l 0) c), (19, vT)] [true, true] (cnV c) [(pre (rowB (frz w) (ownV (ν0.l 0)) (ccE c)), true), (pre (decide (0 < 1)), true)] (by kernel_rfl) (by kernel_rfl) hl (by kernel_rfl) (by kernel_rfl) ?_ (fun _ _ => rfl)
 exact qA (rowB_ok.mpr (csRowA hI)) <| qA (rfl) <| qZ
theorem cs_9 {W : World} {ν0 : Nu} {c b : Cn} {a : Act} {w : World} (H : CsH W c b) (hI : CsI W ν0 c b w) (hn : a.tmps.size = 34) (hd : a.defers = []) (h2 : a.tmps.getD 2 undef = .pointer (some ⟨ν0.l 0, 0, none⟩)) (h3 : a.tmps.getD 3 undef = .pointer (some ⟨ν0.l 1, 0, none⟩)) (hs : ∀ (j : Nat) oj t, csO[j]? = some oj -> oj.dst = some t -> (∃ e ∈ (csN 9).after, Region.binds .any e = true /\ e.on = j) -> csP W c b j w (a.tmps.getD t undef)) : wpOp Try.prog csO (fun _ _ _ => False) 9 (Post1 34 (CsI W ν0 c b) (csP W c b) 9 (csN 9) a w) a w := by
 have f20 : a.tmps.getD 20 undef = cnV c := dep_of hs 8 20 (by kernel_rfl)
 have f19 : a.tmps.getD 19 undef = .bool true := dep_of hs 7 19 (by kernel_rfl)
 have hl : ∀ p ∈ ([(20, vA c), (19, vT)] : List (Nat × S2.SV)), Is ν0 p.2 (a.tmps.getD p.1 undef) := sl_cons (f20) <| sl_cons (f19) <| sl_nil
 refine op_mid (o := csN 9) (n := 34) (ν := ν0) (s := csS [(20, vA c), (19, vT)]) (s1 := csS ((19 + 0, vT) :: [(20, vA c), (19, vT)])) (f := 16) (args := [vA c]) (by kernel_rfl) (by kernel_rfl) (fun p hp => by cases hp) (by kernel_rfl) (TR.some hn hd hl) ⟨_, Try.func16, by kernel_rfl, by kernel_rfl⟩ fun vs hvs => ?_
 have hv : vs = [cnV c] := by
   match vs, hvs with
   | [v], hvs => rw [show v = cnV c from hvs.1]
 subst hv
 refine (H.clone w hI.below).mono fun e w2 ⟨d, he, hb, k1, k2, k3, k4⟩ => ⟨cnV d, he, ?_⟩
 refine ⟨(put_defers' _ _ _).trans hd, kept_put _ _ _, hI.grown hb, hb, fun t ht => ?_⟩
 obtain rfl : 21 = t := Option.some.inj ((show (csN 9).dst = some 21 by kernel_rfl).symm.trans ht)
 rw [getD_put, if_pos ⟨by kernel_rfl, by rw [hn]; decide⟩]
 exact ⟨d, rfl, k1, k2, k3.trans (harts_keep hI.below H.ok), k4.trans (rows_keep hI.below H.ok)⟩
theorem cs_10 {W : World} {ν0 : Nu} {c b : Cn} {a : Act} {w : World} (H : CsH W c b) (hI : CsI W ν0 c b w) (hn : a.tmps.size = 34) (hd : a.defers = []) (h2 : a.tmps.getD 2 undef = .pointer (some ⟨ν0.l 0, 0, none⟩)) (h3 : a.tmps.getD 3 undef = .pointer (some ⟨ν0.l 1, 0, none⟩)) (hs : ∀ (j : Nat) oj t, csO[j]? = some oj -> oj.dst = some t -> (∃ e ∈ (csN 10).after, Region.binds .any e = true /\ e.on = j) -> csP W c b j w (a.tmps.getD t undef)) : wpOp Try.prog csO (fun _ _ _ => False) 10 (Post1 34 (CsI W ν0 c b) (csP W c b) 10 (csN 10) a w) a w := by
 have f19 : a.tmps.getD 19 undef = .bool true := dep_of hs 7 19 (by kernel_rfl)
 have hl : ∀ p ∈ ([(2, vP (ν0.l 0) c), (19, vT)] : List (Nat × S2.SV)), Is ν0 p.2 (a.tmps.getD p.1 undef) := sl_cons (own_ptr (ν := ν0) (b := cnB c) h2) <| sl_cons (f19) <| sl_nil
 refine cs_op (gl0 := (frz W)) H (frz_to hI.below) hI hn hd 10 22 [(2, vP (ν0.l 0) c), (19, vT)] [true, true] (cnV c) [(pre (rowB (frz w) (ownV (ν0.l 0)) (ccE c)), true), (pre (decide (0 < 1)), true)] (by kernel_rfl) (by kernel_rfl) hl (by kernel_rfl) (by kernel_rfl) ?_ (fun _ _ => rfl)
 exact qA (rowB_ok.mpr (csRowA hI)) <| qA (rfl) <| qZ
theorem cs_11 {W : World} {ν0 : Nu} {c b : Cn} {a : Act} {w : World} (H : CsH W c b) (hI : CsI W ν0 c b w) (hn : a.tmps.size = 34) (hd : a.defers = []) (h2 : a.tmps.getD 2 undef = .pointer (some ⟨ν0.l 0, 0, none⟩)) (h3 : a.tmps.getD 3 undef = .pointer (some ⟨ν0.l 1, 0, none⟩)) (hs : ∀ (j : Nat) oj t, csO[j]? = some oj -> oj.dst = some t -> (∃ e ∈ (csN 11).after, Region.binds .any e = true /\ e.on = j) -> csP W c b j w (a.tmps.getD t undef)) : wpOp Try.prog csO (fun _ _ _ => False) 11 (Post1 34 (CsI W ν0 c b) (csP W c b) 11 (csN 11) a w) a w := by
 obtain ⟨d, f21, d1, d2, d3, d4⟩ := (dep_of hs 9 21 (by kernel_rfl) : ∃ d, a.tmps.getD 21 undef = cnV d /\ CnOk (frz w) d /\ CnSm (frz w) d /\ hartsT (frz w) d = hartsT (frz W) c /\ rowsT (frz w) d = rowsT (frz W) c)
 have f22 : a.tmps.getD 22 undef = cnV c := dep_of hs 10 22 (by kernel_rfl)
 have f19 : a.tmps.getD 19 undef = .bool true := dep_of hs 7 19 (by kernel_rfl)
 have hl : ∀ p ∈ ([(21, vA d), (22, vA c), (19, vT)] : List (Nat × S2.SV)), Is ν0 p.2 (a.tmps.getD p.1 undef) := sl_cons (f21) <| sl_cons (f22) <| sl_cons (f19) <| sl_nil
 refine cs_op (gl0 := (frz w)) H (fun u hu => hu) hI hn hd 11 23 [(21, vA d), (22, vA c), (19, vT)] [true] (.bool (sameZ (frz w) d c)) [(pre (propB (CnOk (frz w) d /\ CnOk (frz w) c /\ CnSm (frz w) d)), true)] (by kernel_rfl) (by kernel_rfl) hl (by kernel_rfl) (by kernel_rfl) ?_ (fun _ _ => congrArg Value.bool (same_iff.mpr ⟨d3.trans (harts_keep hI.below H.ok).symm, d4.trans (rows_keep hI.below H.ok).symm⟩))
 exact qA (propB_ok.mpr ⟨d1, H.ok.keep hI.below, d2⟩) <| qZ
theorem cs_12 {W : World} {ν0 : Nu} {c b : Cn} {a : Act} {w : World} (H : CsH W c b) (hI : CsI W ν0 c b w) (hn : a.tmps.size = 34) (hd : a.defers = []) (h2 : a.tmps.getD 2 undef = .pointer (some ⟨ν0.l 0, 0, none⟩)) (h3 : a.tmps.getD 3 undef = .pointer (some ⟨ν0.l 1, 0, none⟩)) (hs : ∀ (j : Nat) oj t, csO[j]? = some oj -> oj.dst = some t -> (∃ e ∈ (csN 12).after, Region.binds .any e = true /\ e.on = j) -> csP W c b j w (a.tmps.getD t undef)) : wpOp Try.prog csO (fun _ _ _ => False) 12 (Post1 34 (CsI W ν0 c b) (csP W c b) 12 (csN 12) a w) a w := by
 have f19 : a.tmps.getD 19 undef = .bool true := dep_of hs 7 19 (by kernel_rfl)
 have f23 : a.tmps.getD 23 undef = .bool true := dep_of hs 11 23 (by kernel_rfl)
 have hl : ∀ p ∈ ([(19, vT), (23, vT)] : List (Nat × S2.SV)), Is ν0 p.2 (a.tmps.getD p.1 undef) := sl_cons (f19) <| sl_cons (f23) <| sl_nil
 refine cs_op (gl0 := (frz W)) H (frz_to hI.below) hI hn hd 12 24 [(19, vT), (23, vT)] [false] (.bool true) [] (by kernel_rfl) (by kernel_rfl) hl (by kernel_rfl) (by kernel_rfl) ?_ (fun _ _ => rfl)
 exact qZ
theorem cs_13 {W : World} {ν0 : Nu} {c b : Cn} {a : Act} {w : World} (H : CsH W c b) (hI : CsI W ν0 c b w) (hn : a.tmps.size = 34) (hd : a.defers = []) (h2 : a.tmps.getD 2 undef = .pointer (some ⟨ν0.l 0, 0, none⟩)) (h3 : a.tmps.getD 3 undef = .pointer (some ⟨ν0.l 1, 0, none⟩)) (hs : ∀ (j : Nat) oj t, csO[j]? = some oj -> oj.dst = some t -> (∃ e ∈ (csN 13).after, Region.binds .any e = true /\ e.on = j) -> csP W c b j w (a.tmps.getD t undef)) : wpOp Try.prog csO (fun _ _ _ => False) 13 (Post1 34 (CsI W ν0 c b) (csP W c b) 13 (csN 13) a w) a w := by
 have f24 : a.tmps.getD 24 undef = .bool true := dep_of hs 12 24 (by kernel_rfl)
 have hl : ∀ p ∈ ([(24, vT)] : List (Nat × S2.SV)), Is ν0 p.2 (a.tmps.getD p.1 undef) := sl_cons (f24) <| sl_nil
 refine cs_op (gl0 := (frz W)) H (frz_to hI.below) hI hn hd 13 25 [(24, vT)] [] (.bool true) [] (by kernel_rfl) (by kernel_rfl) hl (by kernel_rfl) (by kernel_rfl) ?_ (fun _ _ => rfl)
 exact qZ
theorem cs_14 {W : World} {ν0 : Nu} {c b : Cn} {a : Act} {w : World} (H : CsH W c b) (hI : CsI W ν0 c b w) (hn : a.tmps.size = 34) (hd : a.defers = []) (h2 : a.tmps.getD 2 undef = .pointer (some ⟨ν0.l 0, 0, none⟩)) (h3 : a.tmps.getD 3 undef = .pointer (some ⟨ν0.l 1, 0, none⟩)) (hs : ∀ (j : Nat) oj t, csO[j]? = some oj -> oj.dst = some t -> (∃ e ∈ (csN 14).after, Region.binds .any e = true /\ e.on = j) -> csP W c b j w (a.tmps.getD t undef)) : wpOp Try.prog csO (fun _ _ _ => False) 14 (Post1 34 (CsI W ν0 c b) (csP W c b) 14 (csN 14) a w) a w := by
 have f25 : a.tmps.getD 25 undef = .bool true := dep_of hs 13 25 (by kernel_rfl)
 have hl : ∀ p ∈ ([(2, vP (ν0.l 0) c), (25, vT)] : List (Nat × S2.SV)), Is ν0 p.2 (a.tmps.getD p.1 undef) := sl_cons (own_ptr (ν := ν0) (b := cnB c) h2) <| sl_cons (f25) <| sl_nil
 refine cs_op (gl0 := (frz W)) H (frz_to hI.below) hI hn hd 14 26 [(2, vP (ν0.l 0) c), (25, vT)] [true, true] (cnV c) [(pre (rowB (frz w) (ownV (ν0.l 0)) (ccE c)), true), (pre (decide (0 < 1)), true)] (by kernel_rfl) (by kernel_rfl) hl (by kernel_rfl) (by kernel_rfl) ?_ (fun _ _ => rfl)
 exact qA (rowB_ok.mpr (csRowA hI)) <| qA (rfl) <| qZ
theorem cs_15 {W : World} {ν0 : Nu} {c b : Cn} {a : Act} {w : World} (H : CsH W c b) (hI : CsI W ν0 c b w) (hn : a.tmps.size = 34) (hd : a.defers = []) (h2 : a.tmps.getD 2 undef = .pointer (some ⟨ν0.l 0, 0, none⟩)) (h3 : a.tmps.getD 3 undef = .pointer (some ⟨ν0.l 1, 0, none⟩)) (hs : ∀ (j : Nat) oj t, csO[j]? = some oj -> oj.dst = some t -> (∃ e ∈ (csN 15).after, Region.binds .any e = true /\ e.on = j) -> csP W c b j w (a.tmps.getD t undef)) : wpOp Try.prog csO (fun _ _ _ => False) 15 (Post1 34 (CsI W ν0 c b) (csP W c b) 15 (csN 15) a w) a w := by
 have f25 : a.tmps.getD 25 undef = .bool true := dep_of hs 13 25 (by kernel_rfl)
 have hl : ∀ p ∈ ([(2, vP (ν0.l 0) c), (25, vT)] : List (Nat × S2.SV)), Is ν0 p.2 (a.tmps.getD p.1 undef) := sl_cons (own_ptr (ν := ν0) (b := cnB c) h2) <| sl_cons (f25) <| sl_nil
 refine cs_op (gl0 := (frz W)) H (frz_to hI.below) hI hn hd 15 27 [(2, vP (ν0.l 0) c), (25, vT)] [true, true] (cnV c) [(pre (rowB (frz w) (ownV (ν0.l 0)) (ccE c)), true), (pre (decide (0 < 1)), true)] (by kernel_rfl) (by kernel_rfl) hl (by kernel_rfl) (by kernel_rfl) ?_ (fun _ _ => rfl)
 exact qA (rowB_ok.mpr (csRowA hI)) <| qA (rfl) <| qZ
theorem cs_16 {W : World} {ν0 : Nu} {c b : Cn} {a : Act} {w : World} (H : CsH W c b) (hI : CsI W ν0 c b w) (hn : a.tmps.size = 34) (hd : a.defers = []) (h2 : a.tmps.getD 2 undef = .pointer (some ⟨ν0.l 0, 0, none⟩)) (h3 : a.tmps.getD 3 undef = .pointer (some ⟨ν0.l 1, 0, none⟩)) (hs : ∀ (j : Nat) oj t, csO[j]? = some oj -> oj.dst = some t -> (∃ e ∈ (csN 16).after, Region.binds .any e = true /\ e.on = j) -> csP W c b j w (a.tmps.getD t undef)) : wpOp Try.prog csO (fun _ _ _ => False) 16 (Post1 34 (CsI W ν0 c b) (csP W c b) 16 (csN 16) a w) a w := by
 have f27 : a.tmps.getD 27 undef = cnV c := dep_of hs 15 27 (by kernel_rfl)
 have f25 : a.tmps.getD 25 undef = .bool true := dep_of hs 13 25 (by kernel_rfl)
 have hl : ∀ p ∈ ([(27, vA c), (25, vT)] : List (Nat × S2.SV)), Is ν0 p.2 (a.tmps.getD p.1 undef) := sl_cons (f27) <| sl_cons (f25) <| sl_nil
 refine op_mid (o := csN 16) (n := 34) (ν := ν0) (s := csS [(27, vA c), (25, vT)]) (s1 := csS ((19 + 6, vT) :: [(27, vA c), (25, vT)])) (f := 16) (args := [vA c]) (by kernel_rfl) (by kernel_rfl) (fun p hp => by cases hp) (by kernel_rfl) (TR.some hn hd hl) ⟨_, Try.func16, by kernel_rfl, by kernel_rfl⟩ fun vs hvs => ?_
 have hv : vs = [cnV c] := by
   match vs, hvs with
   | [v], hvs => rw [show v = cnV c from hvs.1]
 subst hv
 refine (H.clone w hI.below).mono fun e w2 ⟨d, he, hb, k1, k2, k3, k4⟩ => ⟨cnV d, he, ?_⟩
 refine ⟨(put_defers' _ _ _).trans hd, kept_put _ _ _, hI.grown hb, hb, fun t ht => ?_⟩
 obtain rfl : 28 = t := Option.some.inj ((show (csN 16).dst = some 28 by kernel_rfl).symm.trans ht)
 rw [getD_put, if_pos ⟨by kernel_rfl, by rw [hn]; decide⟩]
 exact ⟨d, rfl, k1, k2, k3.trans (harts_keep hI.below H.ok), k4.trans (rows_keep hI.below H.ok)⟩
theorem cs_17 {W : World} {ν0 : Nu} {c b : Cn} {a : Act} {w : World} (H : CsH W c b) (hI : CsI W ν0 c b w) (hn : a.tmps.size = 34) (hd : a.defers = []) (h2 : a.tmps.getD 2 undef = .pointer (some ⟨ν0.l 0, 0, none⟩)) (h3 : a.tmps.getD 3 undef = .pointer (some ⟨ν0.l 1, 0, none⟩)) (hs : ∀ (j : Nat) oj t, csO[j]? = some oj -> oj.dst = some t -> (∃ e ∈ (csN 17).after, Region.binds .any e = true /\ e.on = j) -> csP W c b j w (a.tmps.getD t undef)) : wpOp Try.prog csO (fun _ _ _ => False) 17 (Post1 34 (CsI W ν0 c b) (csP W c b) 17 (csN 17) a w) a w := by
 have f26 : a.tmps.getD 26 undef = cnV c := dep_of hs 14 26 (by kernel_rfl)
 obtain ⟨d, f28, d1, d2, d3, d4⟩ := (dep_of hs 16 28 (by kernel_rfl) : ∃ d, a.tmps.getD 28 undef = cnV d /\ CnOk (frz w) d /\ CnSm (frz w) d /\ hartsT (frz w) d = hartsT (frz W) c /\ rowsT (frz w) d = rowsT (frz W) c)
 have f25 : a.tmps.getD 25 undef = .bool true := dep_of hs 13 25 (by kernel_rfl)
 have hl : ∀ p ∈ ([(26, vA c), (28, vA d), (25, vT)] : List (Nat × S2.SV)), Is ν0 p.2 (a.tmps.getD p.1 undef) := sl_cons (f26) <| sl_cons (f28) <| sl_cons (f25) <| sl_nil
 refine cs_op (gl0 := (frz w)) H (fun u hu => hu) hI hn hd 17 29 [(26, vA c), (28, vA d), (25, vT)] [true] (.bool (sameZ (frz w) c d)) [(pre (propB (CnOk (frz w) c /\ CnOk (frz w) d /\ CnSm (frz w) c)), true)] (by kernel_rfl) (by kernel_rfl) hl (by kernel_rfl) (by kernel_rfl) ?_ (fun _ _ => congrArg Value.bool (same_iff.mpr ⟨(harts_keep hI.below H.ok).trans d3.symm, (rows_keep hI.below H.ok).trans d4.symm⟩))
 exact qA (propB_ok.mpr ⟨H.ok.keep hI.below, d1, H.sm.keep hI.below H.ok⟩) <| qZ
theorem cs_18 {W : World} {ν0 : Nu} {c b : Cn} {a : Act} {w : World} (H : CsH W c b) (hI : CsI W ν0 c b w) (hn : a.tmps.size = 34) (hd : a.defers = []) (h2 : a.tmps.getD 2 undef = .pointer (some ⟨ν0.l 0, 0, none⟩)) (h3 : a.tmps.getD 3 undef = .pointer (some ⟨ν0.l 1, 0, none⟩)) (hs : ∀ (j : Nat) oj t, csO[j]? = some oj -> oj.dst = some t -> (∃ e ∈ (csN 18).after, Region.binds .any e = true /\ e.on = j) -> csP W c b j w (a.tmps.getD t undef)) : wpOp Try.prog csO (fun _ _ _ => False) 18 (Post1 34 (CsI W ν0 c b) (csP W c b) 18 (csN 18) a w) a w := by
 have f25 : a.tmps.getD 25 undef = .bool true := dep_of hs 13 25 (by kernel_rfl)
 have f29 : a.tmps.getD 29 undef = .bool true := dep_of hs 17 29 (by kernel_rfl)
 have hl : ∀ p ∈ ([(25, vT), (29, vT)] : List (Nat × S2.SV)), Is ν0 p.2 (a.tmps.getD p.1 undef) := sl_cons (f25) <| sl_cons (f29) <| sl_nil
 refine cs_op (gl0 := (frz W)) H (frz_to hI.below) hI hn hd 18 30 [(25, vT), (29, vT)] [false] (.bool true) [] (by kernel_rfl) (by kernel_rfl) hl (by kernel_rfl) (by kernel_rfl) ?_ (fun _ _ => rfl)
 exact qZ
theorem cs_19 {W : World} {ν0 : Nu} {c b : Cn} {a : Act} {w : World} (H : CsH W c b) (hI : CsI W ν0 c b w) (hn : a.tmps.size = 34) (hd : a.defers = []) (h2 : a.tmps.getD 2 undef = .pointer (some ⟨ν0.l 0, 0, none⟩)) (h3 : a.tmps.getD 3 undef = .pointer (some ⟨ν0.l 1, 0, none⟩)) (hs : ∀ (j : Nat) oj t, csO[j]? = some oj -> oj.dst = some t -> (∃ e ∈ (csN 19).after, Region.binds .any e = true /\ e.on = j) -> csP W c b j w (a.tmps.getD t undef)) : wpOp Try.prog csO (fun _ _ _ => False) 19 (Post1 34 (CsI W ν0 c b) (csP W c b) 19 (csN 19) a w) a w := by
 have f30 : a.tmps.getD 30 undef = .bool true := dep_of hs 18 30 (by kernel_rfl)
 have hl : ∀ p ∈ ([(30, vT)] : List (Nat × S2.SV)), Is ν0 p.2 (a.tmps.getD p.1 undef) := sl_cons (f30) <| sl_nil
 refine cs_op (gl0 := (frz W)) H (frz_to hI.below) hI hn hd 19 31 [(30, vT)] [] (.bool true) [] (by kernel_rfl) (by kernel_rfl) hl (by kernel_rfl) (by kernel_rfl) ?_ (fun _ _ => rfl)
 exact qZ
theorem cs_20 {W : World} {ν0 : Nu} {c b : Cn} {a : Act} {w : World} (H : CsH W c b) (hI : CsI W ν0 c b w) (hn : a.tmps.size = 34) (hd : a.defers = []) (h2 : a.tmps.getD 2 undef = .pointer (some ⟨ν0.l 0, 0, none⟩)) (h3 : a.tmps.getD 3 undef = .pointer (some ⟨ν0.l 1, 0, none⟩)) (hs : ∀ (j : Nat) oj t, csO[j]? = some oj -> oj.dst = some t -> (∃ e ∈ (csN 20).after, Region.binds .any e = true /\ e.on = j) -> csP W c b j w (a.tmps.getD t undef)) : wpOp Try.prog csO (fun _ _ _ => False) 20 (Post1 34 (CsI W ν0 c b) (csP W c b) 20 (csN 20) a w) a w := by
 have f31 : a.tmps.getD 31 undef = .bool true := dep_of hs 19 31 (by kernel_rfl)
 have hl : ∀ p ∈ ([(31, vT)] : List (Nat × S2.SV)), Is ν0 p.2 (a.tmps.getD p.1 undef) := sl_cons (f31) <| sl_nil
 refine cs_op (gl0 := (frz W)) H (frz_to hI.below) hI hn hd 20 32 [(31, vT)] [false] (.bool true) [] (by kernel_rfl) (by kernel_rfl) hl (by kernel_rfl) (by kernel_rfl) ?_ (fun _ _ => rfl)
 exact qZ
theorem cs_21 {W : World} {ν0 : Nu} {c b : Cn} {a : Act} {w : World} (H : CsH W c b) (hI : CsI W ν0 c b w) (hn : a.tmps.size = 34) (hd : a.defers = []) (h2 : a.tmps.getD 2 undef = .pointer (some ⟨ν0.l 0, 0, none⟩)) (h3 : a.tmps.getD 3 undef = .pointer (some ⟨ν0.l 1, 0, none⟩)) (hs : ∀ (j : Nat) oj t, csO[j]? = some oj -> oj.dst = some t -> (∃ e ∈ (csN 21).after, Region.binds .any e = true /\ e.on = j) -> csP W c b j w (a.tmps.getD t undef)) : wpOp Try.prog csO (fun _ _ _ => False) 21 (Post1 34 (CsI W ν0 c b) (csP W c b) 21 (csN 21) a w) a w := by
 have f31 : a.tmps.getD 31 undef = .bool true := dep_of hs 19 31 (by kernel_rfl)
 have f32 : a.tmps.getD 32 undef = .bool true := dep_of hs 20 32 (by kernel_rfl)
 have hl : ∀ p ∈ ([(31, vT), (32, vT)] : List (Nat × S2.SV)), Is ν0 p.2 (a.tmps.getD p.1 undef) := sl_cons (f31) <| sl_cons (f32) <| sl_nil
 refine cs_op (gl0 := (frz W)) H (frz_to hI.below) hI hn hd 21 33 [(31, vT), (32, vT)] [false] (.bool true) [] (by kernel_rfl) (by kernel_rfl) hl (by kernel_rfl) (by kernel_rfl) ?_ (fun _ _ => rfl)
 exact qZ
theorem cs_22 {W : World} {ν0 : Nu} {c b : Cn} {a : Act} {w : World} (H : CsH W c b) (hI : CsI W ν0 c b w) (hn : a.tmps.size = 34) (hd : a.defers = []) (h2 : a.tmps.getD 2 undef = .pointer (some ⟨ν0.l 0, 0, none⟩)) (h3 : a.tmps.getD 3 undef = .pointer (some ⟨ν0.l 1, 0, none⟩)) (hs : ∀ (j : Nat) oj t, csO[j]? = some oj -> oj.dst = some t -> (∃ e ∈ (csN 22).after, Region.binds .any e = true /\ e.on = j) -> csP W c b j w (a.tmps.getD t undef)) : wpOp Try.prog csO (fun _ _ _ => False) 22 (Post1 34 (CsI W ν0 c b) (csP W c b) 22 (csN 22) a w) a w := by
 have f33 : a.tmps.getD 33 undef = .bool true := dep_of hs 21 33 (by kernel_rfl)
 have hl : ∀ p ∈ ([(33, vT)] : List (Nat × S2.SV)), Is ν0 p.2 (a.tmps.getD p.1 undef) := sl_cons (f33) <| sl_nil
 refine cs_op (gl0 := (frz W)) H (frz_to hI.below) hI hn hd 22 4 [(33, vT)] [] (.bool true) [] (by kernel_rfl) (by kernel_rfl) hl (by kernel_rfl) (by kernel_rfl) ?_ (fun _ _ => rfl)
 exact qZ
theorem csO_size : csO.size = 23 := by kernel_rfl
theorem cs_told {W : World} {tab : Tab} {pt : PTab} {lt : LTab} {c b : Cn} (hE : CallOk (enD (frz W) tab pt lt)) (H : CsH W c b) : S2.Sem (enD (frz W) tab pt lt) W 34 csK (csT c b) (some none) ccT2 := by
 rw [csK_eq]
 intro Q ν0 a0 w0 ht hw hQ
 have e2 : a0.tmps.getD 2 undef = .pointer (some ⟨ν0.l 0, 0, none⟩) := ht.tm 2
 have e3 : a0.tmps.getD 3 undef = .pointer (some ⟨ν0.l 1, 0, none⟩) := ht.tm 3
 refine wp_seq (region_pred (n := 34) (show (enD (frz W) tab pt lt).P.follows .mixedOrders = true by kernel_rfl) (by kernel_rfl) (CsI W ν0 c b) (csP W c b) (fun w h => h.drew) (fun i w w' v h h' hb hp => csP_mono H hb hp) ht.size ht.df hw (fun i o a w ho hI hn hd hs hbase => ?_) (fun a w hn hd hI hs hbase => ?_))
 . have h2 := (hbase 2 (out_of 2 (by kernel_rfl))).trans e2
   have h3 := (hbase 3 (out_of 3 (by kernel_rfl))).trans e3
   match i, ho, hs with
   | 0, ho, hs =>
     obtain rfl := Option.some.inj ((show csO[0]? = some (csN 0) by kernel_rfl).symm.trans ho)
     exact cs_0 H hI hn hd h2 h3 hs
   | 1, ho, hs =>
     obtain rfl := Option.some.inj ((show csO[1]? = some (csN 1) by kernel_rfl).symm.trans ho)
     exact cs_1 H hI hn hd h2 h3 hs
   | 2, ho, hs =>
     obtain rfl := Option.some.inj ((show csO[2]? = some (csN 2) by kernel_rfl).symm.trans ho)
     exact cs_2 H hI hn hd h2 h3 hs
   | 3, ho, hs =>
     obtain rfl := Option.some.inj ((show csO[3]? = some (csN 3) by kernel_rfl).symm.trans ho)
     exact cs_3 H hI hn hd h2 h3 hs
   | 4, ho, hs =>
     obtain rfl := Option.some.inj ((show csO[4]? = some (csN 4) by kernel_rfl).symm.trans ho)
     exact cs_4 H hI hn hd h2 h3 hs
   | 5, ho, hs =>
     obtain rfl := Option.some.inj ((show csO[5]? = some (csN 5) by kernel_rfl).symm.trans ho)
     exact cs_5 H hI hn hd h2 h3 hs
   | 6, ho, hs =>
     obtain rfl := Option.some.inj ((show csO[6]? = some (csN 6) by kernel_rfl).symm.trans ho)
     exact cs_6 H hI hn hd h2 h3 hs
   | 7, ho, hs =>
     obtain rfl := Option.some.inj ((show csO[7]? = some (csN 7) by kernel_rfl).symm.trans ho)
     exact cs_7 H hI hn hd h2 h3 hs
   | 8, ho, hs =>
     obtain rfl := Option.some.inj ((show csO[8]? = some (csN 8) by kernel_rfl).symm.trans ho)
     exact cs_8 H hI hn hd h2 h3 hs
   | 9, ho, hs =>
     obtain rfl := Option.some.inj ((show csO[9]? = some (csN 9) by kernel_rfl).symm.trans ho)
     exact cs_9 H hI hn hd h2 h3 hs
   | 10, ho, hs =>
     obtain rfl := Option.some.inj ((show csO[10]? = some (csN 10) by kernel_rfl).symm.trans ho)
     exact cs_10 H hI hn hd h2 h3 hs
   | 11, ho, hs =>
     obtain rfl := Option.some.inj ((show csO[11]? = some (csN 11) by kernel_rfl).symm.trans ho)
     exact cs_11 H hI hn hd h2 h3 hs
   | 12, ho, hs =>
     obtain rfl := Option.some.inj ((show csO[12]? = some (csN 12) by kernel_rfl).symm.trans ho)
     exact cs_12 H hI hn hd h2 h3 hs
   | 13, ho, hs =>
     obtain rfl := Option.some.inj ((show csO[13]? = some (csN 13) by kernel_rfl).symm.trans ho)
     exact cs_13 H hI hn hd h2 h3 hs
   | 14, ho, hs =>
     obtain rfl := Option.some.inj ((show csO[14]? = some (csN 14) by kernel_rfl).symm.trans ho)
     exact cs_14 H hI hn hd h2 h3 hs
   | 15, ho, hs =>
     obtain rfl := Option.some.inj ((show csO[15]? = some (csN 15) by kernel_rfl).symm.trans ho)
     exact cs_15 H hI hn hd h2 h3 hs
   | 16, ho, hs =>
     obtain rfl := Option.some.inj ((show csO[16]? = some (csN 16) by kernel_rfl).symm.trans ho)
     exact cs_16 H hI hn hd h2 h3 hs
   | 17, ho, hs =>
     obtain rfl := Option.some.inj ((show csO[17]? = some (csN 17) by kernel_rfl).symm.trans ho)
     exact cs_17 H hI hn hd h2 h3 hs
   | 18, ho, hs =>
     obtain rfl := Option.some.inj ((show csO[18]? = some (csN 18) by kernel_rfl).symm.trans ho)
     exact cs_18 H hI hn hd h2 h3 hs
   | 19, ho, hs =>
     obtain rfl := Option.some.inj ((show csO[19]? = some (csN 19) by kernel_rfl).symm.trans ho)
     exact cs_19 H hI hn hd h2 h3 hs
   | 20, ho, hs =>
     obtain rfl := Option.some.inj ((show csO[20]? = some (csN 20) by kernel_rfl).symm.trans ho)
     exact cs_20 H hI hn hd h2 h3 hs
   | 21, ho, hs =>
     obtain rfl := Option.some.inj ((show csO[21]? = some (csN 21) by kernel_rfl).symm.trans ho)
     exact cs_21 H hI hn hd h2 h3 hs
   | 22, ho, hs =>
     obtain rfl := Option.some.inj ((show csO[22]? = some (csN 22) by kernel_rfl).symm.trans ho)
     exact cs_22 H hI hn hd h2 h3 hs
   | n + 23, ho, hs => rw [Array.getElem?_eq_none (by rw [csO_size]; omega)] at ho; cases ho
 . have f4 : a.tmps.getD 4 undef = .bool true := hs 22 (csN 22) 4 (by kernel_rfl) (by kernel_rfl)
   refine sem_iter (E := enD (frz W) tab pt lt) (n := 34) (c := seqR csK) hE (frz_ok W) (p := ccP4) (fuel := 1000) [] [] (s := csR c b) (s' := ccT2) (x := some none) (by kernel_rfl) (by kernel_rfl) qZ Q ν0 a w ⟨hn, fun t => ?_, hd⟩ hI fun ν' a' w' _ ht' hw' => hQ ν' a' w' ⟨fun i hi => absurd hi (Nat.not_lt_zero _), fun i hi => absurd hi (Nat.not_lt_zero _)⟩ ht' hw'
   exact (TR.some (ν := ν0) (l := [(4, .inl ([true], .bool true))]) (own := ⟨[], []⟩) (mem := true) hn hd (fun p hp => by obtain rfl := List.mem_singleton.mp hp; exact f4)).tm t
end Go.Proofs.Ytmaffamhjmlonaa
