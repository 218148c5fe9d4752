/- Layer 16: the reference's Holds. -/
import Derived.Test.YtchjjbcmbdmlgaaRfs16
import Derived.Test.YtchjjbcmbdmlgaaK16
import Derived.Test.YtchjjbcmbdmlgaaRge16
import Derived.Deep.CutBlock
import Derived.Deep.CutRange
set_option linter.unusedVariables false
set_option linter.unusedSimpArgs false
namespace Go.Proofs.Ytchjjbcmbdmlgaa
open Go Go.RowKit
theorem load_srcH {W : World} {b : Nat} {t : TypeId} {e : EvZ} {va vd vc : Value} (h : Hb W b t 23 (evF e va vd vc)) : (loadVar 43 ⟨b, 17, none⟩).run Try.prog W = .ok (.agg #[.int .i64 e.sh, .int .i64 e.sa]) W := by
  have h2 : EvA W b 0 e va vd vc := fun k hk => by rw [Nat.zero_add]; exact h.cell hk
  have h3 := load_srcE h2
  rwa [Nat.zero_add] at h3
section
variable {W0 : World} {b0 o0 n : Nat} {E : EvsZ} {nA nD nC : Nat → Nat} {FA FD FC : Nat → Nat → Int}
structure RfW (w W : World) (bx bY : Nat) (e m : EvZ) (va vd vc va' vd' vc' : Value) : Prop where
  bel : Below w.heap.size w W
  x : Hb W bx evT 23 (evF e va vd vc)
  y : Hb W bY evT 23 (evF m va' vd' vc')
theorem RfW.same {w W W' : World} {bx bY : Nat} {e m : EvZ} {va vd vc va' vd' vc' : Value} (h : RfW w W bx bY e m va vd vc va' vd' vc') (hb : Below W.heap.size W W') : RfW w W' bx bY e m va vd vc va' vd' vc' :=
  ⟨h.bel.trans (hb.mono h.bel.size), h.x.below hb h.x.lt, h.y.below hb h.y.lt⟩
def RfP (w : World) (v : Bool) : Ending → World → Prop := fun x w' => x = .returned (.bool v) ∧ Below w.heap.size w w'
set_option maxHeartbeats 8000000 in
set_option maxRecDepth 100000 in
theorem refHolds_w (H : EvsX W0 b0 o0 n E nA nD nC FA FD FC) (HK : ∀ i, i < n → ((E.e i).rd || (E.e i).wr) = true → (E.e i).kn = true) (cap : Nat) (rule a c : Int) (w : World) (hw : Below W0.heap.size W0 w) :
    Calls Try.prog 10 #[.slice (some ⟨b0, o0, none⟩) n cap, .int .i64 rule, .int .i64 a, .int .i64 c] w (RfP w (holdsX E n nA nD nC FA FD FC a c rule)) := by
  have hn := H.nn
  obtain ⟨r, hr⟩ : ∃ r, r = holdsX E n nA nD nC FA FD FC a c rule := ⟨_, rfl⟩
  rw [← hr]
  have Hr := hid hr
  clear hr
  have no : oneB E n a c = false → r = false := fun h => by rw [Hr.out]; unfold holdsX; rw [h]; rfl
  have No := hid no
  clear no
  go_enter Try.func10, Try.ntmps10
  go_upto_region 1 with (fail)
  go_cut [40] from 18 to 41 (fun s W => ∃ z : Bool, s = .bool z ∧ (z = true → r = false) ∧ (z = false → 0 ≤ a ∧ a < c ∧ c < n) ∧ w = W)
  case first =>
    by_cases h1 : a < 0
    · have hr0 := hid (No.out (by unfold oneB; rw [decide_eq_false (by omega)]; rfl))
      go_wp2
      go_meet
      case rel => exact ⟨true, rfl, (fun _ => hr0.out), (fun h => by cases h), rfl⟩
    by_cases h2 : c < 0
    · have hr0 := hid (No.out (by unfold oneB; rw [decide_eq_true (show 0 ≤ a by omega), decide_eq_false (by omega)]; rfl))
      go_wp2
      go_meet
      case rel => exact ⟨true, rfl, (fun _ => hr0.out), (fun h => by cases h), rfl⟩
    by_cases h3 : (n : Int) ≤ a
    · have hr0 := hid (No.out (by
        unfold oneB
        by_cases h : a < c
        · rw [decide_eq_true (show 0 ≤ a by omega), decide_eq_true h, decide_eq_false (by omega)]; rfl
        · rw [decide_eq_true (show 0 ≤ a by omega), decide_eq_false h]; rfl))
      go_wp2
      go_meet
      case rel => exact ⟨true, rfl, (fun _ => hr0.out), (fun h => by cases h), rfl⟩
    by_cases h4 : (n : Int) ≤ c
    · have hr0 := hid (No.out (by
        unfold oneB
        by_cases h : a < c
        · rw [decide_eq_true (show 0 ≤ a by omega), decide_eq_true h, decide_eq_false (by omega)]; rfl
        · rw [decide_eq_true (show 0 ≤ a by omega), decide_eq_false h]; rfl))
      go_wp2
      go_meet
      case rel => exact ⟨true, rfl, (fun _ => hr0.out), (fun h => by cases h), rfl⟩
    by_cases h5 : c ≤ a
    · have hr0 := hid (No.out (by unfold oneB; rw [decide_eq_true (show 0 ≤ a by omega), decide_eq_false (by omega)]; rfl))
      go_wp2
      go_meet
      case rel => exact ⟨true, rfl, (fun _ => hr0.out), (fun h => by cases h), rfl⟩
    · have h6 := hid (show 0 ≤ a ∧ a < c ∧ c < n by omega)
      go_wp2
      go_meet
      case rel => exact ⟨false, rfl, (fun h => by cases h), (fun _ => h6.out), rfl⟩
  case rest =>
  obtain ⟨z, rfl, hz1, hz0, rfl⟩ := hcut
  cases z
  case true =>
    have hr0 := hid (hz1 rfl)
    clear hz0 hz1
    go_wp2
    go_ret
    exact ⟨by rw [hr0.out]; rfl, Below.refl _ _⟩
  case false =>
  obtain ⟨h1, h2, h3⟩ := hz0 rfl
  obtain ⟨i, rfl⟩ : ∃ i : Nat, a = (i : Int) := ⟨a.toNat, by omega⟩
  obtain ⟨j, rfl⟩ : ∃ j : Nat, c = (j : Int) := ⟨c.toNat, by omega⟩
  have hij : i < j := by omega
  have hjn : j < n := by omega
  have hin : i < n := by omega
  clear h1 h2 h3 hz0 hz1
  go_upto_region 3 with (fail)
  have hiI : (i : Int) < n := by omega
  have hjI : (j : Int) < n := by omega
  obtain ⟨qa1, ca1, ea1, _⟩ := H.la w hw i hin
  obtain ⟨qd1, cd1, ed1, _⟩ := H.ld w hw i hin
  obtain ⟨qc1, cc1, ec1, _⟩ := H.lc w hw i hin
  obtain ⟨qa2, ca2, ea2, _⟩ := H.la w hw j hjn
  obtain ⟨qd2, cd2, ed2, _⟩ := H.ld w hw j hjn
  obtain ⟨qc2, cc2, ec2, _⟩ := H.lc w hw j hjn
  have hd : Below w.heap.size w w.drew := ⟨rfl, rfl, rfl, Nat.le_refl _, fun _ _ => rfl⟩
  have HB : ∀ W, Below w.drew.heap.size w.drew W → Below w.heap.size w W := fun W h => hd.trans h
  have hS : ∀ W, Below w.drew.heap.size w.drew W → EvA W b0 (o0 + i * 23) (E.e i) (.slice qa1 (nA i) ca1) (.slice qd1 (nD i) cd1) (.slice qc1 (nC i) cc1) ∧ EvA W b0 (o0 + j * 23) (E.e j) (.slice qa2 (nA j) ca2) (.slice qd2 (nD j) cd2) (.slice qc2 (nC j) cc2) := fun W h => ⟨by
      have := H.ev W (hw.trans ((HB W h).mono hw.size)) i hin
      rwa [ea1, ed1, ec1] at this, by
      have := H.ev W (hw.trans ((HB W h).mono hw.size)) j hjn
      rwa [ea2, ed2, ec2] at this⟩
  refine region_takes (fun U => EvA U b0 (o0 + i * 23) (E.e i) (.slice qa1 (nA i) ca1) (.slice qd1 (nD i) cd1) (.slice qc1 (nC i) cc1) ∧ EvA U b0 (o0 + j * 23) (E.e j) (.slice qa2 (nA j) ca2) (.slice qd2 (nD j) cd2) (.slice qc2 (nC j) cc2)) [0, 1, 2, 3, 4, 5, 6, 7] 4 (by rfl) (by kernel_rfl) (by kernel_rfl) (by kernel_rfl) (fun c a d v w h => And.intro (put_nil h.1) h.2) (hS w.drew (Below.refl _ _)) ?_
  iterate 8
    first
    | refine take_row _ rfl (by rfl) _ _ rfl rfl (fun W hSW => load_evA hSW.1) ?_
    | refine take_row _ rfl (by rfl) _ _ rfl rfl (fun W hSW => load_evA hSW.2) ?_
    | refine take_pure _ rfl (by rfl) (fun W hSW => by (go_simp; try with_reducible rfl)) ?_
    simp only [Act.put, List.getElem_toArray, List.getElem_cons_succ, List.getElem_cons_zero, List.setIfInBounds_toArray, List.set_cons_zero, List.set_cons_succ]
  refine take_done ?_
  refine held_allocs (i := 8) (j := 9) _ _ 9 10 (evAr (ev0 0 0 0 0 0 false) nilV nilV nilV) evT (arrF (evAr (ev0 0 0 0 0 0 false) nilV nilV nilV)) (arr_get16 _) (by kernel_rfl) (by kernel_rfl) (by kernel_rfl) (by decide) rfl rfl rfl rfl rfl rfl (by decide) (fun W => by go_simp; try with_reducible rfl) (fun v W => by go_simp; try with_reducible rfl) (fun W => by go_simp; try with_reducible rfl) (fun v W => by go_simp; try with_reducible rfl) hS ?_
  intro bx bY W1 hx hy hne hbx hby hB1
  simp only [Act.put, List.getElem_toArray, List.getElem_cons_succ, List.getElem_cons_zero, List.setIfInBounds_toArray, List.set_cons_zero, List.set_cons_succ]
  have hx := hx.less (N' := 23) (by simp)
  have hy := hy.less (N' := 23) (by simp)
  have bel2 : Below w.drew.heap.size w.drew (W1.setCells bx 0 (evAr (E.e i) (.slice qa1 (nA i) ca1) (.slice qd1 (nD i) cd1) (.slice qc1 (nC i) cc1)).toList) := (Fr.sets (T := []) (.inl hbx) _ _ (Fr.of_below hB1)).to_below
  refine held_skip (i := 10) (w' := W1.setCells bx 0 (evAr (E.e i) (.slice qa1 (nA i) ca1) (.slice qd1 (nD i) cd1) (.slice qc1 (nC i) cc1)).toList) _ (by kernel_rfl) rfl (by rfl) (run_store evT _ _ rfl rfl rfl (st_ev hx _ _ _ _ _ _ _ _ _ _)) (hS _ bel2) ?_
  simp only [Act.put, List.getElem_toArray, List.getElem_cons_succ, List.getElem_cons_zero, List.setIfInBounds_toArray, List.set_cons_zero, List.set_cons_succ]
  have hx2 := (hx.storeA (evAr (E.e i) (.slice qa1 (nA i) ca1) (.slice qd1 (nD i) cd1) (.slice qc1 (nC i) cc1)) (by simp)).congr (g := evF (E.e i) (.slice qa1 (nA i) ca1) (.slice qd1 (nD i) cd1) (.slice qc1 (nC i) cc1)) (evAr_F _ _ _ _)
  have hy2 := hy.fr (Fr.sets (T := [bx]) (.inr List.mem_cons_self) (evAr (E.e i) (.slice qa1 (nA i) ca1) (.slice qd1 (nD i) cd1) (.slice qc1 (nC i) cc1)).toList 0 (Fr.refl _ W1)) (by simpa using hne.symm)
  generalize W1.setCells bx 0 (evAr (E.e i) (.slice qa1 (nA i) ca1) (.slice qd1 (nD i) cd1) (.slice qc1 (nC i) cc1)).toList = W2 at hx2 hy2 bel2 ⊢
  have bel3 : Below w.drew.heap.size w.drew (W2.setCells bY 0 (evAr (E.e j) (.slice qa2 (nA j) ca2) (.slice qd2 (nD j) cd2) (.slice qc2 (nC j) cc2)).toList) := (Fr.sets (T := []) (.inl hby) _ _ (Fr.of_below bel2)).to_below
  refine held_skip (i := 11) (w' := W2.setCells bY 0 (evAr (E.e j) (.slice qa2 (nA j) ca2) (.slice qd2 (nD j) cd2) (.slice qc2 (nC j) cc2)).toList) _ (by kernel_rfl) rfl (by rfl) (run_store evT _ _ rfl rfl rfl (st_ev hy2 _ _ _ _ _ _ _ _ _ _)) (hS _ bel3) ?_
  simp only [Act.put, List.getElem_toArray, List.getElem_cons_succ, List.getElem_cons_zero, List.setIfInBounds_toArray, List.set_cons_zero, List.set_cons_succ]
  have hy3 := (hy2.storeA (evAr (E.e j) (.slice qa2 (nA j) ca2) (.slice qd2 (nD j) cd2) (.slice qc2 (nC j) cc2)) (by simp)).congr (g := evF (E.e j) (.slice qa2 (nA j) ca2) (.slice qd2 (nD j) cd2) (.slice qc2 (nC j) cc2)) (evAr_F _ _ _ _)
  have hx3 := hx2.fr (Fr.sets (T := [bY]) (.inr List.mem_cons_self) (evAr (E.e j) (.slice qa2 (nA j) ca2) (.slice qd2 (nD j) cd2) (.slice qc2 (nC j) cc2)).toList 0 (Fr.refl _ W2)) (by simpa using hne)
  generalize W2.setCells bY 0 (evAr (E.e j) (.slice qa2 (nA j) ca2) (.slice qd2 (nD j) cd2) (.slice qc2 (nC j) cc2)).toList = W3 at hx3 hy3 bel3 ⊢
  have R3 : Hid (RfW w W3 bx bY (E.e i) (E.e j) (.slice qa1 (nA i) ca1) (.slice qd1 (nD i) cd1) (.slice qc1 (nC i) cc1) (.slice qa2 (nA j) ca2) (.slice qd2 (nD j) cd2) (.slice qc2 (nC j) cc2)) := hid ⟨HB _ bel3, hx3, hy3⟩
  refine wpAnyH_done (by kernel_rfl) ?_ _
  clear hx hy hx2 hy2 hx3 hy3 bel2 bel3 hB1 hS hne hbx hby
  go_upto_region 4 with (fail)
  have Hone : Hid (∀ k, (E.e i).ht = (E.e j).ht → holdsX E n nA nD nC FA FD FC i j k = ordX E nA nD nC FA FD FC i j k) := hid fun k h => by
    unfold holdsX oneB
    rw [Int.toNat_natCast, Int.toNat_natCast, decide_eq_true (show (0 : Int) ≤ i by omega), decide_eq_true (show (i : Int) < j by omega), decide_eq_true (show (j : Int) < n by omega), h]
    simp
  go_cut [63] from 400 (fun s W => ∃ z : Bool, s = .bool z ∧ (z = false → (E.e i).ht = (E.e j).ht ∧ memB (E.e i) = true ∧ memB (E.e j) = true) ∧ (z = true → r = false) ∧ RfW w W bx bY (E.e i) (E.e j) (.slice qa1 (nA i) ca1) (.slice qd1 (nD i) cd1) (.slice qc1 (nC i) cc1) (.slice qa2 (nA j) ca2) (.slice qd2 (nD j) cd2) (.slice qc2 (nC j) cc2))
  case first =>
    have x0 : W3.cell? ⟨bx, 0, none⟩ = some (.int .i64 (E.e i).ht) := R3.out.x.cell (i := 0) (by omega)
    have y0 : W3.cell? ⟨bY, 0, none⟩ = some (.int .i64 (E.e j).ht) := R3.out.y.cell (i := 0) (by omega)
    obtain ⟨x1, hx1⟩ : ∃ x, (E.e i).ht = x := ⟨_, rfl⟩
    obtain ⟨x2, hx2⟩ : ∃ x, (E.e j).ht = x := ⟨_, rfl⟩
    rw [hx1] at x0
    rw [hx2] at y0
    by_cases he : x1 = x2
    · subst he
      have hht : Hid ((E.e i).ht = (E.e j).ht) := hid (hx1.trans hx2.symm)
      clear hx1 hx2
      obtain ⟨ma, hma⟩ : ∃ x, memB (E.e i) = x := ⟨_, rfl⟩
      obtain ⟨mb, hmb⟩ : ∃ x, memB (E.e j) = x := ⟨_, rfl⟩
      have HX := hid (fun W => refMemory_w (w := W) (e := E.e i) (va := .slice qa1 (nA i) ca1) (vd := .slice qd1 (nD i) cd1) (vc := .slice qc1 (nC i) cc1))
      have HY := hid (fun W => refMemory_w (w := W) (e := E.e j) (va := .slice qa2 (nA j) ca2) (vd := .slice qd2 (nD j) cd2) (vc := .slice qc2 (nC j) cc2))
      rw [hma] at HX
      rw [hmb] at HY
      have lx := load_ev R3.out.x
      have hf : Hid (ma = false ∨ mb = false → r = false) := hid fun h => by
        rw [Hr.out, Hone.out _ hht.out]
        unfold ordX ordZ
        rw [hma, hmb]
        rcases h with h | h <;> rw [h] <;> simp
      have Hma := hid hma
      have Hmb := hid hmb
      clear hma hmb
      cases ma
      · go_wp2_with (first
          | (go_at_call 15; refine (HX.out _).mono ?_; rintro x w5 ⟨rfl, hB5⟩; have R5 := hid (R3.out.same hB5); clear hB5)
          | (refine wp_ld_g (by rfl) _ _ rfl rfl lx ?_))
        go_meet
        case rel => exact ⟨true, rfl, (fun h => by cases h), (fun _ => hf.out (by simp)), R5.out⟩
      · go_wp2_with (first
          | (go_at_call 15; refine (HX.out _).mono ?_; rintro x w5 ⟨rfl, hB5⟩; have R5 := hid (R3.out.same hB5); have ly := load_ev R5.out.y; clear hB5 HX)
          | (go_at_call 15; refine (HY.out _).mono ?_; rintro x w6 ⟨rfl, hB6⟩; have R6 := hid (R5.out.same hB6); clear hB6)
          | (refine wp_ld_g (by rfl) _ _ rfl rfl lx ?_)
          | (refine wp_ld_g (by rfl) _ _ rfl rfl ly ?_))
        go_meet
        case rel => exact ⟨!mb, by simp, (fun h => ⟨hht.out, Hma.out, by rw [Hmb.out]; simpa using h⟩), (fun h => hf.out (by revert h; cases mb <;> simp)), R6.out⟩
    · have hg : (x1 == x2) = false := by simpa using he
      have hf : Hid (r = false) := hid (No.out (by
        unfold oneB
        rw [Int.toNat_natCast, Int.toNat_natCast, hx1, hx2, hg]; simp))
      clear he hx1 hx2
      have hg2 : (x1 != x2) = true := by simp [bne, hg]
      go_wp2
      go_meet
      case rel => exact ⟨true, rfl, (fun h => by cases h), (fun _ => hf.out), R3.out⟩
  case rest =>
    obtain ⟨z, rfl, hz0, hz1, hR4⟩ := hcut
    have R4 := hid hR4
    cases z
    case true =>
      have hf := hid (hz1 rfl)
      clear hz0 hz1 hR4 R3
      go_wp2
      go_ret
      exact ⟨by rw [hf.out]; rfl, R4.out.bel⟩
    case false =>
      obtain ⟨hht, hmx, hmy⟩ := hz0 rfl
      have Hht := hid hht
      have Hmx := hid hmx
      have Hmy := hid hmy
      clear hz0 hz1 hR4 R3 hht hmx hmy
      have hOrd : r = (decide (0 ≤ rule) && ordR (spnV E nA FA i j) (psZ E nA nD FA FD i (btw (sameH E i) i j)) (E.e i) (E.e j) (inF (FA j) (nA j) (i : Int)) (inF (FD j) (nD j) (i : Int)) (inF (FC j) (nC j) (i : Int)) rule.toNat) := by
        rw [Hr.out, Hone.out _ Hht.out]
        unfold ordX ordZ
        rw [Hmx.out, Hmy.out]
        simp
      have HOrd := hid hOrd
      clear hOrd
      have Hkx := hid (HK i hin Hmx.out)
      have Hky : Hid ((E.e j).kn = true) := hid (HK j hjn Hmy.out)
      by_cases hk1 : rule = 1
      · subst hk1
        have HO : Hid (r = ((E.e j).wr && sameB (E.e i) (E.e j))) := hid (HOrd.out.trans (by rfl))
        have y13 : wc.cell? ⟨bY, 13, none⟩ = some (.bool (E.e j).wr) := R4.out.y.cell (i := 13) (by omega)
        have x10 : wc.cell? ⟨bx, 10, none⟩ = some (.int .i64 (E.e i).addr) := R4.out.x.cell (i := 10) (by omega)
        have y10 : wc.cell? ⟨bY, 10, none⟩ = some (.int .i64 (E.e j).addr) := R4.out.y.cell (i := 10) (by omega)
        have HO2 : Hid (r = ((E.e j).wr && ((E.e i).addr == (E.e j).addr))) := hid (by rw [HO.out]; unfold sameB; rw [Hkx.out, Hky.out]; simp)
        obtain ⟨mw, hmw⟩ : ∃ x, (E.e j).wr = x := ⟨_, rfl⟩
        rw [hmw] at y13 HO2
        clear hmw HO
        generalize (E.e i).addr = x1 at x10 HO2
        generalize (E.e j).addr = x2 at y10 HO2
        cases mw
        all_goals
          go_wp2
          go_ret
          exact ⟨by rw [HO2.out]; first | rfl | simp, R4.out.bel⟩
      by_cases hk5 : rule = 5
      · subst hk5
        have HO : Hid (r = ((E.e i).i.aq)) := hid (HOrd.out.trans (by rfl))
        have x8 : wc.cell? ⟨bx, 8, none⟩ = some (.bool (E.e i).i.aq) := R4.out.x.cell (i := 8) (by omega)
        go_wp2
        go_ret
        exact ⟨by rw [HO.out]; rfl, R4.out.bel⟩
      by_cases hk6 : rule = 6
      · subst hk6
        have HO : Hid (r = ((E.e j).i.rl)) := hid (HOrd.out.trans (by rfl))
        have y9 : wc.cell? ⟨bY, 9, none⟩ = some (.bool (E.e j).i.rl) := R4.out.y.cell (i := 9) (by omega)
        go_wp2
        go_ret
        exact ⟨by rw [HO.out]; rfl, R4.out.bel⟩
      by_cases hk7 : rule = 7
      · subst hk7
        have HO : Hid (r = (markB (E.e i) && markB (E.e j))) := hid (HOrd.out.trans (by rfl))
        have x8 : wc.cell? ⟨bx, 8, none⟩ = some (.bool (E.e i).i.aq) := R4.out.x.cell (i := 8) (by omega)
        have x9 : wc.cell? ⟨bx, 9, none⟩ = some (.bool (E.e i).i.rl) := R4.out.x.cell (i := 9) (by omega)
        have y8 : wc.cell? ⟨bY, 8, none⟩ = some (.bool (E.e j).i.aq) := R4.out.y.cell (i := 8) (by omega)
        have y9 : wc.cell? ⟨bY, 9, none⟩ = some (.bool (E.e j).i.rl) := R4.out.y.cell (i := 9) (by omega)
        have HO2 : Hid (r = (((E.e i).i.aq || (E.e i).i.rl) && ((E.e j).i.aq || (E.e j).i.rl))) := hid HO.out
        clear HO
        generalize (E.e i).i.aq = p1 at x8 HO2
        generalize (E.e i).i.rl = p2 at x9 HO2
        generalize (E.e j).i.aq = p3 at y8 HO2
        generalize (E.e j).i.rl = p4 at y9 HO2
        cases p1 <;> cases p2 <;> cases p3
        all_goals
          go_wp2
          go_ret
          exact ⟨by rw [HO2.out]; first | rfl | simp, R4.out.bel⟩
      by_cases hk9 : rule = 9
      · subst hk9
        have HO : Hid (r = (inF (FA j) (nA j) (i : Int))) := hid (HOrd.out.trans (by rfl))
        have cl : wc.cell? ⟨bY, 20, none⟩ = some (.slice qa2 (nA j) ca2) := R4.out.y.cell (i := 20) (by omega)
        have hL : RdL wc (.slice qa2 (nA j) ca2) (nA j) (FA j) := by rw [← ea2]; exact H.la wc (hw.trans (R4.out.bel.mono hw.size)) j hjn
        have HH := hid (refHas_w hL ((H.sz j hjn).1) (i : Int))
        clear hL
        go_wp2_with (go_at_call 24; refine HH.out.mono ?_; rintro x w' ⟨rfl, rfl⟩)
        go_ret
        exact ⟨by rw [HO.out]; rfl, R4.out.bel⟩
      by_cases hk10 : rule = 10
      · subst hk10
        have HO : Hid (r = (inF (FD j) (nD j) (i : Int))) := hid (HOrd.out.trans (by rfl))
        have cl : wc.cell? ⟨bY, 21, none⟩ = some (.slice qd2 (nD j) cd2) := R4.out.y.cell (i := 21) (by omega)
        have hL : RdL wc (.slice qd2 (nD j) cd2) (nD j) (FD j) := by rw [← ed2]; exact H.ld wc (hw.trans (R4.out.bel.mono hw.size)) j hjn
        have HH := hid (refHas_w hL ((H.sz j hjn).2.1) (i : Int))
        clear hL
        go_wp2_with (go_at_call 24; refine HH.out.mono ?_; rintro x w' ⟨rfl, rfl⟩)
        go_ret
        exact ⟨by rw [HO.out]; rfl, R4.out.bel⟩
      by_cases hk11 : rule = 11
      · subst hk11
        have HO : Hid (r = ((E.e j).wr && inF (FC j) (nC j) (i : Int))) := hid (HOrd.out.trans (by rfl))
        have y13 : wc.cell? ⟨bY, 13, none⟩ = some (.bool (E.e j).wr) := R4.out.y.cell (i := 13) (by omega)
        have cl : wc.cell? ⟨bY, 22, none⟩ = some (.slice qc2 (nC j) cc2) := R4.out.y.cell (i := 22) (by omega)
        have hL : RdL wc (.slice qc2 (nC j) cc2) (nC j) (FC j) := by rw [← ec2]; exact H.lc wc (hw.trans (R4.out.bel.mono hw.size)) j hjn
        have HH := hid (refHas_w hL ((H.sz j hjn).2.2) (i : Int))
        clear hL
        obtain ⟨mw, hmw⟩ : ∃ x, (E.e j).wr = x := ⟨_, rfl⟩
        rw [hmw] at y13 HO
        clear hmw
        cases mw
        all_goals
          go_wp2_with (go_at_call 24; refine HH.out.mono ?_; rintro x w' ⟨rfl, rfl⟩)
          go_ret
          exact ⟨by rw [HO.out]; first | rfl | simp, R4.out.bel⟩
      by_cases hk3 : rule = 3
      · subst hk3
        have HO : Hid (r = (stoB (E.e i) && (hasB16 (E.e j) && ((E.e j).sh == (E.e i).ht && (E.e j).sa == (E.e i).at')))) := hid (HOrd.out.trans (by rfl))
        have x3 : wc.cell? ⟨bx, 3, none⟩ = some (.int .i64 (E.e i).i.op) := R4.out.x.cell (i := 3) (by omega)
        have HA := hid (fun W => amo_is (w := W) (E.e i).i.op)
        have HO2 : Hid (r = ((decide (79 ≤ (E.e i).i.op ∧ (E.e i).i.op ≤ 87) || (E.e i).i.op == 78) && srcB (E.e i) (E.e j))) := hid (by
          rw [HO.out]; unfold stoB; rw [stoB_eq]; unfold hasB16 srcB
          cases (E.e j).rd <;> cases (E.e j).wt <;> simp)
        have HSc := hid (fun W => refSrc_w (w := W) (e := E.e i) (e' := E.e j) (va := .slice qa1 (nA i) ca1) (vd := .slice qd1 (nD i) cd1) (vc := .slice qc1 (nC i) cc1) (va' := .slice qa2 (nA j) ca2) (vd' := .slice qd2 (nD j) cd2) (vc' := .slice qc2 (nC j) cc2))
        have lx := load_ev R4.out.x
        have ly := load_ev R4.out.y
        generalize srcB (E.e i) (E.e j) = sc at HO2 HSc
        generalize (E.e i).i.op = p at x3 HA HO2
        clear HO
        obtain ⟨q, hq⟩ : ∃ x, decide (79 ≤ p ∧ p ≤ 87) = x := ⟨_, rfl⟩
        rw [hq] at HA HO2
        clear hq
        cases q
        · by_cases h78 : p = 78
          · subst h78
            go_wp2_with (first
              | (go_at_call 22; refine (HA.out _).mono ?_; rintro x w' ⟨rfl, rfl⟩)
              | (go_at_call 23; refine (HSc.out _).mono ?_; rintro x w5 ⟨rfl, hB5⟩; have HB5 := hid (R4.out.bel.trans (hB5.mono R4.out.bel.size)); clear hB5)
              | (refine wp_ld_g (by rfl) _ _ rfl rfl lx ?_)
              | (refine wp_ld_g (by rfl) _ _ rfl rfl ly ?_))
            go_ret
            exact ⟨by rw [HO2.out]; first | rfl | simp, HB5.out⟩
          · have h78 : (p == 78) = false := by simpa using h78
            go_wp2_with (go_at_call 22; refine (HA.out _).mono ?_; rintro x w' ⟨rfl, rfl⟩)
            go_ret
            exact ⟨by rw [HO2.out, h78]; first | rfl | simp, R4.out.bel⟩
        · go_wp2_with (first
            | (go_at_call 22; refine (HA.out _).mono ?_; rintro x w' ⟨rfl, rfl⟩)
            | (go_at_call 23; refine (HSc.out _).mono ?_; rintro x w5 ⟨rfl, hB5⟩; have HB5 := hid (R4.out.bel.trans (hB5.mono R4.out.bel.size)); clear hB5)
            | (refine wp_ld_g (by rfl) _ _ rfl rfl lx ?_)
            | (refine wp_ld_g (by rfl) _ _ rfl rfl ly ?_))
          go_ret
          exact ⟨by rw [HO2.out]; first | rfl | simp, HB5.out⟩
      have b1 : (rule == 1) = false := by simpa using hk1
      have b3 : (rule == 3) = false := by simpa using hk3
      have b5 : (rule == 5) = false := by simpa using hk5
      have b6 : (rule == 6) = false := by simpa using hk6
      have b7 : (rule == 7) = false := by simpa using hk7
      have b9 : (rule == 9) = false := by simpa using hk9
      have b10 : (rule == 10) = false := by simpa using hk10
      have b11 : (rule == 11) = false := by simpa using hk11
      go_upto_region 23 with (fail)
      clear b1 b3 b5 b6 b7 b9 b10 b11
      have hsame : Hid (∀ k, i < k → k < j → sameH E i k = true) := hid fun k h1 h2 => by
        unfold sameH
        have u1 := H.up i k h1 (by omega)
        have u2 := H.up k j h2 (by omega)
        have u3 := Hht.out
        simp only [beq_iff_eq]
        omega
      go_wp2
      go_loopw [11, 12, 13, 14, 15, 16] (fun s11 s12 s13 s14 s15 s16 W => ∃ k : Nat, i + 1 ≤ k ∧ k ≤ j ∧ s16 = .int .i64 k ∧ s11 = .bool (rewZ E i (btw (sameH E i) i k)) ∧ s12 = .bool (fncZ E i j (btw (sameH E i) i k)) ∧ s13 = .bool (rsvZ E (btw (sameH E i) i k)) ∧ s14 = .bool (thrZ E nA nD FA FD i j (btw (sameH E i) i k)) ∧ s15 = .bool (adrZ nA FA i (btw (sameH E i) i k)) ∧ RfW w W bx bY (E.e i) (E.e j) (.slice qa1 (nA i) ca1) (.slice qd1 (nD i) cd1) (.slice qc1 (nC i) cc1) (.slice qa2 (nA j) ca2) (.slice qd2 (nD j) cd2) (.slice qc2 (nC j) cc2)) (fun _ _ _ _ _ s16 _ => j - (intOf s16).toNat)
      case atStart =>
        refine ⟨i + 1, Nat.le_refl _, by omega, by go_num, ?_, ?_, ?_, ?_, ?_, R4.out⟩
        all_goals rw [btw_start]; rfl
      case round =>
        obtain ⟨k, hk1', hk2', rfl, rfl, rfl, rfl, rfl, rfl, hR⟩ := hrel
        have R5 := hid hR
        clear hR R4
        by_cases hlt : k < j
        · have hkn : k < n := by omega
          have hwr := hw.trans (R5.out.bel.mono hw.size)
          obtain ⟨qa3, ca3, ea3, _⟩ := H.la wr hwr k hkn
          obtain ⟨qd3, cd3, ed3, _⟩ := H.ld wr hwr k hkn
          obtain ⟨qc3, cc3, ec3, _⟩ := H.lc wr hwr k hkn
          have hek := H.ev wr hwr k hkn
          rw [ea3, ed3, ec3] at hek
          have lk := load_evA hek
          have HG0 := hid (Hb.arr wr (evAr (ev0 0 0 0 0 0 false) nilV nilV nilV) evT)
          have hsn : btw (sameH E i) i (k + 1) = btw (sameH E i) i k ++ [k] := by rw [btw_succ, decide_eq_true (show i < k by omega), hsame.out k (by omega) hlt]; rfl
          have Hsn := hid hsn
          have Hky3 := hid (HK k hkn)
          clear hsn hek hwr
          generalize btw (sameH E i) i k = lk0 at Hsn ⊢
          have hkI : (k : Int) < n := by omega
          go_upto_region 28 with (first
            | (refine wp_ld_of rfl _ _ rfl rfl lk ?_)
            | (refine wp_st_of rfl _ _ _ rfl rfl rfl (st_ev (HG0.out.less (by simp)) (E.e k) qa3 (nA k) ca3 qd3 (nD k) cd3 qc3 (nC k) cc3) ?_))
          have hB6 : Below wr.heap.size wr ((wr.alloc (.cells (evAr (ev0 0 0 0 0 0 false) nilV nilV nilV) evT)).setCells wr.heap.size 0 (evAr (E.e k) (.slice qa3 (nA k) ca3) (.slice qd3 (nD k) cd3) (.slice qc3 (nC k) cc3)).toList) := (Fr.sets (T := []) (.inl (Nat.le_refl _)) _ _ ((Fr.refl [] wr).alloc _)).to_below
          have R6 := hid (R5.out.same hB6)
          have G6 := hid (((HG0.out.less (N' := 23) (by simp)).storeA (evAr (E.e k) (.slice qa3 (nA k) ca3) (.slice qd3 (nD k) cd3) (.slice qc3 (nC k) cc3)) (by simp)).congr (g := evF (E.e k) (.slice qa3 (nA k) ca3) (.slice qd3 (nD k) cd3) (.slice qc3 (nC k) cc3)) (evAr_F _ _ _ _))
          clear hB6 HG0 lk R5
          simp only [Act.put]
          generalize (wr.alloc (.cells (evAr (ev0 0 0 0 0 0 false) nilV nilV nilV) evT)).setCells wr.heap.size 0 (evAr (E.e k) (.slice qa3 (nA k) ca3) (.slice qd3 (nD k) cd3) (.slice qc3 (nC k) cc3)).toList = W6 at R6 G6 ⊢
          obtain ⟨g, hg⟩ : ∃ g, g = wr.heap.size := ⟨_, rfl⟩
          rw [← hg] at G6 ⊢
          clear hg
          refine r28_w (bx := bx) (bY := bY) (g := g) (i := i) (mw := (E.e k).wr) (y1 := (E.e k).addr) (y2 := (E.e i).addr) (G6.out.cell (i := 13) (by omega)) (G6.out.cell (i := 10) (by omega)) (R6.out.x.cell (i := 10) (by omega)) ?_
          intro v156 v157 v158 v159 v160 v161 v162 v163 v164 v165 v166 v167 w7 hw7
          subst hw7
          have e28 : (rewZ E i lk0 || ((E.e k).wr && ((E.e k).addr == (E.e i).addr))) = rewZ E i (lk0 ++ [k]) := by
            rw [rewZ_snoc]
            cases hwk : (E.e k).wr
            · simp
            · unfold sameB
              rw [Hkx.out, Hky3.out (by simp [hwk]), show ((E.e k).addr == (E.e i).addr) = ((E.e i).addr == (E.e k).addr) from BEq.comm]; simp
          rw [e28]
          clear e28
          go_upto_region 29 with (fail)
          refine r29_w (bx := bx) (bY := bY) (g := g) (i := i) (z := fncB E i j k) (o := (E.e k).i.op) (im := (E.e k).i.imm) (y := (E.e j).wr) (G6.out.cell (i := 3) (by omega)) (G6.out.cell (i := 7) (by omega)) (R6.out.y.cell (i := 13) (by omega)) (load_ev R6.out.x) (load_ev R6.out.y) (fun h63 => ?_) (hid fun w' hB => (G6.out.below hB G6.out.lt).cell (i := 3) (by omega)) (fun h64 => ?_) (fun n63 n64 => ?_) ?_
          · have hF := H.fe k hkn h63
            have hO := refOrders_w (w := W6) (e := E.e i) (e' := E.e j) (va := .slice qa1 (nA i) ca1) (vd := .slice qd1 (nD i) cd1) (vc := .slice qc1 (nC i) cc1) (va' := .slice qa2 (nA j) ca2) (vd' := .slice qd2 (nD j) cd2) (vc' := .slice qc2 (nC j) cc2) ((E.e k).i.imm / 16).toNat ((E.e k).i.imm % 16).toNat (by omega) (by omega)
            rw [show ((16 * ((E.e k).i.imm / 16).toNat + ((E.e k).i.imm % 16).toNat : Nat) : Int) = (E.e k).i.imm by omega] at hO
            have : fncB E i j k = (incB ((E.e k).i.imm / 16).toNat (E.e i) && incB ((E.e k).i.imm % 16).toNat (E.e j)) := by unfold fncB; rw [h63]; simp
            rw [this]
            exact hid hO
          · unfold fncB; rw [h64]; simp
          · unfold fncB; rw [n63, n64]; simp
          intro v168 v169 v170 v171 v172 v173 v174 v175 v176 v177 v178 v179 v180 v181 v182 v183 v184 v185 v186 v187 v188 v189 v190 v191 v192 w7 hB7
          rw [← fncZ_snoc]
          have R7 := hid (R6.out.same hB7)
          have G7 := hid (G6.out.below hB7 G6.out.lt)
          clear hB7 R6 G6
          go_upto_region 30 with (fail)
          refine r30_w (bx := bx) (bY := bY) (g := g) (i := i) (o := (E.e k).i.op) (G7.out.cell (i := 3) (by omega)) ?_
          intro v193 v194 v195 v196 v197 v198 v199 v200 v201 v202 v203 v204 v205 w8 hw8
          subst hw8
          have e30 : (rsvZ E lk0 || ((E.e k).i.op == 77 || (E.e k).i.op == 78)) = rsvZ E (lk0 ++ [k]) := by rw [rsvZ_snoc]; rfl
          rw [e30]
          clear e30
          go_upto_region 31 with (fail)
          have HL : Hid (∀ w5, Below w7.heap.size w7 w5 → RdL w5 (.slice qa3 (nA k) ca3) (nA k) (FA k) ∧ RdL w5 (.slice qd3 (nD k) cd3) (nD k) (FD k) ∧ w5.cell? ⟨g, 20, none⟩ = some (.slice qa3 (nA k) ca3) ∧ w5.cell? ⟨g, 21, none⟩ = some (.slice qd3 (nD k) cd3)) := hid fun w5 hB => by
            have h5 := G7.out.below hB G7.out.lt
            have hb5 := hw.trans ((R7.out.bel.trans (hB.mono R7.out.bel.size)).mono hw.size)
            exact ⟨by rw [← ea3]; exact H.la w5 hb5 k hkn, by rw [← ed3]; exact H.ld w5 hb5 k hkn, h5.cell (i := 20) (by omega), h5.cell (i := 21) (by omega)⟩
          refine r31_w (bx := bx) (bY := bY) (g := g) (i := i) (mw := (E.e k).wr) (sc := srcB (E.e k) (E.e j)) (fa := inF (FA k) (nA k) (i : Int)) (fd := inF (FD k) (nD k) (i : Int)) (G7.out.cell (i := 13) (by omega)) (load_ev G7.out) (load_ev R7.out.y) (hid (refSrc_w (w := w7) (e := E.e k) (e' := E.e j) (va := .slice qa3 (nA k) ca3) (vd := .slice qd3 (nD k) cd3) (vc := .slice qc3 (nC k) cc3) (va' := .slice qa2 (nA j) ca2) (vd' := .slice qd2 (nD j) cd2) (vc' := .slice qc2 (nC j) cc2))) (hid fun w5 hB => ⟨(HL.out w5 hB).2.2.1, ?_⟩) (hid fun w5 hB => ⟨(HL.out w5 hB).2.2.2, ?_⟩) ?_
          · exact (refHas_w (HL.out w5 hB).1 (H.sz k hkn).1 (i : Int)).mono fun x w' h => ⟨h.1, h.2⟩
          · exact (refHas_w (HL.out w5 hB).2.1 (H.sz k hkn).2.1 (i : Int)).mono fun x w' h => ⟨h.1, h.2⟩
          intro v206 v207 v208 v209 v210 v211 v212 v213 v214 v215 v216 v217 v218 v219 v220 v221 v222 v223 v224 v225 v226 v227 w8 hB8
          have e31 : (thrZ E nA nD FA FD i j lk0 || ((E.e k).wr && (srcB (E.e k) (E.e j) && (inF (FA k) (nA k) (i : Int) || inF (FD k) (nD k) (i : Int))))) = thrZ E nA nD FA FD i j (lk0 ++ [k]) := by rw [thrZ_snoc]; rfl
          rw [e31]
          clear e31
          have hA8 := (HL.out w8 hB8).1
          have hc8 := (HL.out w8 hB8).2.2.1
          have R8 := hid (R7.out.same hB8)
          clear hB8 R7 G7 HL
          go_upto_region 32 with (fail)
          refine r32_w (bx := bx) (bY := bY) (g := g) (i := i) (fa := inF (FA k) (nA k) (i : Int)) hc8 (hid ((refHas_w hA8 (H.sz k hkn).1 (i : Int)).mono fun x w' h => ⟨h.1, h.2⟩)) ?_
          intro v228 v229 v230 v231 v232 v233 v234 w9 hw9
          subst hw9
          have e32 : (adrZ nA FA i lk0 || inF (FA k) (nA k) (i : Int)) = adrZ nA FA i (lk0 ++ [k]) := by rw [adrZ_snoc]; rfl
          rw [e32]
          clear e32 hA8 hc8
          go_wp2
          go_roundw
          case rel =>
            refine ⟨k + 1, by omega, by omega, by first | go_num | (push_cast; rfl), ?_, ?_, ?_, ?_, ?_, R8.out⟩
            all_goals rw [Hsn.out]
          case measure => simp [intOf]; omega
        · have hjk : j = k := by omega
          subst hjk
          clear hlt hk1' hk2' hsame
          by_cases hk4 : rule = 4
          · subst hk4
            have HO : Hid (r = (fncZ E i j (btw (sameH E i) i j))) := hid (HOrd.out.trans (fncZ_eq E i j _))
            go_wp2
            go_ret
            exact ⟨by rw [HO.out]; rfl, R5.out.bel⟩
          by_cases hk8 : rule = 8
          · subst hk8
            have HO : Hid (r = ((E.e i).i.op == 77 && ((E.e j).i.op == 78 && !rsvZ E (btw (sameH E i) i j)))) := hid (HOrd.out.trans (by rfl))
            have x3 : wr.cell? ⟨bx, 3, none⟩ = some (.int .i64 (E.e i).i.op) := R5.out.x.cell (i := 3) (by omega)
            have y3 : wr.cell? ⟨bY, 3, none⟩ = some (.int .i64 (E.e j).i.op) := R5.out.y.cell (i := 3) (by omega)
            generalize rsvZ E (btw (sameH E i) i j) = rs at HO ⊢
            generalize (E.e i).i.op = o1 at x3 HO
            generalize (E.e j).i.op = o2 at y3 HO
            by_cases h77 : o1 = 77
            · subst h77
              by_cases h78 : o2 = 78
              · subst h78
                go_wp2
                go_ret
                exact ⟨by rw [HO.out]; first | rfl | simp, R5.out.bel⟩
              · have n78 : (o2 == 78) = false := by simpa using h78
                clear h78
                go_wp2
                go_ret
                exact ⟨by rw [HO.out, n78]; first | rfl | simp, R5.out.bel⟩
            · have n77 : (o1 == 77) = false := by simpa using h77
              clear h77
              go_wp2
              go_ret
              exact ⟨by rw [HO.out, n77]; first | rfl | simp, R5.out.bel⟩
          by_cases hk12 : rule = 12
          · subst hk12
            have HO : Hid (r = (thrZ E nA nD FA FD i j (btw (sameH E i) i j))) := hid (HOrd.out.trans (thrZ_eq E nA nD FA FD i j _))
            go_wp2
            go_ret
            exact ⟨by rw [HO.out]; rfl, R5.out.bel⟩
          by_cases hk13 : rule = 13
          · subst hk13
            have HO : Hid (r = ((E.e j).wr && adrZ nA FA i (btw (sameH E i) i j))) := hid (HOrd.out.trans (by rfl))
            have y13 : wr.cell? ⟨bY, 13, none⟩ = some (.bool (E.e j).wr) := R5.out.y.cell (i := 13) (by omega)
            obtain ⟨mw, hmw⟩ : ∃ x, (E.e j).wr = x := ⟨_, rfl⟩
            rw [hmw] at y13 HO
            clear hmw
            cases mw
            all_goals
              go_wp2
              go_ret
              exact ⟨by rw [HO.out]; first | rfl | simp, R5.out.bel⟩
          by_cases hk2 : rule = 2
          · subst hk2
            have HO : Hid (r = (hasB16 (E.e i) && (hasB16 (E.e j) && (sameB (E.e i) (E.e j) && (!rewZ E i (btw (sameH E i) i j) && !((E.e i).sh == (E.e j).sh && (E.e i).sa == (E.e j).sa)))))) := hid (HOrd.out.trans (by rfl))
            go_upto_region 35 with (fail)
            have lsx := load_srcH R5.out.x
            have lsy := load_srcH R5.out.y
            refine r35_w (bx := bx) (bY := bY) (g := 0) (i := 0) (R5.out.x.cell (i := 12) (by omega)) (R5.out.y.cell (i := 12) (by omega)) (R5.out.x.cell (i := 19) (by omega)) (R5.out.y.cell (i := 19) (by omega)) (R5.out.x.cell (i := 10) (by omega)) (R5.out.y.cell (i := 10) (by omega)) lsx lsy ?_
            intro v238 v239 v240 v241 v242 v243 v244 v245 v246 v247 v248 v249 v250 v251 v252 v253 v254 v255 v256 v257 v258 v259 v260 v261 v262 v263 v264 v265 v266 v267 v268 v269 v270 v271 w9 hw9
            subst hw9
            have e35 : ((E.e i).rd && ((E.e j).rd && (!(E.e i).wt && (!(E.e j).wt && (((E.e i).addr == (E.e j).addr) && (!rewZ E i (btw (sameH E i) i j) && !((E.e i).sh == (E.e j).sh && (E.e i).sa == (E.e j).sa))))))) = r := by
              rw [HO.out]; unfold hasB16 sameB; rw [Hkx.out, Hky.out]
              cases (E.e i).rd <;> cases (E.e j).rd <;> cases (E.e i).wt <;> cases (E.e j).wt <;> simp
            rw [e35]
            clear e35 lsx lsy
            go_wp2
            go_ret
            exact ⟨rfl, R5.out.bel⟩
          have b2 : (rule == 2) = false := by simpa using hk2
          have b4 : (rule == 4) = false := by simpa using hk4
          have b8 : (rule == 8) = false := by simpa using hk8
          have b12 : (rule == 12) = false := by simpa using hk12
          have b13 : (rule == 13) = false := by simpa using hk13
          have HO : Hid (r = false) := hid (by
            rw [HOrd.out]
            by_cases h0 : 0 ≤ rule
            · rw [decide_eq_true h0]
              obtain ⟨m, rfl⟩ : ∃ m : Nat, rule = (m : Int) := ⟨rule.toNat, by omega⟩
              rw [Int.toNat_natCast]
              unfold ordR
              split <;> first | rfl | (exfalso; omega)
            · rw [decide_eq_false h0]; rfl)
          go_wp2
          go_ret
          exact ⟨by rw [HO.out]; rfl, R5.out.bel⟩
end
end Go.Proofs.Ytchjjbcmbdmlgaa
