/- Layer 16: package ppo: which rule orders a span's event and one behind it: rules 2, 3, 12. -/
import Derived.Test.YtchjjbcmbdmlgaaOrd16
set_option linter.unusedVariables false
set_option linter.unusedSimpArgs false
namespace Go.Proofs.Ytchjjbcmbdmlgaa
open Go Go.RowKit Sim
theorem load_srcE {W : World} {b o : Nat} {e : EvZ} {va vd vc : Value} (h : EvA W b o e va vd vc) : (loadVar 43 ⟨b, o + 17, none⟩).run Try.prog W = .ok (.agg #[.int .i64 e.sh, .int .i64 e.sa]) W :=
  run_loadVar_mid W b (o + 17) _ [.int .i64 e.sh, .int .i64 e.sa] _ (fun j v hj => by
    have hl := (List.getElem?_eq_some_iff.1 hj).1
    have : j = 0 ∨ j = 1 := by simp at hl; omega
    rw [show o + 17 + j = o + (17 + j) by omega, h (17 + j) (by simp at hl; omega), ← hj]
    rcases this with rfl | rfl <;> rfl) Try.underlying43 rfl refInfo16
theorem EvA.below {W W' : World} {b o : Nat} {e : EvZ} {va vd vc : Value} (h : EvA W b o e va vd vc) (hb : Below W.heap.size W W') : EvA W' b o e va vd vc := fun k hk => (hb.cell (p := ⟨b, _, none⟩) h.lt).trans (h k hk)
def fst16 (ps : List (Int × Int)) (i : Nat) : Int := (ps.getD i (0, 0)).1
def snd16 (ps : List (Int × Int)) (i : Nat) : Int := (ps.getD i (0, 0)).2
theorem rdR_of {W : World} {B : Nat} {v : Value} {ps : List (Int × Int)} (h : W.ownsRow B 43 2 v ps.length (refsV ps)) : RdR W v ps.length (fst16 ps) (snd16 ps) := by
  rcases h.2 with ⟨rfl, h0⟩ | ⟨g, cap, cur, rfl, _⟩
  · rw [h0]; exact ⟨_, _, rfl, fun hp => by omega⟩
  · refine ⟨_, _, rfl, fun _ => ⟨g, 0, rfl, fun i hi => ?_⟩⟩
    have h1 := refsV_get ps i hi
    have e : ps.getD i (0, 0) = ps[i] := by rw [List.getD_eq_getElem?_getD, List.getElem?_eq_getElem hi]; rfl
    rw [Nat.zero_add, World.ownsRow.cellAt h (i * 2) (by omega), World.ownsRow.cellAt h (i * 2 + 1) (by omega), h1.1, h1.2]
    unfold fst16 snd16
    rw [e]; exact ⟨rfl, rfl⟩
theorem inR_ps (ps : List (Int × Int)) (x y : Int) : inR (fst16 ps) (snd16 ps) ps.length x y = ps.contains (x, y) := by
  have key : ps.contains (x, y) = true ↔ ∃ i, i < ps.length ∧ fst16 ps i = x ∧ snd16 ps i = y := by
    rw [List.contains_iff_mem, List.mem_iff_getElem]
    constructor
    · rintro ⟨i, hi, he⟩
      have e : ps.getD i (0, 0) = ps[i] := by rw [List.getD_eq_getElem?_getD, List.getElem?_eq_getElem hi]; rfl
      exact ⟨i, hi, by unfold fst16; rw [e, he], by unfold snd16; rw [e, he]⟩
    · rintro ⟨i, hi, h1, h2⟩
      have e : ps.getD i (0, 0) = ps[i] := by rw [List.getD_eq_getElem?_getD, List.getElem?_eq_getElem hi]; rfl
      unfold fst16 at h1
      unfold snd16 at h2
      rw [e] at h1 h2
      exact ⟨i, hi, Prod.ext h1 h2⟩
  cases hc : ps.contains (x, y)
  · refine inR_no fun i hi hx => ?_
    have := key.2 ⟨i, hi, hx.1, hx.2⟩
    rw [hc] at this; cases this
  · obtain ⟨i, hi, h1, h2⟩ := key.1 hc
    exact inR_yes hi h1 h2
section
variable {w : World} {B sb : Nat} {s : SpZ} {ps : List (Int × Int)} {e m : EvZ} {va vd vc va' vd' vc' : Value} {b o na nd nc : Nat} {Fa Fd Fc : Nat → Int}
set_option maxHeartbeats 4000000 in
set_option maxRecDepth 100000 in
theorem orders_2 (H : OrC w B sb s ps e m va vd vc va' vd' vc' b o na nd nc Fa Fd Fc) : Calls Try.prog 21 #[.pointer (some ⟨sb, 0, none⟩), .pointer (some ⟨b, o, none⟩), .int .i64 2] w (OrE w (memB e && (memB m && (hasB16 e && (hasB16 m && (sameB e m && (!s.rew && !(e.sh == m.sh && e.sa == m.sa)))))))) := by
  obtain ⟨r, hr⟩ : ∃ r, r = (memB e && (memB m && (hasB16 e && (hasB16 m && (sameB e m && (!s.rew && !(e.sh == m.sh && e.sa == m.sa))))))) := ⟨_, rfl⟩
  rw [← hr]
  obtain ⟨ma, hma⟩ : ∃ x, memB e = x := ⟨_, rfl⟩
  obtain ⟨mb, hmb⟩ : ∃ x, memB m = x := ⟨_, rfl⟩
  have h1 := isMemory_w H.ev
  have h2 := isMemory_w H.em
  rw [hma] at h1 hr
  rw [hmb] at h2 hr
  have HX := hid h1
  have HY := hid h2
  have cf : w.cell? ⟨sb, 0, none⟩ = some (.pointer (some ⟨s.fb, s.fo, none⟩)) := H.sp.row.cell (i := 0) (by omega)
  clear hma hmb h1 h2
  obtain ⟨rw1, hrw⟩ : ∃ x, s.rew = x := ⟨_, rfl⟩
  obtain ⟨ha, hha⟩ : ∃ x, hasB16 e = x := ⟨_, rfl⟩
  obtain ⟨hb, hhb⟩ : ∃ x, hasB16 m = x := ⟨_, rfl⟩
  obtain ⟨sm, hsm⟩ : ∃ x, sameB e m = x := ⟨_, rfl⟩
  have c4 : w.cell? ⟨sb, 4, none⟩ = some (.bool s.rew) := H.sp.row.cell (i := 4) (by omega)
  rw [hrw] at c4 hr
  rw [hha, hhb, hsm] at hr
  have HA := hid hha
  have HB' := hid hhb
  have HM := hid hsm
  clear hrw hha hhb hsm
  obtain ⟨q1, hq1⟩ : ∃ x, (e.sh == m.sh) = x := ⟨_, rfl⟩
  obtain ⟨q2, hq2⟩ : ∃ x, (e.sa == m.sa) = x := ⟨_, rfl⟩
  rw [hq1, hq2] at hr
  have Hq1 := hid hq1
  have Hq2 := hid hq2
  clear hq1 hq2
  have Hr := hid hr
  have HH := hid H
  clear hr H
  go_enter Try.func21, Try.ntmps21
  cases ma
  · go_wp2_with (go_at_call 31; refine HX.out.mono ?_; rintro x w' ⟨rfl, rfl⟩; clear HX; have HX := HY)
    go_ret
    exact ⟨by rw [Hr.out]; rfl, Below.refl _ _⟩
  · cases mb
    · go_wp2_with (go_at_call 31; refine HX.out.mono ?_; rintro x w' ⟨rfl, rfl⟩; clear HX; have HX := HY)
      go_ret
      exact ⟨by rw [Hr.out]; rfl, Below.refl _ _⟩
    · go_upto_region 8 with (go_at_call 31; refine HX.out.mono ?_; rintro x w' ⟨rfl, rfl⟩; clear HX; have HX := HY)
      have HS0 : EvA w.drew s.fb s.fo e va vd vc ∧ EvA w.drew b o m va' vd' vc' ∧ w.drew.cell? ⟨sb, 4, none⟩ = some (.bool rw1) := ⟨HH.out.ev, HH.out.em, c4⟩
      have HQ : Below w.heap.size w w.drew := ⟨rfl, rfl, rfl, Nat.le_refl _, fun _ _ => rfl⟩
      refine region_takes (fun U => EvA U s.fb s.fo e va vd vc ∧ EvA U b o m va' vd' vc' ∧ U.cell? ⟨sb, 4, none⟩ = some (.bool rw1)) [0] 29 (by rfl) (by kernel_rfl) (by kernel_rfl) (by kernel_rfl) (fun c a d v w h => And.intro (put_nil h.1) h.2) HS0 ?_
      iterate 1
        first
        | refine take_row _ rfl (by rfl) _ _ rfl rfl (fun W hSW => load_srcE hSW.1) ?_
        | refine take_row _ rfl (by rfl) _ _ rfl rfl (fun W hSW => load_srcE hSW.2.1) ?_
        | refine take_off _ rfl (by rfl) ?_
        | refine take_pure _ rfl (by rfl) (fun W hSW => by (obtain ⟨s0, s1, s2⟩ := hSW; go_simp; try with_reducible rfl)) ?_
        simp only [Act.put, List.getElem_toArray, List.getElem_cons_succ, List.getElem_cons_zero, List.setIfInBounds_toArray, List.set_cons_zero, List.set_cons_succ]
      refine take_done ?_
      refine held_call (i := 1) _ (by kernel_rfl) rfl (by rfl) (by go_simp; try exact ⟨rfl, rfl⟩) ?_
      refine (hasRead_w HS0.1).mono ?_
      rintro x w1 ⟨rfl, rfl⟩
      refine ⟨_, rfl, HS0, ?_⟩
      rw [HA.out]
      simp only [Act.put, List.getElem_toArray, List.getElem_cons_succ, List.getElem_cons_zero, List.setIfInBounds_toArray, List.set_cons_zero, List.set_cons_succ]
      cases ha
      · refine held_takes (by kernel_rfl) (fun c a d v w h => And.intro (put_nil h.1) h.2) HS0 (fuel := 0) [2, 3, 4, 5, 6, 7, 8, 9, 10, 11, 12, 13, 14, 15, 16, 17, 18, 19, 20, 21, 22, 23, 24, 25, 26, 27, 28, 29] _ _ (by kernel_rfl) ?_
        iterate 28
          first
          | refine take_row _ rfl (by rfl) _ _ rfl rfl (fun W hSW => load_srcE hSW.1) ?_
          | refine take_row _ rfl (by rfl) _ _ rfl rfl (fun W hSW => load_srcE hSW.2.1) ?_
          | refine take_off _ rfl (by rfl) ?_
          | refine take_pure _ rfl (by rfl) (fun W hSW => by (obtain ⟨s0, s1, s2⟩ := hSW; go_simp; try with_reducible rfl)) ?_
          simp only [Act.put, List.getElem_toArray, List.getElem_cons_succ, List.getElem_cons_zero, List.setIfInBounds_toArray, List.set_cons_zero, List.set_cons_succ]
        refine take_done ?_
        refine wpAnyH_done (by kernel_rfl) ?_ _
        go_wp2
        go_ret
        exact ⟨by rw [Hr.out]; first | rfl | simp [*], HQ⟩
      · refine held_takes (by kernel_rfl) (fun c a d v w h => And.intro (put_nil h.1) h.2) HS0 (fuel := 26) [2, 3] _ _ (by kernel_rfl) ?_
        iterate 2
          first
          | refine take_row _ rfl (by rfl) _ _ rfl rfl (fun W hSW => load_srcE hSW.1) ?_
          | refine take_row _ rfl (by rfl) _ _ rfl rfl (fun W hSW => load_srcE hSW.2.1) ?_
          | refine take_off _ rfl (by rfl) ?_
          | refine take_pure _ rfl (by rfl) (fun W hSW => by (obtain ⟨s0, s1, s2⟩ := hSW; go_simp; try with_reducible rfl)) ?_
          simp only [Act.put, List.getElem_toArray, List.getElem_cons_succ, List.getElem_cons_zero, List.setIfInBounds_toArray, List.set_cons_zero, List.set_cons_succ]
        refine take_done ?_
        refine held_call (i := 4) _ (by kernel_rfl) rfl (by rfl) (by go_simp; try exact ⟨rfl, rfl⟩) ?_
        refine (hasRead_w HS0.2.1).mono ?_
        rintro x w1 ⟨rfl, rfl⟩
        refine ⟨_, rfl, HS0, ?_⟩
        rw [HB'.out]
        simp only [Act.put, List.getElem_toArray, List.getElem_cons_succ, List.getElem_cons_zero, List.setIfInBounds_toArray, List.set_cons_zero, List.set_cons_succ]
        cases hb
        · refine held_takes (by kernel_rfl) (fun c a d v w h => And.intro (put_nil h.1) h.2) HS0 (fuel := 0) [5, 6, 7, 8, 9, 10, 11, 12, 13, 14, 15, 16, 17, 18, 19, 20, 21, 22, 23, 24, 25, 26, 27, 28, 29] _ _ (by kernel_rfl) ?_
          iterate 25
            first
            | refine take_row _ rfl (by rfl) _ _ rfl rfl (fun W hSW => load_srcE hSW.1) ?_
            | refine take_row _ rfl (by rfl) _ _ rfl rfl (fun W hSW => load_srcE hSW.2.1) ?_
            | refine take_off _ rfl (by rfl) ?_
            | refine take_pure _ rfl (by rfl) (fun W hSW => by (obtain ⟨s0, s1, s2⟩ := hSW; go_simp; try with_reducible rfl)) ?_
            simp only [Act.put, List.getElem_toArray, List.getElem_cons_succ, List.getElem_cons_zero, List.setIfInBounds_toArray, List.set_cons_zero, List.set_cons_succ]
          refine take_done ?_
          refine wpAnyH_done (by kernel_rfl) ?_ _
          go_wp2
          go_ret
          exact ⟨by rw [Hr.out]; first | rfl | simp [*], HQ⟩
        · refine held_takes (by kernel_rfl) (fun c a d v w h => And.intro (put_nil h.1) h.2) HS0 (fuel := 21) [5, 6, 7, 8] _ _ (by kernel_rfl) ?_
          iterate 4
            first
            | refine take_row _ rfl (by rfl) _ _ rfl rfl (fun W hSW => load_srcE hSW.1) ?_
            | refine take_row _ rfl (by rfl) _ _ rfl rfl (fun W hSW => load_srcE hSW.2.1) ?_
            | refine take_off _ rfl (by rfl) ?_
            | refine take_pure _ rfl (by rfl) (fun W hSW => by (obtain ⟨s0, s1, s2⟩ := hSW; go_simp; try with_reducible rfl)) ?_
            simp only [Act.put, List.getElem_toArray, List.getElem_cons_succ, List.getElem_cons_zero, List.setIfInBounds_toArray, List.set_cons_zero, List.set_cons_succ]
          refine take_done ?_
          refine held_call (i := 9) _ (by kernel_rfl) rfl (by rfl) (by go_simp; try exact ⟨rfl, rfl⟩) ?_
          refine (haveSame_w HS0.1 HS0.2.1).mono ?_
          rintro x w1 ⟨rfl, hq⟩
          have HS1 : EvA w1 s.fb s.fo e va vd vc ∧ EvA w1 b o m va' vd' vc' ∧ w1.cell? ⟨sb, 4, none⟩ = some (.bool rw1) := by (obtain ⟨n, rfl⟩ := hq; exact HS0)
          have HQ1 : Below w.heap.size w w1 := HQ.trans (below_q hq)
          refine ⟨_, rfl, HS1, ?_⟩
          rw [HM.out]
          simp only [Act.put, List.getElem_toArray, List.getElem_cons_succ, List.getElem_cons_zero, List.setIfInBounds_toArray, List.set_cons_zero, List.set_cons_succ]
          clear hq HS0 HQ
          cases sm
          · refine held_takes (by kernel_rfl) (fun c a d v w h => And.intro (put_nil h.1) h.2) HS1 (fuel := 0) [10, 11, 12, 13, 14, 15, 16, 17, 18, 19, 20, 21, 22, 23, 24, 25, 26, 27, 28, 29] _ _ (by kernel_rfl) ?_
            iterate 20
              first
              | refine take_row _ rfl (by rfl) _ _ rfl rfl (fun W hSW => load_srcE hSW.1) ?_
              | refine take_row _ rfl (by rfl) _ _ rfl rfl (fun W hSW => load_srcE hSW.2.1) ?_
              | refine take_off _ rfl (by rfl) ?_
              | refine take_pure _ rfl (by rfl) (fun W hSW => by (obtain ⟨s0, s1, s2⟩ := hSW; go_simp; try with_reducible rfl)) ?_
              simp only [Act.put, List.getElem_toArray, List.getElem_cons_succ, List.getElem_cons_zero, List.setIfInBounds_toArray, List.set_cons_zero, List.set_cons_succ]
            refine take_done ?_
            refine wpAnyH_done (by kernel_rfl) ?_ _
            go_wp2
            go_ret
            exact ⟨by rw [Hr.out]; first | rfl | simp [*], HQ1⟩
          · cases rw1
            · have hq1 := Hq1.out
              have hq2 := Hq2.out
              refine held_takes (by kernel_rfl) (fun c a d v w h => And.intro (put_nil h.1) h.2) HS1 (fuel := 3) [10, 11, 12, 13, 14, 15, 16, 17, 18, 19, 20, 21, 22, 23, 24, 25, 26] _ _ (by kernel_rfl) ?_
              iterate 17
                first
                | refine take_row _ rfl (by rfl) _ _ rfl rfl (fun W hSW => load_srcE hSW.1) ?_
                | refine take_row _ rfl (by rfl) _ _ rfl rfl (fun W hSW => load_srcE hSW.2.1) ?_
                | refine take_off _ rfl (by rfl) ?_
                | refine take_pure _ rfl (by rfl) (fun W hSW => by (obtain ⟨s0, s1, s2⟩ := hSW; go_simp; try with_reducible rfl)) ?_
                simp only [Act.put, List.getElem_toArray, List.getElem_cons_succ, List.getElem_cons_zero, List.setIfInBounds_toArray, List.set_cons_zero, List.set_cons_succ]
              refine take_done ?_
              refine held_op (i := 27) (v := .bool (!(q1 && q2))) (w' := w1) _ (by kernel_rfl) rfl (by rfl) (by go_simp; cases q1 <;> cases q2 <;> rfl) HS1 ?_
              simp only [Act.put, List.getElem_toArray, List.getElem_cons_succ, List.getElem_cons_zero, List.setIfInBounds_toArray, List.set_cons_zero, List.set_cons_succ]
              refine held_takes (by kernel_rfl) (fun c a d v w h => And.intro (put_nil h.1) h.2) HS1 (fuel := 0) [28, 29] _ _ (by kernel_rfl) ?_
              iterate 2
                first
                | refine take_row _ rfl (by rfl) _ _ rfl rfl (fun W hSW => load_srcE hSW.1) ?_
                | refine take_row _ rfl (by rfl) _ _ rfl rfl (fun W hSW => load_srcE hSW.2.1) ?_
                | refine take_off _ rfl (by rfl) ?_
                | refine take_pure _ rfl (by rfl) (fun W hSW => by (obtain ⟨s0, s1, s2⟩ := hSW; go_simp; try with_reducible rfl)) ?_
                simp only [Act.put, List.getElem_toArray, List.getElem_cons_succ, List.getElem_cons_zero, List.setIfInBounds_toArray, List.set_cons_zero, List.set_cons_succ]
              refine take_done ?_
              have e1 : r = !(q1 && q2) := by rw [Hr.out]; simp
              refine wpAnyH_done (by kernel_rfl) ?_ _
              clear hq1 hq2
              rw [← e1]
              have HE := hid e1
              clear e1
              go_wp2
              go_ret
              exact ⟨by rw [HE.out]; cases q1 <;> cases q2 <;> rfl, HQ1⟩
            · refine held_takes (by kernel_rfl) (fun c a d v w h => And.intro (put_nil h.1) h.2) HS1 (fuel := 0) [10, 11, 12, 13, 14, 15, 16, 17, 18, 19, 20, 21, 22, 23, 24, 25, 26, 27, 28, 29] _ _ (by kernel_rfl) ?_
              iterate 20
                first
                | refine take_row _ rfl (by rfl) _ _ rfl rfl (fun W hSW => load_srcE hSW.1) ?_
                | refine take_row _ rfl (by rfl) _ _ rfl rfl (fun W hSW => load_srcE hSW.2.1) ?_
                | refine take_off _ rfl (by rfl) ?_
                | refine take_pure _ rfl (by rfl) (fun W hSW => by (obtain ⟨s0, s1, s2⟩ := hSW; go_simp; try with_reducible rfl)) ?_
                simp only [Act.put, List.getElem_toArray, List.getElem_cons_succ, List.getElem_cons_zero, List.setIfInBounds_toArray, List.set_cons_zero, List.set_cons_succ]
              refine take_done ?_
              refine wpAnyH_done (by kernel_rfl) ?_ _
              go_wp2
              go_ret
              exact ⟨by rw [Hr.out]; first | rfl | simp [*], HQ1⟩
set_option maxHeartbeats 4000000 in
set_option maxRecDepth 100000 in
theorem orders_3 (H : OrC w B sb s ps e m va vd vc va' vd' vc' b o na nd nc Fa Fd Fc) : Calls Try.prog 21 #[.pointer (some ⟨sb, 0, none⟩), .pointer (some ⟨b, o, none⟩), .int .i64 3] w (OrE w (memB e && (memB m && (stoB e && (hasB16 m && (m.sh == e.ht && m.sa == e.at')))))) := by
  obtain ⟨r, hr⟩ : ∃ r, r = (memB e && (memB m && (stoB e && (hasB16 m && (m.sh == e.ht && m.sa == e.at'))))) := ⟨_, rfl⟩
  rw [← hr]
  obtain ⟨ma, hma⟩ : ∃ x, memB e = x := ⟨_, rfl⟩
  obtain ⟨mb, hmb⟩ : ∃ x, memB m = x := ⟨_, rfl⟩
  have h1 := isMemory_w H.ev
  have h2 := isMemory_w H.em
  rw [hma] at h1 hr
  rw [hmb] at h2 hr
  have HX := hid h1
  have HY := hid h2
  have cf : w.cell? ⟨sb, 0, none⟩ = some (.pointer (some ⟨s.fb, s.fo, none⟩)) := H.sp.row.cell (i := 0) (by omega)
  clear hma hmb h1 h2
  obtain ⟨ha, hha⟩ : ∃ x, stoB e = x := ⟨_, rfl⟩
  obtain ⟨hb, hhb⟩ : ∃ x, hasB16 m = x := ⟨_, rfl⟩
  rw [hha, hhb] at hr
  have HA := hid hha
  have HB' := hid hhb
  clear hha hhb
  obtain ⟨q1, hq1⟩ : ∃ x, (m.sh == e.ht) = x := ⟨_, rfl⟩
  obtain ⟨q2, hq2⟩ : ∃ x, (m.sa == e.at') = x := ⟨_, rfl⟩
  rw [hq1, hq2] at hr
  have Hq1 := hid hq1
  have Hq2 := hid hq2
  clear hq1 hq2
  have Hr := hid hr
  have HH := hid H
  clear hr H
  go_enter Try.func21, Try.ntmps21
  cases ma
  · go_wp2_with (go_at_call 31; refine HX.out.mono ?_; rintro x w' ⟨rfl, rfl⟩; clear HX; have HX := HY)
    go_ret
    exact ⟨by rw [Hr.out]; rfl, Below.refl _ _⟩
  · cases mb
    · go_wp2_with (go_at_call 31; refine HX.out.mono ?_; rintro x w' ⟨rfl, rfl⟩; clear HX; have HX := HY)
      go_ret
      exact ⟨by rw [Hr.out]; rfl, Below.refl _ _⟩
    · go_upto_region 10 with (go_at_call 31; refine HX.out.mono ?_; rintro x w' ⟨rfl, rfl⟩; clear HX; have HX := HY)
      have HS0 : EvA w.drew s.fb s.fo e va vd vc ∧ EvA w.drew b o m va' vd' vc' := ⟨HH.out.ev, HH.out.em⟩
      have HQ : Below w.heap.size w w.drew := ⟨rfl, rfl, rfl, Nat.le_refl _, fun _ _ => rfl⟩
      refine region_takes (fun U => EvA U s.fb s.fo e va vd vc ∧ EvA U b o m va' vd' vc') [0] 15 (by rfl) (by kernel_rfl) (by kernel_rfl) (by kernel_rfl) (fun c a d v w h => And.intro (put_nil h.1) h.2) HS0 ?_
      iterate 1
        first
        | refine take_row _ rfl (by rfl) _ _ rfl rfl (fun W hSW => load_srcE hSW.2) ?_
        | refine take_off _ rfl (by rfl) ?_
        | refine take_pure _ rfl (by rfl) (fun W hSW => by (obtain ⟨s0, s1⟩ := hSW; go_simp; try with_reducible rfl)) ?_
        simp only [Act.put, List.getElem_toArray, List.getElem_cons_succ, List.getElem_cons_zero, List.setIfInBounds_toArray, List.set_cons_zero, List.set_cons_succ]
      refine take_done ?_
      refine held_call (i := 1) _ (by kernel_rfl) rfl (by rfl) (by go_simp; try exact ⟨rfl, rfl⟩) ?_
      refine (isStoring_w HS0.1).mono ?_
      rintro x w1 ⟨rfl, hB⟩
      have HS1 : EvA w1 s.fb s.fo e va vd vc ∧ EvA w1 b o m va' vd' vc' := ⟨HS0.1.below hB, HS0.2.below hB⟩
      have HQ1 : Below w.heap.size w w1 := HQ.trans hB
      refine ⟨_, rfl, HS1, ?_⟩
      rw [HA.out]
      simp only [Act.put, List.getElem_toArray, List.getElem_cons_succ, List.getElem_cons_zero, List.setIfInBounds_toArray, List.set_cons_zero, List.set_cons_succ]
      clear hB HS0 HQ
      cases ha
      · refine held_takes (by kernel_rfl) (fun c a d v w h => And.intro (put_nil h.1) h.2) HS1 (fuel := 0) [2, 3, 4, 5, 6, 7, 8, 9, 10, 11, 12, 13, 14, 15] _ _ (by kernel_rfl) ?_
        iterate 14
          first
          | refine take_row _ rfl (by rfl) _ _ rfl rfl (fun W hSW => load_srcE hSW.2) ?_
          | refine take_off _ rfl (by rfl) ?_
          | refine take_pure _ rfl (by rfl) (fun W hSW => by (obtain ⟨s0, s1⟩ := hSW; go_simp; try with_reducible rfl)) ?_
          simp only [Act.put, List.getElem_toArray, List.getElem_cons_succ, List.getElem_cons_zero, List.setIfInBounds_toArray, List.set_cons_zero, List.set_cons_succ]
        refine take_done ?_
        refine wpAnyH_done (by kernel_rfl) ?_ _
        go_wp2
        go_ret
        exact ⟨by rw [Hr.out]; first | rfl | simp [*], HQ1⟩
      · refine held_takes (by kernel_rfl) (fun c a d v w h => And.intro (put_nil h.1) h.2) HS1 (fuel := 12) [2, 3] _ _ (by kernel_rfl) ?_
        iterate 2
          first
          | refine take_row _ rfl (by rfl) _ _ rfl rfl (fun W hSW => load_srcE hSW.2) ?_
          | refine take_off _ rfl (by rfl) ?_
          | refine take_pure _ rfl (by rfl) (fun W hSW => by (obtain ⟨s0, s1⟩ := hSW; go_simp; try with_reducible rfl)) ?_
          simp only [Act.put, List.getElem_toArray, List.getElem_cons_succ, List.getElem_cons_zero, List.setIfInBounds_toArray, List.set_cons_zero, List.set_cons_succ]
        refine take_done ?_
        refine held_call (i := 4) _ (by kernel_rfl) rfl (by rfl) (by go_simp; try exact ⟨rfl, rfl⟩) ?_
        refine (hasRead_w HS1.2).mono ?_
        rintro x w2 ⟨rfl, rfl⟩
        refine ⟨_, rfl, HS1, ?_⟩
        rw [HB'.out]
        simp only [Act.put, List.getElem_toArray, List.getElem_cons_succ, List.getElem_cons_zero, List.setIfInBounds_toArray, List.set_cons_zero, List.set_cons_succ]
        cases hb
        · refine held_takes (by kernel_rfl) (fun c a d v w h => And.intro (put_nil h.1) h.2) HS1 (fuel := 0) [5, 6, 7, 8, 9, 10, 11, 12, 13, 14, 15] _ _ (by kernel_rfl) ?_
          iterate 11
            first
            | refine take_row _ rfl (by rfl) _ _ rfl rfl (fun W hSW => load_srcE hSW.2) ?_
            | refine take_off _ rfl (by rfl) ?_
            | refine take_pure _ rfl (by rfl) (fun W hSW => by (obtain ⟨s0, s1⟩ := hSW; go_simp; try with_reducible rfl)) ?_
            simp only [Act.put, List.getElem_toArray, List.getElem_cons_succ, List.getElem_cons_zero, List.setIfInBounds_toArray, List.set_cons_zero, List.set_cons_succ]
          refine take_done ?_
          refine wpAnyH_done (by kernel_rfl) ?_ _
          go_wp2
          go_ret
          exact ⟨by rw [Hr.out]; first | rfl | simp [*], HQ1⟩
        · refine held_takes (by kernel_rfl) (fun c a d v w h => And.intro (put_nil h.1) h.2) HS1 (fuel := 4) [5, 6, 7, 8, 9, 10, 11] _ _ (by kernel_rfl) ?_
          iterate 7
            first
            | refine take_row _ rfl (by rfl) _ _ rfl rfl (fun W hSW => load_srcE hSW.2) ?_
            | refine take_off _ rfl (by rfl) ?_
            | refine take_pure _ rfl (by rfl) (fun W hSW => by (obtain ⟨s0, s1⟩ := hSW; go_simp; try with_reducible rfl)) ?_
            simp only [Act.put, List.getElem_toArray, List.getElem_cons_succ, List.getElem_cons_zero, List.setIfInBounds_toArray, List.set_cons_zero, List.set_cons_succ]
          refine take_done ?_
          refine held_call (i := 12) _ (by kernel_rfl) rfl (by rfl) (by go_simp; try exact ⟨rfl, rfl⟩) ?_
          refine (reference_w HS1.1).mono ?_
          rintro x w3 ⟨rfl, hB3⟩
          have HS3 : EvA w3 s.fb s.fo e va vd vc ∧ EvA w3 b o m va' vd' vc' := ⟨HS1.1.below hB3, HS1.2.below hB3⟩
          have HQ3 : Below w.heap.size w w3 := HQ1.trans (hB3.mono HQ1.size)
          refine ⟨_, rfl, HS3, ?_⟩
          simp only [Act.put, List.getElem_toArray, List.getElem_cons_succ, List.getElem_cons_zero, List.setIfInBounds_toArray, List.set_cons_zero, List.set_cons_succ]
          have hq1 := Hq1.out
          have hq2 := Hq2.out
          refine held_op (i := 13) (v := .bool (q1 && q2)) (w' := w3) _ (by kernel_rfl) rfl (by rfl) (by simp only [rfV]; go_simp; cases q1 <;> cases q2 <;> rfl) HS3 ?_
          simp only [Act.put, List.getElem_toArray, List.getElem_cons_succ, List.getElem_cons_zero, List.setIfInBounds_toArray, List.set_cons_zero, List.set_cons_succ]
          refine held_takes (by kernel_rfl) (fun c a d v w h => And.intro (put_nil h.1) h.2) HS3 (fuel := 0) [14, 15] _ _ (by kernel_rfl) ?_
          iterate 2
            first
            | refine take_row _ rfl (by rfl) _ _ rfl rfl (fun W hSW => load_srcE hSW.2) ?_
            | refine take_off _ rfl (by rfl) ?_
            | refine take_pure _ rfl (by rfl) (fun W hSW => by (obtain ⟨s0, s1⟩ := hSW; go_simp; try with_reducible rfl)) ?_
            simp only [Act.put, List.getElem_toArray, List.getElem_cons_succ, List.getElem_cons_zero, List.setIfInBounds_toArray, List.set_cons_zero, List.set_cons_succ]
          refine take_done ?_
          have e1 : r = (q1 && q2) := by rw [Hr.out]; simp
          refine wpAnyH_done (by kernel_rfl) ?_ _
          clear hq1 hq2
          rw [← e1]
          have HE := hid e1
          clear e1
          go_wp2
          go_ret
          exact ⟨rfl, HQ3⟩
set_option maxHeartbeats 4000000 in
set_option maxRecDepth 100000 in
theorem orders_12 (H : OrC w B sb s ps e m va vd vc va' vd' vc' b o na nd nc Fa Fd Fc) (hlen : ps.length ≤ 10000) : Calls Try.prog 21 #[.pointer (some ⟨sb, 0, none⟩), .pointer (some ⟨b, o, none⟩), .int .i64 12] w (OrE w (memB e && (memB m && (hasB16 m && ps.contains (m.sh, m.sa))))) := by
  obtain ⟨r, hr⟩ : ∃ r, r = (memB e && (memB m && (hasB16 m && ps.contains (m.sh, m.sa)))) := ⟨_, rfl⟩
  rw [← hr]
  obtain ⟨ma, hma⟩ : ∃ x, memB e = x := ⟨_, rfl⟩
  obtain ⟨mb, hmb⟩ : ∃ x, memB m = x := ⟨_, rfl⟩
  have h1 := isMemory_w H.ev
  have h2 := isMemory_w H.em
  rw [hma] at h1 hr
  rw [hmb] at h2 hr
  have HX := hid h1
  have HY := hid h2
  have cf : w.cell? ⟨sb, 0, none⟩ = some (.pointer (some ⟨s.fb, s.fo, none⟩)) := H.sp.row.cell (i := 0) (by omega)
  clear hma hmb h1 h2
  obtain ⟨hb, hhb⟩ : ∃ x, hasB16 m = x := ⟨_, rfl⟩
  rw [hhb] at hr
  have HB' := hid hhb
  clear hhb
  obtain ⟨qp, cp, ep⟩ := owns_slc H.sp.own
  have c3 : w.cell? ⟨sb, 3, none⟩ = some s.ps := H.sp.row.cell (i := 3) (by omega)
  have hR := rdR_of H.sp.own
  rw [ep] at c3 hR
  have HR := hid hR
  clear ep hR
  have Hr := hid hr
  have HH := hid H
  clear hr H
  go_enter Try.func21, Try.ntmps21
  cases ma
  · go_wp2_with (go_at_call 31; refine HX.out.mono ?_; rintro x w' ⟨rfl, rfl⟩; clear HX; have HX := HY)
    go_ret
    exact ⟨by rw [Hr.out]; rfl, Below.refl _ _⟩
  · cases mb
    · go_wp2_with (go_at_call 31; refine HX.out.mono ?_; rintro x w' ⟨rfl, rfl⟩; clear HX; have HX := HY)
      go_ret
      exact ⟨by rw [Hr.out]; rfl, Below.refl _ _⟩
    · go_upto_region 28 with (go_at_call 31; refine HX.out.mono ?_; rintro x w' ⟨rfl, rfl⟩; clear HX; have HX := HY)
      have HS0 : EvA w.drew b o m va' vd' vc' ∧ w.drew.cell? ⟨sb, 3, none⟩ = some (.slice qp ps.length cp) := ⟨HH.out.em, c3⟩
      have HQ : Below w.heap.size w w.drew := ⟨rfl, rfl, rfl, Nat.le_refl _, fun _ _ => rfl⟩
      have hsb : sb < w.drew.heap.size := HH.out.sp.row.lt
      refine region_takes (fun U => EvA U b o m va' vd' vc' ∧ U.cell? ⟨sb, 3, none⟩ = some (.slice qp ps.length cp)) [0] 13 (by rfl) (by kernel_rfl) (by kernel_rfl) (by kernel_rfl) (fun c a d v w h => And.intro (put_nil h.1) h.2) HS0 ?_
      iterate 1
        first
        | refine take_row _ rfl (by rfl) _ _ rfl rfl (fun W hSW => load_srcE hSW.1) ?_
        | refine take_off _ rfl (by rfl) ?_
        | refine take_pure _ rfl (by rfl) (fun W hSW => by (obtain ⟨s0, s1⟩ := hSW; go_simp; try with_reducible rfl)) ?_
        simp only [Act.put, List.getElem_toArray, List.getElem_cons_succ, List.getElem_cons_zero, List.setIfInBounds_toArray, List.set_cons_zero, List.set_cons_succ]
      refine take_done ?_
      refine held_call (i := 1) _ (by kernel_rfl) rfl (by rfl) (by go_simp; try exact ⟨rfl, rfl⟩) ?_
      refine (hasRead_w HS0.1).mono ?_
      rintro x w1 ⟨rfl, rfl⟩
      refine ⟨_, rfl, HS0, ?_⟩
      rw [HB'.out]
      simp only [Act.put, List.getElem_toArray, List.getElem_cons_succ, List.getElem_cons_zero, List.setIfInBounds_toArray, List.set_cons_zero, List.set_cons_succ]
      cases hb
      · refine held_takes (by kernel_rfl) (fun c a d v w h => And.intro (put_nil h.1) h.2) HS0 (fuel := 0) [2, 3, 4, 5, 6, 7, 8, 9, 10, 11, 12, 13] _ _ (by kernel_rfl) ?_
        iterate 12
          first
          | refine take_row _ rfl (by rfl) _ _ rfl rfl (fun W hSW => load_srcE hSW.1) ?_
          | refine take_off _ rfl (by rfl) ?_
          | refine take_pure _ rfl (by rfl) (fun W hSW => by (obtain ⟨s0, s1⟩ := hSW; go_simp; try with_reducible rfl)) ?_
          simp only [Act.put, List.getElem_toArray, List.getElem_cons_succ, List.getElem_cons_zero, List.setIfInBounds_toArray, List.set_cons_zero, List.set_cons_succ]
        refine take_done ?_
        refine wpAnyH_done (by kernel_rfl) ?_ _
        go_wp2
        go_ret
        exact ⟨by rw [Hr.out]; first | rfl | simp [*], HQ⟩
      · refine held_takes (by kernel_rfl) (fun c a d v w h => And.intro (put_nil h.1) h.2) HS0 (fuel := 3) [2, 3, 4, 5, 6, 7, 8, 9, 10] _ _ (by kernel_rfl) ?_
        iterate 9
          first
          | refine take_row _ rfl (by rfl) _ _ rfl rfl (fun W hSW => load_srcE hSW.1) ?_
          | refine take_off _ rfl (by rfl) ?_
          | refine take_pure _ rfl (by rfl) (fun W hSW => by (obtain ⟨s0, s1⟩ := hSW; go_simp; try with_reducible rfl)) ?_
          simp only [Act.put, List.getElem_toArray, List.getElem_cons_succ, List.getElem_cons_zero, List.setIfInBounds_toArray, List.set_cons_zero, List.set_cons_succ]
        refine take_done ?_
        refine held_call (i := 11) _ (by kernel_rfl) rfl (by rfl) (by go_simp; try exact ⟨rfl, rfl⟩) ?_
        refine (containsR_w (w := w.drew) HR.out (by omega) m.sh m.sa).mono ?_
        rintro x w2 ⟨rfl, hB⟩
        have HS2 : EvA w2 b o m va' vd' vc' ∧ w2.cell? ⟨sb, 3, none⟩ = some (.slice qp ps.length cp) := ⟨HS0.1.below hB, (hB.cell (p := ⟨sb, 3, none⟩) hsb).trans HS0.2⟩
        have HQ2 : Below w.heap.size w w2 := HQ.trans hB
        refine ⟨_, rfl, HS2, ?_⟩
        rw [inR_ps]
        simp only [Act.put, List.getElem_toArray, List.getElem_cons_succ, List.getElem_cons_zero, List.setIfInBounds_toArray, List.set_cons_zero, List.set_cons_succ]
        have e1 : r = ps.contains (m.sh, m.sa) := by rw [Hr.out]; simp
        rw [← e1]
        refine held_takes (by kernel_rfl) (fun c a d v w h => And.intro (put_nil h.1) h.2) HS2 (fuel := 0) [12, 13] _ _ (by kernel_rfl) ?_
        iterate 2
          first
          | refine take_row _ rfl (by rfl) _ _ rfl rfl (fun W hSW => load_srcE hSW.1) ?_
          | refine take_off _ rfl (by rfl) ?_
          | refine take_pure _ rfl (by rfl) (fun W hSW => by (obtain ⟨s0, s1⟩ := hSW; go_simp; try with_reducible rfl)) ?_
          simp only [Act.put, List.getElem_toArray, List.getElem_cons_succ, List.getElem_cons_zero, List.setIfInBounds_toArray, List.set_cons_zero, List.set_cons_succ]
        refine take_done ?_
        refine wpAnyH_done (by kernel_rfl) ?_ _
        have HE := hid e1
        clear e1
        go_wp2
        go_ret
        exact ⟨by rw [HE.out]; simp, HQ2⟩
end
end Go.Proofs.Ytchjjbcmbdmlgaa
