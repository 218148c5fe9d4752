/- Layer 16: ref15's branches. -/
import Derived.Test.YtchjjbcmbdmlgaaPlj16
set_option linter.unusedVariables false
set_option linter.unusedSimpArgs false
namespace Go.Proofs.Ytchjjbcmbdmlgaa
open Go Go.RowKit Sim
theorem held_steady {P : Program} {ops : Array Oper} {Q : Exit → Act → World → Prop} {md : Region.Mode} {S : World → Prop} {n i j : Nat} {listed : Array Bool} {a : Act} {w : World} (oi oj : Oper) (di dj : Tmp) {vi : Value}
    (hr : Region.ready md ops listed = [i, j]) (hr1 : Region.ready md ops (listed.setIfInBounds i true) = [j]) (hr2 : Region.ready md ops (listed.setIfInBounds j true) = [i]) (hij : i ≠ j)
    (hi : ops[i]? = some oi) (hj : ops[j]? = some oj) (wi : oi.guard = none) (wj : oj.guard = none) (d1 : oi.dst = some di) (d2 : oj.dst = some dj) (nd : di ≠ dj)
    {fj : FuncId} {xj : Array Value} (ri : (execOp a.eval oi).run P w = .ok (.value vi) w) (ri' : ∀ u W, Below w.heap.size w W → (execOp (a.put (some dj) u).eval oi).run P W = .ok (.value vi) W)
    (vj : (execOp a.eval oj).run P w = .ok (.enter fj xj) w) (vj' : (execOp (a.put (some di) vi).eval oj).run P w = .ok (.enter fj xj) w)
    (hS0 : S w) (hS : ∀ W', Below w.heap.size w W' → S W') (Pj : Value → World → Prop) (cj : Calls P fj xj w fun e w' => ∃ v, e = .returned v ∧ Pj v w' ∧ Below w.heap.size w w')
    (H : ∀ u W, Pj u W → Below w.heap.size w W → wpAnyH P md ops Q S n ((listed.setIfInBounds i true).setIfInBounds j true) ((a.put (some di) vi).put (some dj) u) W) : wpAnyH P md ops Q S (n + 2) listed a w := by
  have hw : ∀ (o : Oper) (a : Act), o.guard = none → Region.wanted o (yielded ops a.tmps) = true := fun o a hg => by simp [Region.wanted, hg]
  refine held_fork oi oj hr hi hj (hw _ _ wi) (hw _ _ wj) ?_ ?_
  · refine wp_val ri ⟨hS0, ?_⟩
    rw [d1]
    refine held_call oj hr1 hj (hw _ _ wj) vj' (cj.mono ?_)
    rintro e w2 ⟨u, rfl, hP2, hB2⟩
    refine ⟨u, rfl, hS _ hB2, ?_⟩
    rw [d2]
    exact H u w2 hP2 hB2
  · refine wp_call vj (cj.mono ?_)
    rintro e w1 ⟨u, rfl, hP, hB⟩
    refine ⟨u, rfl, hS _ hB, ?_⟩
    rw [d2]
    refine held_op oi hr2 hi (hw _ _ wi) (ri' u w1 hB) (hS _ hB) ?_
    rw [d1, Array.setIfInBounds_comm _ _ hij.symm, Act.put_put nd.symm]
    exact H u w1 hP hB
section
variable {w : World} {h N B n : Nat} {M : List Nat} {S : HZ}
set_option maxHeartbeats 4000000 in
set_option maxRecDepth 100000 in
theorem plain_b (H : HtT w h M N B n S) (op rd imm : Int) (a b : Nat) (aq rl : Bool) (ho : op ≠ 0 ∧ op ≠ 65 ∧ op ≠ 64 ∧ op ≠ 63 ∧ op ≠ 1 ∧ op ≠ 2 ∧ op ≠ 3 ∧ op ≠ 4) (hf4 : formZ op = 4) (ha : a < 32) (hb : b < 32) (pc : Int) : Calls Try.prog 56 #[.pointer (some ⟨h, 0, none⟩), .agg (inA ⟨op, rd, a, b, imm, aq, rl⟩), .int .i64 pc] w (PlE w h M N B n S) := by
  obtain ⟨o1, o2, o3, o4, o5, o6, o7, o8⟩ := ho
  have b1 : (op == 0) = false := by simpa using o1
  have b2 : (op == 65) = false := by simpa using o2
  have b3 : (op == 64) = false := by simpa using o3
  have b4 : (op == 63) = false := by simpa using o4
  have b5 : (op == 1) = false := by simpa using o5
  have b6 : (op == 2) = false := by simpa using o6
  have b7 : (op == 3) = false := by simpa using o7
  have b8 : (op == 4) = false := by simpa using o8
  clear o1 o2 o3 o4 o5 o6 o7 o8
  have HF := fun W => refForm_ret (gl := fun _ => none) op W (GlobOk.none W)
  rw [hf4] at HF
  clear hf4
  have HP := hid (HtT.box H ⟨op, rd, a, b, imm, aq, rl⟩)
  have HI := hid (Hb.instr w ⟨op, rd, a, b, imm, aq, rl⟩ 41)
  have HR := hid (HtT.boxF w h ⟨op, rd, a, b, imm, aq, rl⟩)
  have HH := hid H
  clear H
  go_enter Try.func56, Try.ntmps56
  go_upto_region 4 with (go_at_call 68; refine (HF _).mono ?_; rintro e w1 ⟨rfl, hB1⟩)
  have HI1 := hid (HI.out.below hB1 (by simp))
  have HP1 := hid (HP.out.same hB1)
  have HR1 := hid (HR.out.trans (Fr.of_below hB1))
  have i0 : w1.cell? ⟨w.heap.size, 0, none⟩ = some (.int .i64 op) := HI1.out.cell (i := 0) (by omega)
  have i1 : w1.cell? ⟨w.heap.size, 1, none⟩ = some (.int .i64 rd) := HI1.out.cell (i := 1) (by omega)
  have i2 : w1.cell? ⟨w.heap.size, 2, none⟩ = some (.int .i64 a) := HI1.out.cell (i := 2) (by omega)
  have i3 : w1.cell? ⟨w.heap.size, 3, none⟩ = some (.int .i64 b) := HI1.out.cell (i := 3) (by omega)
  have i4 : w1.cell? ⟨w.heap.size, 4, none⟩ = some (.int .i64 imm) := HI1.out.cell (i := 4) (by omega)
  clear HI HP HR hB1
  have ka := HP1.out.ck ha
  have kb := HP1.out.ck hb
  have haI : (a : Int) < 32 := by omega
  have hbI : (b : Int) < 32 := by omega
  go_upto_region 27 with (fail)
  have kk : Hid (∃ u : Bool, u = (S.k a && S.k b)) := hid ⟨_, rfl⟩
  clear kk
  generalize S.k a = ua at ka
  generalize S.k b = ub at kb
  cases ua
  all_goals
    go_quiet (fail)
    go_upto_region 28 with (fail)
    have HP2 := hid (HP1.out.same (below_draws (Below.refl _ w1) nq))
    have HR2 := hid (HR1.out.trans (Fr.of_below (below_draws (Below.refl _ w1) nq)))
    have HI2 : Hid (Hb (w1.drewN nq) w.heap.size 41 7 (inC ⟨op, rd, a, b, imm, aq, rl⟩)) := hid HI1.out
    clear HP1 HR1 HI1 i0 i1 i2 i3 i4 ka kb
    generalize w1.drewN nq = W at HP2 HR2 HI2 ⊢
    have i2 : W.drew.cell? ⟨w.heap.size, 2, none⟩ = some (.int .i64 a) := HI2.out.cell (i := 2) (by omega)
    have i3 : W.drew.cell? ⟨w.heap.size, 3, none⟩ = some (.int .i64 b) := HI2.out.cell (i := 3) (by omega)
    have oa : W.drew.cell? ⟨h, 64 + a, none⟩ = some (S.o a) := HP2.out.co ha
    have ob : W.drew.cell? ⟨h, 64 + b, none⟩ = some (S.o b) := HP2.out.co hb
    have ct : W.drew.cell? ⟨h, 98, none⟩ = some S.ct := HP2.out.cct
    have hWd : Below W.heap.size W W.drew := ⟨rfl, rfl, rfl, Nat.le_refl _, fun _ _ => rfl⟩
    have hwl : w.heap.size ≤ W.heap.size := HR2.out.size
    have hwi : w.heap.size < W.heap.size := HI2.out.lt
    have hhl : h < W.heap.size := HP2.out.row.lt
    have HSB : Hid (∀ W', Below W.drew.heap.size W.drew W' → (W'.cell? ⟨w.heap.size, 2, none⟩ = some (.int .i64 a) ∧ W'.cell? ⟨w.heap.size, 3, none⟩ = some (.int .i64 b) ∧ W'.cell? ⟨h, 64 + a, none⟩ = some (S.o a) ∧ W'.cell? ⟨h, 64 + b, none⟩ = some (S.o b))) := hid fun W' hB => ⟨(hB.cell (p := ⟨_, _, none⟩) hwi).trans i2, (hB.cell (p := ⟨_, _, none⟩) hwi).trans i3, (hB.cell (p := ⟨_, _, none⟩) hhl).trans oa, (hB.cell (p := ⟨_, _, none⟩) hhl).trans ob⟩
    refine region_takes (fun U => U.cell? ⟨w.heap.size, 2, none⟩ = some (.int .i64 a) ∧ U.cell? ⟨w.heap.size, 3, none⟩ = some (.int .i64 b) ∧ U.cell? ⟨h, 64 + a, none⟩ = some (S.o a) ∧ U.cell? ⟨h, 64 + b, none⟩ = some (S.o b)) [0, 1, 2, 3, 5, 6, 7, 8, 9, 10, 11, 12, 13, 14, 15, 16, 17, 18] 6 (by rfl) (by kernel_rfl) (by kernel_rfl) (by kernel_rfl) (fun c a d v w h => And.intro (put_nil h.1) h.2) ⟨i2, i3, oa, ob⟩ ?_
    iterate 18
      refine take_pure _ rfl (by rfl) (fun W hSW => by (obtain ⟨s0, s1, s2, s3⟩ := hSW; go_simp; with_reducible rfl)) ?_
      simp only [Act.put, List.getElem_toArray, List.getElem_cons_succ, List.getElem_cons_zero, List.setIfInBounds_toArray, List.set_cons_zero, List.set_cons_succ]
    refine take_done ?_
    refine held_steady (i := 4) (j := 19) _ _ 204 219 (by kernel_rfl) (by kernel_rfl) (by kernel_rfl) (by decide) rfl rfl rfl rfl rfl rfl (by decide) (by go_simp; try with_reducible rfl) (fun u W' hB => by (have ct' := (hB.cell (p := ⟨h, 98, none⟩) hhl).trans ct; go_simp; try with_reducible rfl)) (by go_simp; try exact ⟨rfl, rfl⟩) (by go_simp; try exact ⟨rfl, rfl⟩) ⟨i2, i3, oa, ob⟩ HSB.out (fun v w' => LsO W.drew.heap.size w' N v) (both_w _ _ M N HH.out.nn _ ((HP2.out.same hWd).os a ha) ((HP2.out.same hWd).os b hb)) ?_
    intro v W3 hO3 hB3
    simp only [Act.put, List.getElem_toArray, List.getElem_cons_succ, List.getElem_cons_zero, List.setIfInBounds_toArray, List.set_cons_zero, List.set_cons_succ]
    have hB4 : Below W.heap.size W W3 := hWd.trans hB3
    have hL3 : LsW W3 M N v := hO3.ls fun k hk => by have := HH.out.lt k hk; have e : W.drew.heap.size = W.heap.size := rfl; omega
    refine held_call (i := 20) _ (by kernel_rfl) rfl (by rfl) (by go_simp; try exact ⟨rfl, rfl⟩) ?_
    refine (both_w _ _ M N HH.out.nn _ ((HP2.out.same hB4).ct) hL3).mono ?_
    rintro e w5 ⟨v2, rfl, hO, hB5⟩
    have hB6 : Below W.heap.size W w5 := hB4.trans (hB5.mono hB4.size)
    have hP5 := HP2.out.same hB6
    have hL5 : LsW w5 M N v2 := hO.ls fun k hk => by have := HH.out.lt k hk; have := hB4.size; omega
    have hS5 := HSB.out w5 (hB3.trans (hB5.mono hB3.size))
    refine ⟨v2, rfl, hS5, ?_⟩
    simp only [Act.put, List.getElem_toArray, List.getElem_cons_succ, List.getElem_cons_zero, List.setIfInBounds_toArray, List.set_cons_zero, List.set_cons_succ]
    refine held_op (i := 21) (w' := w5) _ (by kernel_rfl) rfl (by rfl) (by go_simp; with_reducible rfl) hS5 ?_
    simp only [Act.put, List.getElem_toArray, List.getElem_cons_succ, List.getElem_cons_zero, List.setIfInBounds_toArray, List.set_cons_zero, List.set_cons_succ]
    refine held_op (i := 22) (w' := w5) _ (by kernel_rfl) rfl (by rfl) (by go_simp; with_reducible rfl) hS5 ?_
    simp only [Act.put, List.getElem_toArray, List.getElem_cons_succ, List.getElem_cons_zero, List.setIfInBounds_toArray, List.set_cons_zero, List.set_cons_succ]
    obtain ⟨q, m, c, F, e, _⟩ := id hL5
    subst e
    have c98 := hP5.cct
    have f98 := hP5.row.free 98
    have hP6 := hP5.putCt (.slice q m c) hL5
    have hF6 : Fr [h] w (w5.setCell ⟨h, 98, none⟩ (.slice q m c)) := (HR2.out.trans (Fr.of_below hB6)).set (.inr (by simp)) _
    have hne : h ≠ w.heap.size := by have := HH.out.lt h HP2.out.inn; omega
    have hS6 : (w5.setCell ⟨h, 98, none⟩ (.slice q m c)).cell? ⟨w.heap.size, 2, none⟩ = some (.int .i64 a) ∧ (w5.setCell ⟨h, 98, none⟩ (.slice q m c)).cell? ⟨w.heap.size, 3, none⟩ = some (.int .i64 b) ∧ (w5.setCell ⟨h, 98, none⟩ (.slice q m c)).cell? ⟨h, 64 + a, none⟩ = some (S.o a) ∧ (w5.setCell ⟨h, 98, none⟩ (.slice q m c)).cell? ⟨h, 64 + b, none⟩ = some (S.o b) := ⟨(World.cell?_setCell_far _ _ _ _ (by show h ≠ w.heap.size; exact hne)).trans hS5.1, (World.cell?_setCell_far _ _ _ _ (by show h ≠ w.heap.size; exact hne)).trans hS5.2.1, hP6.co ha, hP6.co hb⟩
    have hI6 : Hb (w5.setCell ⟨h, 98, none⟩ (.slice q m c)) w.heap.size 41 7 (inC ⟨op, rd, a, b, imm, aq, rl⟩) := (HI2.out.below hB6 hwi).other (by show w.heap.size ≠ h; exact fun e => hne e.symm) _
    refine held_skip (i := 23) (w' := w5.setCell ⟨h, 98, none⟩ (.slice q m c)) _ (by kernel_rfl) rfl (by rfl) (by go_simp) hS6 ?_
    simp only [Act.put, List.getElem_toArray, List.getElem_cons_succ, List.getElem_cons_zero, List.setIfInBounds_toArray, List.set_cons_zero, List.set_cons_succ]
    refine wpAnyH_done (by kernel_rfl) ?_ _
    have HP6 := hid hP6
    have HR6 := hid hF6
    have HI6 := hid hI6
    clear hP6 hF6 hP5 hL5 hO hB5 hB6 hS5 hS6 hI6 i2 i3 oa ob ct c98 f98 HP2 HR2 HI2 hWd hwl hwi hhl hne hO3 hB3 hB4 hL3 HSB
    generalize w5.setCell ⟨h, 98, none⟩ (.slice q m c) = W6 at HP6 HR6 HI6 ⊢
    have i0 : W6.cell? ⟨w.heap.size, 0, none⟩ = some (.int .i64 op) := HI6.out.cell (i := 0) (by omega)
    have i4 : W6.cell? ⟨w.heap.size, 4, none⟩ = some (.int .i64 imm) := HI6.out.cell (i := 4) (by omega)
    go_upto_region 29 with (fail)
    cases ub
    all_goals
      first
      | (go_quiet (fail)
         have HP7 := hid (HP6.out.same (below_draws (Below.refl _ W6) nq))
         have HR7 := hid (HR6.out.trans (Fr.of_below (below_draws (Below.refl _ W6) nq)))
         have c96 := HP6.out.cpc
         have c97 := HP6.out.csu
         have f96 := HP6.out.row.free 96
         have f97 := HP6.out.row.free 97
         go_wp2
         go_ret
         exact ⟨_, rfl, PlP.of HH.out ((HP7.out.putPC _).putSu _) rfl ((HR7.out.set (.inr (by simp)) _).set (.inr (by simp)) _)⟩)
      | skip
    all_goals
      have i02 : W6.drew.cell? ⟨w.heap.size, 0, none⟩ = some (.int .i64 op) := i0
      have i22 : W6.drew.cell? ⟨w.heap.size, 2, none⟩ = some (.int .i64 a) := HI6.out.cell (i := 2) (by omega)
      have i32 : W6.drew.cell? ⟨w.heap.size, 3, none⟩ = some (.int .i64 b) := HI6.out.cell (i := 3) (by omega)
      have xa : W6.drew.cell? ⟨h, a, none⟩ = some (.int .i64 (S.x a)) := HP6.out.cx ha
      have xb : W6.drew.cell? ⟨h, b, none⟩ = some (.int .i64 (S.x b)) := HP6.out.cx hb
      have hW6 : Below W6.heap.size W6 W6.drew := ⟨rfl, rfl, rfl, Nat.le_refl _, fun _ _ => rfl⟩
      have hwi6 : w.heap.size < W6.heap.size := HI6.out.lt
      have hhl6 : h < W6.heap.size := HP6.out.row.lt
      refine region_takes (fun U => U.cell? ⟨w.heap.size, 0, none⟩ = some (.int .i64 op) ∧ U.cell? ⟨w.heap.size, 2, none⟩ = some (.int .i64 a) ∧ U.cell? ⟨w.heap.size, 3, none⟩ = some (.int .i64 b) ∧ U.cell? ⟨h, a, none⟩ = some (.int .i64 (S.x a)) ∧ U.cell? ⟨h, b, none⟩ = some (.int .i64 (S.x b))) [0, 1, 2, 3, 4, 5, 6, 7, 8, 9, 10, 11, 12, 13, 14, 15, 16, 17] 2 (by rfl) (by kernel_rfl) (by kernel_rfl) (by kernel_rfl) (fun c a d v w h => And.intro (put_nil h.1) h.2) ⟨i02, i22, i32, xa, xb⟩ ?_
      iterate 18
        refine take_pure _ rfl (by rfl) (fun W hSW => by (obtain ⟨s0, s1, s2, s3, s4⟩ := hSW; go_simp; with_reducible rfl)) ?_
        simp only [Act.put, List.getElem_toArray, List.getElem_cons_succ, List.getElem_cons_zero, List.setIfInBounds_toArray, List.set_cons_zero, List.set_cons_succ]
      refine take_done ?_
      refine held_call (i := 18) _ (by kernel_rfl) rfl (by rfl) (by go_simp; try exact ⟨rfl, rfl⟩) ?_
      refine (taken_w _ _ _ _).mono ?_
      rintro e w7 ⟨k, rfl, hB7⟩
      have hB8 : Below W6.heap.size W6 w7 := hW6.trans hB7
      have hS7 : w7.cell? ⟨w.heap.size, 0, none⟩ = some (.int .i64 op) ∧ w7.cell? ⟨w.heap.size, 2, none⟩ = some (.int .i64 a) ∧ w7.cell? ⟨w.heap.size, 3, none⟩ = some (.int .i64 b) ∧ w7.cell? ⟨h, a, none⟩ = some (.int .i64 (S.x a)) ∧ w7.cell? ⟨h, b, none⟩ = some (.int .i64 (S.x b)) := ⟨(hB8.cell (p := ⟨_, _, none⟩) hwi6).trans i02, (hB8.cell (p := ⟨_, _, none⟩) hwi6).trans i22, (hB8.cell (p := ⟨_, _, none⟩) hwi6).trans i32, (hB8.cell (p := ⟨_, _, none⟩) hhl6).trans xa, (hB8.cell (p := ⟨_, _, none⟩) hhl6).trans xb⟩
      refine ⟨_, rfl, hS7, ?_⟩
      simp only [Act.put, List.getElem_toArray, List.getElem_cons_succ, List.getElem_cons_zero, List.setIfInBounds_toArray, List.set_cons_zero, List.set_cons_succ]
      refine held_op (i := 19) (w' := w7) _ (by kernel_rfl) rfl (by rfl) (by go_simp; with_reducible rfl) hS7 ?_
      simp only [Act.put, List.getElem_toArray, List.getElem_cons_succ, List.getElem_cons_zero, List.setIfInBounds_toArray, List.set_cons_zero, List.set_cons_succ]
      refine wpAnyH_done (by kernel_rfl) ?_ _
      have HP7 := hid (HP6.out.same hB8)
      have HR7 := hid (HR6.out.trans (Fr.of_below hB8))
      have HI7 := hid (HI6.out.below hB8 hwi6)
      clear hS7 hB7 hB8 i0 i4 i02 i22 i32 xa xb hW6 hwi6 hhl6 HP6 HR6 HI6
      have i4 : w7.cell? ⟨w.heap.size, 4, none⟩ = some (.int .i64 imm) := HI7.out.cell (i := 4) (by omega)
      have c96 := HP7.out.cpc
      have c97 := HP7.out.csu
      have f96 := HP7.out.row.free 96
      have f97 := HP7.out.row.free 97
      cases k
      all_goals
        go_wp2
        go_ret
        exact ⟨_, rfl, PlP.of HH.out ((HP7.out.putPC _).putSu _) rfl ((HR7.out.set (.inr (by simp)) _).set (.inr (by simp)) _)⟩
end
end Go.Proofs.Ytchjjbcmbdmlgaa
