/- Layer 16: ref15's jump to a register. -/
import Derived.Test.YtchjjbcmbdmlgaaPln16
set_option linter.unusedVariables false
set_option linter.unusedSimpArgs false
namespace Go.Proofs.Ytchjjbcmbdmlgaa
open Go Go.RowKit Sim
section
variable {w : World} {h N B n : Nat} {M : List Nat} {S : HZ}
set_option maxHeartbeats 4000000 in
set_option maxRecDepth 100000 in
theorem plain_jalr (H : HtT w h M N B n S) (op rd imm : Int) (a b : Nat) (aq rl : Bool) (ho : op = 4) (hrd : 0 ≤ rd ∧ rd ≤ 31) (ha : a < 32) (pc : Int) : Calls Try.prog 56 #[.pointer (some ⟨h, 0, none⟩), .agg (inA ⟨op, rd, a, b, imm, aq, rl⟩), .int .i64 pc] w (PlE w h M N B n S) := by
  subst ho
  have HF := fun W => refForm_ret (gl := fun _ => none) 4 W (GlobOk.none W)
  obtain ⟨f, hf⟩ : ∃ f, f = formZ 4 := ⟨_, rfl⟩
  rw [← hf] at HF
  have Hf := hid hf
  clear hf
  have HP := hid (HtT.box H ⟨4, rd, a, b, imm, aq, rl⟩)
  have HI := hid (Hb.instr w ⟨4, rd, a, b, imm, aq, rl⟩ 41)
  have HR := hid (HtT.boxF w h ⟨4, rd, a, b, imm, aq, rl⟩)
  have HH := hid H
  clear H
  go_enter Try.func56, Try.ntmps56
  go_upto_region 4 with (go_at_call 68; refine (HF _).mono ?_; rintro e w1 ⟨rfl, hB1⟩)
  have HI1 := hid (HI.out.below hB1 (by simp))
  have HP1 := hid (HP.out.same hB1)
  have HR1 := hid (HR.out.trans (Fr.of_below hB1))
  have i0 : w1.cell? ⟨w.heap.size, 0, none⟩ = some (.int .i64 4) := HI1.out.cell (i := 0) (by omega)
  have i1 : w1.cell? ⟨w.heap.size, 1, none⟩ = some (.int .i64 rd) := HI1.out.cell (i := 1) (by omega)
  have i2 : w1.cell? ⟨w.heap.size, 2, none⟩ = some (.int .i64 a) := HI1.out.cell (i := 2) (by omega)
  have i3 : w1.cell? ⟨w.heap.size, 3, none⟩ = some (.int .i64 b) := HI1.out.cell (i := 3) (by omega)
  have i4 : w1.cell? ⟨w.heap.size, 4, none⟩ = some (.int .i64 imm) := HI1.out.cell (i := 4) (by omega)
  clear HI HP HR hB1
  have xa := HP1.out.cx ha
  have ka := HP1.out.ck ha
  go_upto_region 21 with (fail)
  go_quiet (fail)
  go_upto_region 24 with (fail)
  all_goals
    have HP2 := hid (HP1.out.same (below_draws (Below.refl _ w1) nq))
    have HR2 := hid (HR1.out.trans (Fr.of_below (below_draws (Below.refl _ w1) nq)))
    have HI2 : Hid (Hb (w1.drewN nq) w.heap.size 41 7 (inC ⟨4, rd, a, b, imm, aq, rl⟩)) := hid HI1.out
    clear HP1 HR1 HI1 i0 i1 i2 i3 i4 xa ka
    generalize w1.drewN nq = W at HP2 HR2 HI2 ⊢
    have i2 : W.drew.cell? ⟨w.heap.size, 2, none⟩ = some (.int .i64 a) := HI2.out.cell (i := 2) (by omega)
    have oa : W.drew.cell? ⟨h, 64 + a, none⟩ = some (S.o a) := HP2.out.co ha
    have ct : W.drew.cell? ⟨h, 98, none⟩ = some S.ct := HP2.out.cct
    have haI : (a : Int) < 32 := by omega
    have hWd : Below W.heap.size W W.drew := ⟨rfl, rfl, rfl, Nat.le_refl _, fun _ _ => rfl⟩
    have hwl : w.heap.size ≤ W.heap.size := HR2.out.size
    have hwi : w.heap.size < W.heap.size := HI2.out.lt
    have hhl : h < W.heap.size := HP2.out.row.lt
    refine region_takes (fun U => U.cell? ⟨w.heap.size, 2, none⟩ = some (.int .i64 a) ∧ U.cell? ⟨h, 64 + a, none⟩ = some (S.o a)) [0, 1, 2, 3, 5, 6, 7, 8, 9, 10, 11] 5 (by rfl) (by kernel_rfl) (by kernel_rfl) (by kernel_rfl) (fun c a d v w h => And.intro (put_nil h.1) h.2) ⟨i2, oa⟩ ?_
    iterate 11
      refine take_pure _ rfl (by rfl) (fun W hSW => by (obtain ⟨s0, s1⟩ := hSW; go_simp; with_reducible rfl)) ?_
      simp only [Act.put, List.getElem_toArray, List.getElem_cons_succ, List.getElem_cons_zero, List.setIfInBounds_toArray, List.set_cons_zero, List.set_cons_succ]
    refine take_done ?_
    refine held_op (i := 4) (w' := W.drew) _ (by kernel_rfl) rfl (by rfl) (by go_simp; with_reducible rfl) ⟨i2, oa⟩ ?_
    simp only [Act.put, List.getElem_toArray, List.getElem_cons_succ, List.getElem_cons_zero, List.setIfInBounds_toArray, List.set_cons_zero, List.set_cons_succ]
    refine held_call (i := 12) _ (by kernel_rfl) rfl (by rfl) (by go_simp; exact ⟨rfl, rfl⟩) ?_
    refine (both_w _ _ M N HH.out.nn _ ((HP2.out.same hWd).ct) ((HP2.out.same hWd).os a ha)).mono ?_
    rintro e w5 ⟨v, rfl, hO, hB5⟩
    have hB6 : Below W.heap.size W w5 := hWd.trans hB5
    have hP5 := HP2.out.same hB6
    have hL5 : LsW w5 M N v := hO.ls fun k hk => by have := HH.out.lt k hk; have e : W.drew.heap.size = W.heap.size := rfl; omega
    have i25 : w5.cell? ⟨w.heap.size, 2, none⟩ = some (.int .i64 a) := (hB6.cell (p := ⟨_, _, none⟩) hwi).trans i2
    have oa5 : w5.cell? ⟨h, 64 + a, none⟩ = some (S.o a) := (hB6.cell (p := ⟨_, _, none⟩) hhl).trans oa
    refine ⟨v, rfl, ⟨i25, oa5⟩, ?_⟩
    simp only [Act.put, List.getElem_toArray, List.getElem_cons_succ, List.getElem_cons_zero, List.setIfInBounds_toArray, List.set_cons_zero, List.set_cons_succ]
    refine held_op (i := 13) (w' := w5) _ (by kernel_rfl) rfl (by rfl) (by go_simp; with_reducible rfl) ⟨i25, oa5⟩ ?_
    simp only [Act.put, List.getElem_toArray, List.getElem_cons_succ, List.getElem_cons_zero, List.setIfInBounds_toArray, List.set_cons_zero, List.set_cons_succ]
    refine held_op (i := 14) (w' := w5) _ (by kernel_rfl) rfl (by rfl) (by go_simp; with_reducible rfl) ⟨i25, oa5⟩ ?_
    simp only [Act.put, List.getElem_toArray, List.getElem_cons_succ, List.getElem_cons_zero, List.setIfInBounds_toArray, List.set_cons_zero, List.set_cons_succ]
    obtain ⟨q, m, c, F, e, _⟩ := id hL5
    subst e
    have c98 := hP5.cct
    have f98 := hP5.row.free 98
    have hP6 := hP5.putCt (.slice q m c) hL5
    have hF6 : Fr [h] w (w5.setCell ⟨h, 98, none⟩ (.slice q m c)) := (HR2.out.trans (Fr.of_below hB6)).set (.inr (by simp)) _
    have i26 : (w5.setCell ⟨h, 98, none⟩ (.slice q m c)).cell? ⟨w.heap.size, 2, none⟩ = some (.int .i64 a) := (World.cell?_setCell_far _ _ _ _ (by have := HH.out.lt h HP2.out.inn; show h ≠ w.heap.size; omega)).trans i25
    have oa6 : (w5.setCell ⟨h, 98, none⟩ (.slice q m c)).cell? ⟨h, 64 + a, none⟩ = some (S.o a) := hP6.co ha
    have i16 : (w5.setCell ⟨h, 98, none⟩ (.slice q m c)).cell? ⟨w.heap.size, 1, none⟩ = some (.int .i64 rd) := (World.cell?_setCell_far _ _ _ _ (by have := HH.out.lt h HP2.out.inn; show h ≠ w.heap.size; omega)).trans ((HI2.out.below hB6 hwi).cell (i := 1) (by omega))
    refine held_skip (i := 15) (w' := w5.setCell ⟨h, 98, none⟩ (.slice q m c)) _ (by kernel_rfl) rfl (by rfl) (by go_simp) ⟨i26, oa6⟩ ?_
    simp only [Act.put, List.getElem_toArray, List.getElem_cons_succ, List.getElem_cons_zero, List.setIfInBounds_toArray, List.set_cons_zero, List.set_cons_succ]
    refine wpAnyH_done (by kernel_rfl) ?_ _
    have HP6 := hid hP6
    have HR6 := hid hF6
    clear hP6 hF6 hP5 hL5 hO hB5 hB6 i25 oa5 i2 oa ct c98 f98 oa6 i26 HP2 HR2 HI2 hWd hwl hwi hhl
    generalize w5.setCell ⟨h, 98, none⟩ (.slice q m c) = W6 at HP6 HR6 i16 ⊢
    go_wp2_with (go_at_call 67; refine (set_w HP6.out rd _ hrd _ _ (by first | exact isN_k _ | exact isN_w _ | assumption) (LsW.nil _ _ _)).mono ?_; rintro e w7 ⟨rfl, S2, H2, e2, _, F2⟩; have HP2 := hid H2; have HR2 := hid (HR6.out.trans F2); have E2 := hid e2; have c96 := H2.cpc; have c97 := H2.csu; have f96 := H2.row.free 96; have f97 := H2.row.free 97; clear H2 F2 e2)
    go_ret
    exact ⟨_, rfl, PlP.of HH.out ((HP2.out.putPC _).putSu _) E2.out ((HR2.out.set (.inr (by simp)) _).set (.inr (by simp)) _)⟩
end
end Go.Proofs.Ytchjjbcmbdmlgaa
