/- Layer 16: ref15 computes with two registers. -/
import Derived.Test.YtchjjbcmbdmlgaaPli16
set_option linter.unusedVariables false
set_option linter.unusedSimpArgs false
namespace Go.Proofs.Ytchjjbcmbdmlgaa
open Go Go.RowKit Sim
section
variable {w : World} {h N B n : Nat} {M : List Nat} {S : HZ}
set_option maxHeartbeats 4000000 in
set_option maxRecDepth 100000 in
theorem plain_r (H : HtT w h M N B n S) (op rd imm : Int) (a b : Nat) (aq rl : Bool) (ho : op ≠ 0 ∧ op ≠ 65 ∧ op ≠ 64 ∧ op ≠ 63 ∧ op ≠ 1 ∧ op ≠ 2 ∧ op ≠ 3 ∧ op ≠ 4) (hop : 1 ≤ op ∧ op ≤ 87) (hf6 : formZ op = 6) (hrd : 0 ≤ rd ∧ rd ≤ 31) (ha : a < 32) (hb : b < 32) (pc : Int) : Calls Try.prog 56 #[.pointer (some ⟨h, 0, none⟩), .agg (inA ⟨op, rd, a, b, imm, aq, rl⟩), .int .i64 pc] w (PlE w h M N B n S) := by
  obtain ⟨o1, o2, o3, o4, o5, o6, o7, o8⟩ := ho
  have b1 : (op == 0) = false := by simpa using o1
  have b2 : (op == 65) = false := by simpa using o2
  have b3 : (op == 64) = false := by simpa using o3
  have b4 : (op == 63) = false := by simpa using o4
  have b5 : (op == 1) = false := by simpa using o5
  have b6 : (op == 2) = false := by simpa using o6
  have b7 : (op == 3) = false := by simpa using o7
  have b8 : (op == 4) = false := by simpa using o8
  clear o1 o2 o3 o4 o5 o6 o7 o8
  have HF := fun W => refForm_ret (gl := fun _ => none) op W (GlobOk.none W)
  rw [hf6] at HF
  clear hf6
  have HP := hid (HtT.box H ⟨op, rd, a, b, imm, aq, rl⟩)
  have HI := hid (Hb.instr w ⟨op, rd, a, b, imm, aq, rl⟩ 41)
  have HR := hid (HtT.boxF w h ⟨op, rd, a, b, imm, aq, rl⟩)
  have HH := hid H
  clear H
  go_enter Try.func56, Try.ntmps56
  go_upto_region 4 with (go_at_call 68; refine (HF _).mono ?_; rintro e w1 ⟨rfl, hB1⟩)
  have HI1 := hid (HI.out.below hB1 (by simp))
  have HP1 := hid (HP.out.same hB1)
  have HR1 := hid (HR.out.trans (Fr.of_below hB1))
  have i0 : w1.cell? ⟨w.heap.size, 0, none⟩ = some (.int .i64 op) := HI1.out.cell (i := 0) (by omega)
  have i1 : w1.cell? ⟨w.heap.size, 1, none⟩ = some (.int .i64 rd) := HI1.out.cell (i := 1) (by omega)
  have i2 : w1.cell? ⟨w.heap.size, 2, none⟩ = some (.int .i64 a) := HI1.out.cell (i := 2) (by omega)
  have i3 : w1.cell? ⟨w.heap.size, 3, none⟩ = some (.int .i64 b) := HI1.out.cell (i := 3) (by omega)
  have i4 : w1.cell? ⟨w.heap.size, 4, none⟩ = some (.int .i64 imm) := HI1.out.cell (i := 4) (by omega)
  clear HI HP HR hB1
  have haI : (a : Int) < 32 := by omega
  go_upto_region 32 with (fail)
  clear i0 i1 i2 i3 i4
  have hWd : Below w1.heap.size w1 w1.drew := ⟨rfl, rfl, rfl, Nat.le_refl _, fun _ _ => rfl⟩
  have hwi : w.heap.size < w1.drew.heap.size := HI1.out.lt
  have hhl : h < w1.drew.heap.size := HP1.out.row.lt
  have hbI : (b : Int) < 32 := by omega
  obtain ⟨ua, hka⟩ : ∃ ua, S.k a = ua := ⟨_, rfl⟩
  have t0 : w1.drew.cell? ⟨w.heap.size, 0, none⟩ = some (.int .i64 op) := HI1.out.cell (i := 0) (by omega)
  have t1 : w1.drew.cell? ⟨w.heap.size, 1, none⟩ = some (.int .i64 rd) := HI1.out.cell (i := 1) (by omega)
  have t2 : w1.drew.cell? ⟨w.heap.size, 2, none⟩ = some (.int .i64 a) := HI1.out.cell (i := 2) (by omega)
  have t3 : w1.drew.cell? ⟨w.heap.size, 3, none⟩ = some (.int .i64 b) := HI1.out.cell (i := 3) (by omega)
  have t4 : w1.drew.cell? ⟨h, a, none⟩ = some (.int .i64 (S.x a)) := HP1.out.cx ha
  have t5 : w1.drew.cell? ⟨h, b, none⟩ = some (.int .i64 (S.x b)) := HP1.out.cx hb
  have t6 : w1.drew.cell? ⟨h, 32 + a, none⟩ = some (.bool ua) := hka ▸ HP1.out.ck ha
  have t7 : w1.drew.cell? ⟨h, 32 + b, none⟩ = some (.bool (S.k b)) := HP1.out.ck hb
  have t8 : w1.drew.cell? ⟨h, 64 + a, none⟩ = some (S.o a) := HP1.out.co ha
  have t9 : w1.drew.cell? ⟨h, 64 + b, none⟩ = some (S.o b) := HP1.out.co hb
  clear hka
  cases ua
  all_goals
    have HSB : Hid (∀ W', Below w1.drew.heap.size w1.drew W' → (W'.cell? ⟨w.heap.size, 0, none⟩ = some (.int .i64 op) ∧ W'.cell? ⟨w.heap.size, 1, none⟩ = some (.int .i64 rd) ∧ W'.cell? ⟨w.heap.size, 2, none⟩ = some (.int .i64 a) ∧ W'.cell? ⟨w.heap.size, 3, none⟩ = some (.int .i64 b) ∧ W'.cell? ⟨h, a, none⟩ = some (.int .i64 (S.x a)) ∧ W'.cell? ⟨h, b, none⟩ = some (.int .i64 (S.x b)) ∧ W'.cell? ⟨h, 32 + a, none⟩ = some (.bool _) ∧ W'.cell? ⟨h, 32 + b, none⟩ = some (.bool (S.k b)) ∧ W'.cell? ⟨h, 64 + a, none⟩ = some (S.o a) ∧ W'.cell? ⟨h, 64 + b, none⟩ = some (S.o b))) := hid fun W' hB => ⟨(hB.cell (p := ⟨_, _, none⟩) hwi).trans t0, (hB.cell (p := ⟨_, _, none⟩) hwi).trans t1, (hB.cell (p := ⟨_, _, none⟩) hwi).trans t2, (hB.cell (p := ⟨_, _, none⟩) hwi).trans t3, (hB.cell (p := ⟨_, _, none⟩) hhl).trans t4, (hB.cell (p := ⟨_, _, none⟩) hhl).trans t5, (hB.cell (p := ⟨_, _, none⟩) hhl).trans t6, (hB.cell (p := ⟨_, _, none⟩) hhl).trans t7, (hB.cell (p := ⟨_, _, none⟩) hhl).trans t8, (hB.cell (p := ⟨_, _, none⟩) hhl).trans t9⟩
    refine region_last (fun U => U.cell? ⟨w.heap.size, 0, none⟩ = some (.int .i64 op) ∧ U.cell? ⟨w.heap.size, 1, none⟩ = some (.int .i64 rd) ∧ U.cell? ⟨w.heap.size, 2, none⟩ = some (.int .i64 a) ∧ U.cell? ⟨w.heap.size, 3, none⟩ = some (.int .i64 b) ∧ U.cell? ⟨h, a, none⟩ = some (.int .i64 (S.x a)) ∧ U.cell? ⟨h, b, none⟩ = some (.int .i64 (S.x b)) ∧ U.cell? ⟨h, 32 + a, none⟩ = some (.bool _) ∧ U.cell? ⟨h, 32 + b, none⟩ = some (.bool (S.k b)) ∧ U.cell? ⟨h, 64 + a, none⟩ = some (S.o a) ∧ U.cell? ⟨h, 64 + b, none⟩ = some (S.o b)) 51 [0, 1, 2, 3, 4, 5, 6, 7, 8, 9, 10, 11, 12, 13, 14, 15, 16, 17, 18, 20, 21, 22, 23, 24, 25, 26, 36, 37, 38, 39, 40, 41, 42, 43, 44, 45, 46, 47, 48, 49] 12 (by rfl) (by kernel_rfl) (by kernel_rfl) (by kernel_rfl) (by kernel_rfl) (fun c a d v w h => And.intro (put_nil h.1) h.2) ⟨t0, t1, t2, t3, t4, t5, t6, t7, t8, t9⟩ ?_
    iterate 40
      refine take_pure _ rfl (by rfl) (fun W hSW => by (obtain ⟨s0, s1, s2, s3, s4, s5, s6, s7, s8, s9⟩ := hSW; go_simp; with_reducible rfl)) ?_
      simp only [Act.put, List.getElem_toArray, List.getElem_cons_succ, List.getElem_cons_zero, List.setIfInBounds_toArray, List.set_cons_zero, List.set_cons_succ]
    refine take_done ?_
    refine last_call (i := 19) _ (by kernel_rfl) rfl (by rfl) (by go_simp; try exact ⟨rfl, rfl⟩) ?_
    refine (eval_w _ _ _ hop (HP1.out.xs a ha) (HP1.out.xs b hb) _).mono ?_
    rintro e w4 ⟨z, rfl, hz, hB4⟩
    have hS4 := HSB.out w4 hB4
    refine ⟨_, rfl, .inr hS4, ?_⟩
    simp only [Act.put, List.getElem_toArray, List.getElem_cons_succ, List.getElem_cons_zero, List.setIfInBounds_toArray, List.set_cons_zero, List.set_cons_succ]
    refine last_more (fuel := 2) (by kernel_rfl) (fun c a d v w h => And.intro (put_nil h.1) h.2) hS4 [27, 28, 29, 30, 31, 32, 33, 34, 35] (by kernel_rfl) (by kernel_rfl) (by kernel_rfl) ?_
    iterate 9
      first
      | refine take_pure _ rfl (by rfl) (fun W hSW => by (obtain ⟨s0, s1, s2, s3, s4, s5, s6, s7, s8, s9⟩ := hSW; go_simp; with_reducible rfl)) ?_
      | refine take_off _ rfl (by rfl) ?_
      simp only [Act.put, List.getElem_toArray, List.getElem_cons_succ, List.getElem_cons_zero, List.setIfInBounds_toArray, List.set_cons_zero, List.set_cons_succ]
    refine take_done ?_
    have hB41 : Below w1.heap.size w1 w4 := hWd.trans hB4
    have HP4 := HP1.out.same hB41
    refine last_call (i := 50) _ (by kernel_rfl) rfl (by rfl) (by go_simp; try exact ⟨rfl, rfl⟩) ?_
    refine (both_w _ _ M N HH.out.nn _ (HP4.os a ha) (HP4.os b hb)).mono ?_
    rintro e w5 ⟨u, rfl, hO, hB5⟩
    have hS5 := HSB.out w5 (hB4.trans (hB5.mono hB4.size))
    refine ⟨_, rfl, .inr hS5, ?_⟩
    simp only [Act.put, List.getElem_toArray, List.getElem_cons_succ, List.getElem_cons_zero, List.setIfInBounds_toArray, List.set_cons_zero, List.set_cons_succ]
    have hB6 : Below w1.heap.size w1 w5 := hB41.trans (hB5.mono hB41.size)
    have HP5 := HP1.out.same hB6
    have hL5 : LsW w5 M N u := hO.ls fun k hk => by have := HH.out.lt k hk; have := HR1.out.size; have := hB41.size; omega
    refine last_call (i := 51) _ (by kernel_rfl) rfl (by rfl) (by go_simp; try exact ⟨rfl, rfl⟩) ?_
    refine (set_w HP5 rd z hrd _ _ hz hL5).mono ?_
    rintro e w6 ⟨rfl, S2, H2, e2, _, F2⟩
    refine ⟨_, rfl, .inl rfl, ?_⟩
    simp only [Act.put, List.getElem_toArray, List.getElem_cons_succ, List.getElem_cons_zero, List.setIfInBounds_toArray, List.set_cons_zero, List.set_cons_succ]
    refine last_done (by kernel_rfl) ?_
    have HP2 := hid H2
    have HR2 := hid ((HR1.out.trans (Fr.of_below hB6)).trans F2)
    have E2 := hid e2
    have c96 := H2.cpc
    have c97 := H2.csu
    have f96 := H2.row.free 96
    have f97 := H2.row.free 97
    clear H2 F2 e2 HP5 HP4 hB41 hB4 hS4 hS5 hB6 hB5 HSB t0 t1 t2 t3 t4 t5 t6 t7 t8 t9 hwi hhl hWd HP1 HR1 HI1 hz hO hL5
    go_wp2
    go_ret
    exact ⟨_, rfl, PlP.of HH.out ((HP2.out.putPC _).putSu _) E2.out ((HR2.out.set (.inr (by simp)) _).set (.inr (by simp)) _)⟩
end
end Go.Proofs.Ytchjjbcmbdmlgaa
