/- Layer 16: the reference's access: the walk. -/
import Derived.Test.YtchjjbcmbdmlgaaK07
import Derived.Test.YtchjjbcmbdmlgaaChc16
import Derived.Test.YtchjjbcmbdmlgaaK08
import Derived.Test.YtchjjbcmbdmlgaaK12
import Derived.Deep.CutBlock
set_option linter.unusedVariables false
set_option linter.unusedSimpArgs false
namespace Go.Proofs.Ytchjjbcmbdmlgaa
open Go Go.RowKit Sim
def AcsP (w : World) (h eb N : Nat) (M : List Nat) (no : Int) (tp vc : Value) (i0 : In) : Ending → World → Prop := fun x w' => ∃ k : Int, x = .returned (.int .i64 k) ∧ AcsE w h eb N M no tp vc i0 w'
section
variable {w : World} {h eb N : Nat} {M : List Nat} {no : Int} {tp vc : Value} {i0 : In} {S : HZ} {e : EvZ} {va vd : Value}
set_option maxHeartbeats 8000000 in
set_option maxRecDepth 100000 in
theorem access_w (me : Nat) (hN : N = me + 1) (H : HtOk w h M N S) (ht : S.tp = tp) (E : EvQ w eb M N no e va vd vc) (hie : e.i = i0) (hne : h ≠ eb) (hM : ∀ x, x ∈ M → x < w.heap.size)
    (vC vE : Value) (qd : Option Addr) (nd cd : Nat) (hnd : nd ≤ 4096) (op imm : Int) (rd a b : Nat) (aq rl : Bool) (hrd : rd < 32) (ha : a < 32) (hb : b < 32) (pc val sh sa : Int) (wt fl : Bool) (hval : isN val) :
    Calls Try.prog 55 #[.pointer (some ⟨h, 0, none⟩), .agg #[vC, .slice qd nd cd, vE], .agg (inA ⟨op, rd, a, b, imm, aq, rl⟩), .agg (rkA ⟨pc, val, sh, sa, wt, fl⟩), .pointer (some ⟨eb, 0, none⟩), .int .i64 me] w (AcsP w h eb N M no tp vc i0) := by
  have HN := hid hN
  clear hN
  have H0 := hid (AcI.start H ht E hie hne #[vC, .slice qd nd cd, vE] rfl ⟨op, rd, a, b, imm, aq, rl⟩ ⟨pc, val, sh, sa, wt, fl⟩)
  have HW := fun W => refWide_ret (gl := fun _ => none) op W (GlobOk.none W)
  have HRd := fun W => reader_ret (gl := fun _ => none) op W (GlobOk.none W)
  have HWr := fun W => writer_ret (gl := fun _ => none) op W (GlobOk.none W)
  generalize wideB op = wi at HW
  generalize readZ op = ar at HRd
  generalize writeZ op = aw at HWr
  have HRd := hid HRd
  have HWr := hid HWr
  clear H ht E hie hne
  go_enter Try.func55, Try.ntmps55
  go_upto_region 1 with (fail)
  generalize (((w.alloc _).alloc _).alloc _) = W0 at H0 ⊢
  have p0 : W0.cell? ⟨w.heap.size + 1, 0, none⟩ = some (.int .i64 op) := H0.out.b1.cell (i := 0) (by omega)
  go_upto_if 19 with (go_at_call 64; refine (HW _).mono ?_; rintro x w1 ⟨rfl, hB1⟩; have H1 := hid (H0.out.same hB1); clear hB1)
  clear H0 p0
  cases wi
  · go_wp2
    go_ret
    exact ⟨_, rfl, H1.out.out⟩
  · have p2 : w1.cell? ⟨w.heap.size + 1, 2, none⟩ = some (.int .i64 a) := H1.out.b1.cell (i := 2) (by omega)
    have k0 := H1.out.hart.ck ha
    have haI : (a : Int) < 32 := by omega
    go_upto_region 3 with (fail)
    generalize S.k a = ua at k0
    go_quiet (fail)
    have H2 := hid (H1.out.same (below_draws (Below.refl _ w1) nq))
    clear p2 k0 H1
    generalize w1.drewN nq = w2 at H2 ⊢
    cases ua
    · go_wp2
      go_ret
      exact ⟨_, rfl, H2.out.out⟩
    · go_upto_region 5 with (fail)
      have H3 := hid H2.out.drew
      clear H2
      have q2 : w2.drew.cell? ⟨w.heap.size + 1, 2, none⟩ = some (.int .i64 a) := H3.out.b1.cell (i := 2) (by omega)
      have q4 : w2.drew.cell? ⟨w.heap.size + 1, 4, none⟩ = some (.int .i64 imm) := H3.out.b1.cell (i := 4) (by omega)
      have x0 := H3.out.hart.cx ha
      refine region_takes (fun U => U.cell? ⟨w.heap.size + 1, 2, none⟩ = some (.int .i64 a) ∧ U.cell? ⟨w.heap.size + 1, 4, none⟩ = some (.int .i64 imm) ∧ U.cell? ⟨h, a, none⟩ = some (.int .i64 (S.x a))) [0, 1, 2, 3, 4, 5, 6, 7, 8, 9, 10, 11, 12] 1 (by rfl) (by kernel_rfl) (by kernel_rfl) (by kernel_rfl) (fun c a d v w h => And.intro (put_nil h.1) h.2) ⟨q2, q4, x0⟩ ?_
      iterate 13
        refine take_pure _ rfl (by rfl) (fun W hSW => by (obtain ⟨s0, s1, s2⟩ := hSW; go_simp; with_reducible rfl)) ?_
        simp only [Act.put, List.getElem_toArray, List.getElem_cons_succ, List.getElem_cons_zero, List.setIfInBounds_toArray, List.set_cons_zero, List.set_cons_succ]
      refine take_done ?_
      have f10 := H3.out.ev.row.free 10
      have c10 := H3.out.ev.c4
      have hn1 : eb ≠ w.heap.size + 1 := by have := H3.out.le; omega
      refine held_skip (i := 13) (w' := w2.drew.setCell ⟨eb, 10, none⟩ (.int .i64 (IntKind.i64.wrap (S.x a + imm)))) _ (by kernel_rfl) rfl (by rfl) (by go_simp) ⟨(World.cell?_setCell_far _ _ _ _ hn1).trans q2, (World.cell?_setCell_far _ _ _ _ hn1).trans q4, (World.cell?_setCell_far _ _ _ _ H3.out.ne.symm).trans x0⟩ ?_
      simp only [Act.put, List.getElem_toArray, List.getElem_cons_succ, List.getElem_cons_zero, List.setIfInBounds_toArray, List.set_cons_zero, List.set_cons_succ]
      refine wpAnyH_done (by kernel_rfl) ?_ _
      have H4 := hid (H3.out.setE (kn' := false) (H3.out.ev.addr (IntKind.i64.wrap (S.x a + imm))) rfl (fun h => by cases h))
      clear q2 q4 x0 f10 c10 H3
      generalize w2.drew.setCell ⟨eb, 10, none⟩ (.int .i64 (IntKind.i64.wrap (S.x a + imm))) = w3 at H4 ⊢
      have f11 := H4.out.ev.row.free 11
      have c11 := H4.out.ev.c11
      go_upto_region 7 with (fail)
      have H5 := hid (H4.out.setE (kn' := true) H4.out.ev.known rfl (fun _ => rfl))
      clear f11 c11 H4
      generalize w3.setCell ⟨eb, 11, none⟩ (.bool true) = w4 at H5 ⊢
      have H6 := hid H5.out.drew
      clear H5
      have q2 : w4.drew.cell? ⟨w.heap.size + 1, 2, none⟩ = some (.int .i64 a) := H6.out.b1.cell (i := 2) (by omega)
      have x0 := H6.out.hart.co ha
      have L := H6.out.hart.os a ha
      obtain ⟨lq, lm, lc, lF, el, _⟩ := id L
      rw [el] at x0 L
      clear el
      refine region_takes (fun U => U.cell? ⟨w.heap.size + 1, 2, none⟩ = some (.int .i64 a) ∧ U.cell? ⟨h, 64 + a, none⟩ = some (.slice lq lm lc)) [0, 1, 2, 3, 4, 5, 6, 7, 8, 9] 1 (by rfl) (by kernel_rfl) (by kernel_rfl) (by kernel_rfl) (fun c a d v w h => And.intro (put_nil h.1) h.2) ⟨q2, x0⟩ ?_
      iterate 10
        refine take_pure _ rfl (by rfl) (fun W hSW => by (obtain ⟨s0, s1⟩ := hSW; go_simp; with_reducible rfl)) ?_
        simp only [Act.put, List.getElem_toArray, List.getElem_cons_succ, List.getElem_cons_zero, List.setIfInBounds_toArray, List.set_cons_zero, List.set_cons_succ]
      refine take_done ?_
      have f20 := H6.out.ev.row.free 20
      have c20 := H6.out.ev.c20
      refine held_skip (i := 10) (w' := w4.drew.setCell ⟨eb, 20, none⟩ (.slice lq lm lc)) _ (by kernel_rfl) rfl (by rfl) (by go_simp) ⟨(World.cell?_setCell_far _ _ _ _ hn1).trans q2, (World.cell?_setCell_far _ _ _ _ H6.out.ne.symm).trans x0⟩ ?_
      simp only [Act.put, List.getElem_toArray, List.getElem_cons_succ, List.getElem_cons_zero, List.setIfInBounds_toArray, List.set_cons_zero, List.set_cons_succ]
      refine wpAnyH_done (by kernel_rfl) ?_ _
      have H7 := hid (H6.out.setE (kn' := true) (H6.out.ev.setA (.slice lq lm lc) L) rfl (fun _ => rfl))
      clear q2 x0 f20 c20 H6 L
      generalize w4.drew.setCell ⟨eb, 20, none⟩ (.slice lq lm lc) = w5 at H7 ⊢
      go_upto_region 8 with (fail)
      have H8 := hid H7.out.drew
      clear H7
      have i0 := load_image H8.out.b0
      have c10 := H8.out.ev.c4
      obtain ⟨ad, had⟩ : ∃ x, x = IntKind.i64.wrap (S.x a + imm) := ⟨_, rfl⟩
      rw [← had] at H8 c10
      refine region_takes (fun U => (loadVar 25 ⟨w.heap.size, 0, none⟩).run Try.prog U = .ok (.agg #[vC, .slice qd nd cd, vE]) U ∧ U.cell? ⟨eb, 10, none⟩ = some (.int .i64 ad)) [0, 1, 2, 3, 4] 2 (by rfl) (by kernel_rfl) (by kernel_rfl) (by kernel_rfl) (fun c a d v w h => And.intro (put_nil h.1) h.2) ⟨i0, c10⟩ ?_
      iterate 5
        first
        | refine take_row _ rfl (by rfl) _ _ rfl rfl (fun W hSW => hSW.1) ?_
        | refine take_pure _ rfl (by rfl) (fun W hSW => by (obtain ⟨s0, s1⟩ := hSW; go_simp; with_reducible rfl)) ?_
        simp only [Act.put, List.getElem_toArray, List.getElem_cons_succ, List.getElem_cons_zero, List.setIfInBounds_toArray, List.set_cons_zero, List.set_cons_succ]
      refine take_done ?_
      refine held_call (i := 5) _ (by kernel_rfl) rfl (by rfl) (by go_simp; try exact ⟨rfl, rfl⟩) ?_
      refine (data_w _ _ _ _ _ _ hnd _).mono ?_
      rintro x w6 ⟨k, rfl, _, hB6⟩
      have H9 := hid (H8.out.same hB6)
      have T9 : (loadVar 25 ⟨w.heap.size, 0, none⟩).run Try.prog w6 = .ok (.agg #[vC, .slice qd nd cd, vE]) w6 ∧ w6.cell? ⟨eb, 10, none⟩ = some (.int .i64 ad) := ⟨load_image H9.out.b0, H9.out.ev.c4⟩
      refine ⟨_, rfl, T9, ?_⟩
      simp only [Act.put, List.getElem_toArray, List.getElem_cons_succ, List.getElem_cons_zero, List.setIfInBounds_toArray, List.set_cons_zero, List.set_cons_succ]
      refine held_op (i := 6) (w' := w6) _ (by kernel_rfl) rfl (by rfl) (by first | with_reducible rfl | (go_simp; with_reducible rfl) | (go_simp; trace_state; rfl)) T9 ?_
      simp only [Act.put, List.getElem_toArray, List.getElem_cons_succ, List.getElem_cons_zero, List.setIfInBounds_toArray, List.set_cons_zero, List.set_cons_succ]
      refine wpAnyH_done (by kernel_rfl) ?_ _
      clear i0 c10 H8 T9 hB6
      cases hk : decide (k < 0)
      case true =>
        go_wp2
        go_ret
        exact ⟨_, rfl, H9.out.out⟩
      case false =>
        go_upto_region 10 with (fail)
        have p0 : w6.cell? ⟨w.heap.size + 1, 0, none⟩ = some (.int .i64 op) := H9.out.b1.cell (i := 0) (by omega)
        clear hk
        go_upto_region 11 with (go_at_call 53; refine (HRd.out _).mono ?_; rintro x w7 ⟨rfl, hB7⟩; have H10 := hid (H9.out.same hB7); have f12 := H10.out.ev.row.free 12; have c12 := H10.out.ev.c12; clear hB7)
        have H11 := hid (H10.out.setE (kn' := true) (H10.out.ev.read (H10.out.kne rfl) ar) rfl (fun _ => H10.out.kne rfl))
        clear H10 H9 f12 c12 p0
        generalize w7.setCell ⟨eb, 12, none⟩ (.bool ar) = w8 at H11 ⊢
        go_cut [] from 14 (fun wc => ∃ S e va vd, AcI w h eb N M no tp vc i0 #[vC, .slice qd nd cd, vE] ⟨op, rd, a, b, imm, aq, rl⟩ ⟨pc, val, sh, sa, wt, fl⟩ true S e va vd wc)
        case first =>
          have p0 : w8.cell? ⟨w.heap.size + 1, 0, none⟩ = some (.int .i64 op) := H11.out.b1.cell (i := 0) (by omega)
          have p3 : w8.cell? ⟨w.heap.size + 1 + 1, 4, none⟩ = some (.bool wt) := H11.out.b2.cell (i := 4) (by omega)
          have p4 : w8.cell? ⟨w.heap.size + 1 + 1, 5, none⟩ = some (.bool fl) := H11.out.b2.cell (i := 5) (by omega)
          cases aw
          · go_wp2_with (go_at_call 54; refine (HWr.out _).mono ?_; rintro x w7 ⟨rfl, hB7⟩; have H12 := hid (H11.out.same hB7); have f13 := H12.out.ev.row.free 13; have c13 := H12.out.ev.c13; clear hB7)
            go_meet
            case rel => exact ⟨_, _, _, _, H12.out.setE (kn' := true) (H12.out.ev.write (H12.out.kne rfl) false) rfl (fun _ => H12.out.kne rfl)⟩
          · cases fl
            · cases wt
              · go_wp2_with (go_at_call 54; refine (HWr.out _).mono ?_; rintro x w7 ⟨rfl, hB7⟩; have H12 := hid (H11.out.same hB7); have f13 := H12.out.ev.row.free 13; have c13 := H12.out.ev.c13; have p3' : w7.cell? ⟨w.heap.size + 1 + 1, 4, none⟩ = some (.bool _) := H12.out.b2.cell (i := 4) (by omega); have p4' : w7.cell? ⟨w.heap.size + 1 + 1, 5, none⟩ = some (.bool _) := H12.out.b2.cell (i := 5) (by omega); have p0' : w7.cell? ⟨w.heap.size + 1, 0, none⟩ = some (.int .i64 _) := H12.out.b1.cell (i := 0) (by omega); clear hB7)
                go_meet
                case rel => exact ⟨_, _, _, _, H12.out.setE (kn' := true) (H12.out.ev.write (H12.out.kne rfl) _) rfl (fun _ => H12.out.kne rfl)⟩
              · by_cases g0 : op = 78
                · subst g0
                  go_wp2_with (go_at_call 54; refine (HWr.out _).mono ?_; rintro x w7 ⟨rfl, hB7⟩; have H12 := hid (H11.out.same hB7); have f13 := H12.out.ev.row.free 13; have c13 := H12.out.ev.c13; have p3' : w7.cell? ⟨w.heap.size + 1 + 1, 4, none⟩ = some (.bool _) := H12.out.b2.cell (i := 4) (by omega); have p4' : w7.cell? ⟨w.heap.size + 1 + 1, 5, none⟩ = some (.bool _) := H12.out.b2.cell (i := 5) (by omega); have p0' : w7.cell? ⟨w.heap.size + 1, 0, none⟩ = some (.int .i64 _) := H12.out.b1.cell (i := 0) (by omega); clear hB7)
                  go_meet
                  case rel => exact ⟨_, _, _, _, H12.out.setE (kn' := true) (H12.out.ev.write (H12.out.kne rfl) _) rfl (fun _ => H12.out.kne rfl)⟩
                · have g0 : (op == 78) = false := by simpa using g0
                  go_wp2_with (go_at_call 54; refine (HWr.out _).mono ?_; rintro x w7 ⟨rfl, hB7⟩; have H12 := hid (H11.out.same hB7); have f13 := H12.out.ev.row.free 13; have c13 := H12.out.ev.c13; have p3' : w7.cell? ⟨w.heap.size + 1 + 1, 4, none⟩ = some (.bool _) := H12.out.b2.cell (i := 4) (by omega); have p4' : w7.cell? ⟨w.heap.size + 1 + 1, 5, none⟩ = some (.bool _) := H12.out.b2.cell (i := 5) (by omega); have p0' : w7.cell? ⟨w.heap.size + 1, 0, none⟩ = some (.int .i64 _) := H12.out.b1.cell (i := 0) (by omega); clear hB7)
                  go_meet
                  case rel => exact ⟨_, _, _, _, H12.out.setE (kn' := true) (H12.out.ev.write (H12.out.kne rfl) _) rfl (fun _ => H12.out.kne rfl)⟩
            · go_wp2_with (go_at_call 54; refine (HWr.out _).mono ?_; rintro x w7 ⟨rfl, hB7⟩; have H12 := hid (H11.out.same hB7); have f13 := H12.out.ev.row.free 13; have c13 := H12.out.ev.c13; have p3' : w7.cell? ⟨w.heap.size + 1 + 1, 4, none⟩ = some (.bool _) := H12.out.b2.cell (i := 4) (by omega); have p4' : w7.cell? ⟨w.heap.size + 1 + 1, 5, none⟩ = some (.bool _) := H12.out.b2.cell (i := 5) (by omega); have p0' : w7.cell? ⟨w.heap.size + 1, 0, none⟩ = some (.int .i64 _) := H12.out.b1.cell (i := 0) (by omega); clear hB7)
              go_meet
              case rel => exact ⟨_, _, _, _, H12.out.setE (kn' := true) (H12.out.ev.write (H12.out.kne rfl) _) rfl (fun _ => H12.out.kne rfl)⟩
        case rest =>
          obtain ⟨S1, e1, va1, vd1, hA⟩ := hcut
          have H12 := hid hA
          clear hA H11
          go_upto_region 12 with (fail)
          go_cut [13] from 400 (fun s13 W => ∃ z : Bool, s13 = .bool z ∧ wc = W)
          case first =>
            have p1 : wc.cell? ⟨w.heap.size + 1 + 1, 1, none⟩ = some (.int .i64 val) := H12.out.b2.cell (i := 1) (by omega)
            have p2 : wc.cell? ⟨w.heap.size + 1 + 1, 2, none⟩ = some (.int .i64 sh) := H12.out.b2.cell (i := 2) (by omega)
            have p3 : wc.cell? ⟨w.heap.size + 1 + 1, 3, none⟩ = some (.int .i64 sa) := H12.out.b2.cell (i := 3) (by omega)
            by_cases g1 : val = 0
            · subst g1
              by_cases g2 : sh = -1
              · subst g2
                cases g3 : (sa == 0)
                all_goals
                  go_wp2
                  go_meet
                  case rel => exact ⟨_, rfl, rfl⟩
              · have g2 : (sh == -1) = false := by simpa using g2
                go_wp2
                go_meet
                case rel => exact ⟨_, rfl, rfl⟩
            · have g1 : (val == 0) = false := by simpa using g1
              go_wp2
              go_meet
              case rel => exact ⟨_, rfl, rfl⟩
          case rest =>
            obtain ⟨z, rfl, rfl⟩ := hcut
            go_upto_region 13 with (fail)
            go_cut [124] from 400 (fun s W => ∃ y : Bool, s = .bool y ∧ wc = W)
            case first =>
              have p0 : wc.cell? ⟨w.heap.size + 1, 0, none⟩ = some (.int .i64 op) := H12.out.b1.cell (i := 0) (by omega)
              have p3 : wc.cell? ⟨w.heap.size + 1 + 1, 4, none⟩ = some (.bool wt) := H12.out.b2.cell (i := 4) (by omega)
              have p4 : wc.cell? ⟨w.heap.size + 1 + 1, 5, none⟩ = some (.bool fl) := H12.out.b2.cell (i := 5) (by omega)
              have c12 := H12.out.ev.c12
              obtain ⟨u, hu⟩ : ∃ u, e1.rd = u := ⟨_, rfl⟩
              rw [hu] at c12
              clear hu
              cases fl
              · cases z
                · cases wt
                  · cases u
                    all_goals
                      go_wp2
                      go_meet
                      case rel => exact ⟨_, rfl, rfl⟩
                  · go_wp2
                    go_meet
                    case rel => exact ⟨_, rfl, rfl⟩
                · go_wp2
                  go_meet
                  case rel => exact ⟨_, rfl, rfl⟩
              · by_cases g1 : op = 78
                · subst g1
                  cases z
                  · cases wt
                    · cases u
                      all_goals
                        go_wp2
                        go_meet
                        case rel => exact ⟨_, rfl, rfl⟩
                    · go_wp2
                      go_meet
                      case rel => exact ⟨_, rfl, rfl⟩
                  · go_wp2
                    go_meet
                    case rel => exact ⟨_, rfl, rfl⟩
                · have g1 : (op == 78) = false := by simpa using g1
                  go_wp2
                  go_meet
                  case rel => exact ⟨_, rfl, rfl⟩
            case rest =>
              obtain ⟨y, rfl, rfl⟩ := hcut
              cases y
              case true =>
                go_wp2
                go_ret
                exact ⟨_, rfl, H12.out.out⟩
              case false =>
                have c12 := H12.out.ev.c12
                obtain ⟨u, hu⟩ : ∃ u, e1.rd = u := ⟨_, rfl⟩
                rw [hu] at c12
                clear hu
                go_upto_if 128 with (fail)
                clear c12
                go_cut [] from 400 (fun W => ∃ S e va vd, AcI w h eb N M no tp vc i0 #[vC, .slice qd nd cd, vE] ⟨op, rd, a, b, imm, aq, rl⟩ ⟨pc, val, sh, sa, wt, fl⟩ true S e va vd W)
                case first =>
                  cases u
                  · go_wp2
                    go_meet
                    case rel => exact ⟨_, _, _, _, H12.out⟩
                  · have p1 : wc.cell? ⟨w.heap.size + 1 + 1, 1, none⟩ = some (.int .i64 val) := H12.out.b2.cell (i := 1) (by omega)
                    have c14 := H12.out.ev.c14
                    have f14 := H12.out.ev.row.free 14
                    go_wp2
                    go_meet
                    case rel => exact ⟨_, _, _, _, H12.out.setE (kn' := true) (H12.out.ev.inp val) rfl (fun _ => H12.out.kne rfl)⟩
                case rest =>
                  obtain ⟨S2, e2, va2, vd2, hA⟩ := hcut
                  have H13 := hid hA
                  clear hA H12
                  have p0 : wc.cell? ⟨w.heap.size + 1, 0, none⟩ = some (.int .i64 op) := H13.out.b1.cell (i := 0) (by omega)
                  go_upto_if 136 with (go_at_call 54; refine (HWr.out _).mono ?_; rintro x w7 ⟨rfl, hB7⟩; have H14 := hid (H13.out.same hB7); clear hB7)
                  clear p0 H13
                  go_cut [] from 400 (fun W => ∃ S e va vd, AcI w h eb N M no tp vc i0 #[vC, .slice qd nd cd, vE] ⟨op, rd, a, b, imm, aq, rl⟩ ⟨pc, val, sh, sa, wt, fl⟩ true S e va vd W)
                  case first =>
                    cases aw
                    · go_wp2
                      go_meet
                      case rel => exact ⟨_, _, _, _, H14.out⟩
                    · go_upto_region 18 with (fail)
                      have H15 := hid H14.out.drew
                      clear H14
                      have q2 : w7.drew.cell? ⟨w.heap.size + 1, 3, none⟩ = some (.int .i64 b) := H15.out.b1.cell (i := 3) (by omega)
                      have x0 := H15.out.hart.co hb
                      have L := H15.out.hart.os b hb
                      obtain ⟨lq, lm, lc, lF, el, _⟩ := id L
                      rw [el] at x0 L
                      clear el
                      have hbI : (b : Int) < 32 := by omega
                      refine region_takes (fun U => U.cell? ⟨w.heap.size + 1, 3, none⟩ = some (.int .i64 b) ∧ U.cell? ⟨h, 64 + b, none⟩ = some (.slice lq lm lc)) [0, 1, 2, 3, 4, 5, 6, 7, 8, 9] 1 (by rfl) (by kernel_rfl) (by kernel_rfl) (by kernel_rfl) (fun c a d v w h => And.intro (put_nil h.1) h.2) ⟨q2, x0⟩ ?_
                      iterate 10
                        refine take_pure _ rfl (by rfl) (fun W hSW => by (obtain ⟨s0, s1⟩ := hSW; go_simp; with_reducible rfl)) ?_
                        simp only [Act.put, List.getElem_toArray, List.getElem_cons_succ, List.getElem_cons_zero, List.setIfInBounds_toArray, List.set_cons_zero, List.set_cons_succ]
                      refine take_done ?_
                      have f21 := H15.out.ev.row.free 21
                      have c21 := H15.out.ev.c21
                      refine held_skip (i := 10) (w' := w7.drew.setCell ⟨eb, 21, none⟩ (.slice lq lm lc)) _ (by kernel_rfl) rfl (by rfl) (by go_simp) ⟨(World.cell?_setCell_far _ _ _ _ hn1).trans q2, (World.cell?_setCell_far _ _ _ _ H15.out.ne.symm).trans x0⟩ ?_
                      simp only [Act.put, List.getElem_toArray, List.getElem_cons_succ, List.getElem_cons_zero, List.setIfInBounds_toArray, List.set_cons_zero, List.set_cons_succ]
                      refine wpAnyH_done (by kernel_rfl) ?_ _
                      have H16 := hid (H15.out.setE (kn' := true) (H15.out.ev.setD (.slice lq lm lc) L) rfl (fun _ => H15.out.kne rfl))
                      clear q2 x0 f21 c21 H15 L
                      go_wp2
                      go_meet
                      case rel => exact ⟨_, _, _, _, H16.out⟩
                  case rest =>
                    obtain ⟨S3, e3, va3, vd3, hA⟩ := hcut
                    have H17 := hid hA
                    clear hA H14
                    have c13 := H17.out.ev.c13
                    obtain ⟨u, hu⟩ : ∃ u, e3.wr = u := ⟨_, rfl⟩
                    rw [hu] at c13
                    clear hu
                    go_upto_if 150 with (fail)
                    clear c13
                    go_cut [] from 400 (fun W => ∃ S e va vd, AcI w h eb N M no tp vc i0 #[vC, .slice qd nd cd, vE] ⟨op, rd, a, b, imm, aq, rl⟩ ⟨pc, val, sh, sa, wt, fl⟩ true S e va vd W)
                    case first =>
                      cases u
                      · go_wp2
                        go_meet
                        case rel => exact ⟨_, _, _, _, H17.out⟩
                      · have p3 : wc.cell? ⟨w.heap.size + 1, 3, none⟩ = some (.int .i64 b) := H17.out.b1.cell (i := 3) (by omega)
                        have xb := H17.out.hart.cx hb
                        have kb := H17.out.hart.ck hb
                        have hxb := H17.out.hart.xs b hb
                        have hbI : (b : Int) < 32 := by omega
                        go_upto_region 20 with (fail)
                        obtain ⟨xv, hxv⟩ : ∃ x, S3.x b = x := ⟨_, rfl⟩
                        obtain ⟨kv, hkv⟩ : ∃ x, S3.k b = x := ⟨_, rfl⟩
                        rw [hxv] at xb hxb
                        rw [hkv] at kb
                        go_quiet (fail)
                        have H18 := hid (H17.out.same (below_draws (Below.refl _ wc) nq))
                        clear p3 xb kb H17
                        generalize wc.drewN nq = w8' at H18 ⊢
                        have c12 := H18.out.ev.c12
                        obtain ⟨u2, hu⟩ : ∃ u, e3.rd = u := ⟨_, rfl⟩
                        rw [hu] at c12
                        clear hu
                        go_upto_if 168 with (fail)
                        clear c12
                        have Hxv := hid hxv
                        have Hkv := hid hkv
                        clear hxv hkv
                        go_cut [14, 15] from 400 (fun s t W => ∃ (o : Int) (y : Bool), s = .int .i64 o ∧ t = .bool y ∧ ∃ S e va vd, AcI w h eb N M no tp vc i0 #[vC, .slice qd nd cd, vE] ⟨op, rd, a, b, imm, aq, rl⟩ ⟨pc, val, sh, sa, wt, fl⟩ true S e va vd W)
                        case first =>
                          cases u2
                          · go_wp2
                            go_meet
                            case rel => exact ⟨_, _, rfl, rfl, _, _, _, _, H18.out⟩
                          · go_upto_region 22 with (fail)
                            have H19 := hid H18.out.drew
                            clear H18
                            have q0 : w8'.drew.cell? ⟨w.heap.size + 1, 0, none⟩ = some (.int .i64 op) := H19.out.b1.cell (i := 0) (by omega)
                            have q3 : w8'.drew.cell? ⟨w.heap.size + 1, 3, none⟩ = some (.int .i64 b) := H19.out.b1.cell (i := 3) (by omega)
                            have r1 : w8'.drew.cell? ⟨w.heap.size + 1 + 1, 1, none⟩ = some (.int .i64 val) := H19.out.b2.cell (i := 1) (by omega)
                            have r4 : w8'.drew.cell? ⟨w.heap.size + 1 + 1, 4, none⟩ = some (.bool wt) := H19.out.b2.cell (i := 4) (by omega)
                            have xb : w8'.drew.cell? ⟨h, b, none⟩ = some (.int .i64 xv) := Hxv.out ▸ H19.out.hart.cx hb
                            have kb : w8'.drew.cell? ⟨h, 32 + b, none⟩ = some (.bool kv) := Hkv.out ▸ H19.out.hart.ck hb
                            cases kv
                            all_goals
                              refine region_takes (fun U => U.cell? ⟨w.heap.size + 1, 0, none⟩ = some (.int .i64 op) ∧ U.cell? ⟨w.heap.size + 1, 3, none⟩ = some (.int .i64 b) ∧ U.cell? ⟨w.heap.size + 1 + 1, 1, none⟩ = some (.int .i64 val) ∧ U.cell? ⟨w.heap.size + 1 + 1, 4, none⟩ = some (.bool wt) ∧ U.cell? ⟨h, b, none⟩ = some (.int .i64 xv) ∧ U.cell? ⟨h, 32 + b, none⟩ = some (.bool _)) [0, 1, 2, 3, 4, 5, 6, 7, 8, 9, 10, 12, 13, 14, 15, 16, 17, 18] 8 (by rfl) (by kernel_rfl) (by kernel_rfl) (by kernel_rfl) (fun c a d v w h => And.intro (put_nil h.1) h.2) ⟨q0, q3, r1, r4, xb, kb⟩ ?_
                              iterate 18
                                refine take_pure _ rfl (by rfl) (fun W hSW => by (obtain ⟨s0, s1, s2, s3, s4, s5⟩ := hSW; go_simp; with_reducible rfl)) ?_
                                simp only [Act.put, List.getElem_toArray, List.getElem_cons_succ, List.getElem_cons_zero, List.setIfInBounds_toArray, List.set_cons_zero, List.set_cons_succ]
                              refine take_done ?_
                              refine held_call (i := 11) _ (by kernel_rfl) rfl (by rfl) (by go_simp; try exact ⟨rfl, rfl⟩) ?_
                              refine (amo_w _ _ _ hval hxb _).mono ?_
                              rintro x w9 ⟨z9, rfl, hz9, hB9⟩
                              have H20 := hid (H19.out.same hB9)
                              have T9 : w9.cell? ⟨w.heap.size + 1, 0, none⟩ = some (.int .i64 op) ∧ w9.cell? ⟨w.heap.size + 1, 3, none⟩ = some (.int .i64 b) ∧ w9.cell? ⟨w.heap.size + 1 + 1, 1, none⟩ = some (.int .i64 val) ∧ w9.cell? ⟨w.heap.size + 1 + 1, 4, none⟩ = some (.bool wt) ∧ w9.cell? ⟨h, b, none⟩ = some (.int .i64 xv) ∧ w9.cell? ⟨h, 32 + b, none⟩ = some (.bool _) := ⟨H20.out.b1.cell (i := 0) (by omega), H20.out.b1.cell (i := 3) (by omega), H20.out.b2.cell (i := 1) (by omega), H20.out.b2.cell (i := 4) (by omega), Hxv.out ▸ H20.out.hart.cx hb, Hkv.out ▸ H20.out.hart.ck hb⟩
                              refine ⟨_, rfl, T9, ?_⟩
                              simp only [Act.put, List.getElem_toArray, List.getElem_cons_succ, List.getElem_cons_zero, List.setIfInBounds_toArray, List.set_cons_zero, List.set_cons_succ]
                              refine held_takes (by kernel_rfl) (fun c a d v w h => And.intro (put_nil h.1) h.2) T9 (fuel := 2) [19, 20, 21, 22, 23] _ _ (by kernel_rfl) ?_
                              iterate 5
                                first
                                | refine take_pure _ rfl (by rfl) (fun W hSW => by (obtain ⟨s0, s1, s2, s3, s4, s5⟩ := hSW; go_simp; with_reducible rfl)) ?_
                                | refine take_off _ rfl (by rfl) ?_
                                simp only [Act.put, List.getElem_toArray, List.getElem_cons_succ, List.getElem_cons_zero, List.setIfInBounds_toArray, List.set_cons_zero, List.set_cons_succ]
                              refine take_done ?_
                              refine held_op (i := 24) (w' := w9) _ (by kernel_rfl) rfl (by rfl) (by first | with_reducible rfl | (go_simp; with_reducible rfl)) T9 ?_
                              simp only [Act.put, List.getElem_toArray, List.getElem_cons_succ, List.getElem_cons_zero, List.setIfInBounds_toArray, List.set_cons_zero, List.set_cons_succ]
                              refine held_op (i := 25) (w' := w9) _ (by kernel_rfl) rfl (by rfl) (by first | with_reducible rfl | (go_simp; with_reducible rfl)) T9 ?_
                              simp only [Act.put, List.getElem_toArray, List.getElem_cons_succ, List.getElem_cons_zero, List.setIfInBounds_toArray, List.set_cons_zero, List.set_cons_succ]
                              refine wpAnyH_done (by kernel_rfl) ?_ _
                              clear q0 q3 r1 r4 xb kb H19 T9 hB9
                              go_wp2
                              go_meet
                              case rel => exact ⟨_, _, rfl, rfl, _, _, _, _, H20.out⟩
                        case rest =>
                          obtain ⟨o, y, rfl, rfl, S4, e4, va4, vd4, hA⟩ := hcut
                          have H21 := hid hA
                          clear hA H18
                          have r4 : wc.cell? ⟨w.heap.size + 1 + 1, 4, none⟩ = some (.bool wt) := H21.out.b2.cell (i := 4) (by omega)
                          have c15 := H21.out.ev.c15
                          have f15 := H21.out.ev.row.free 15
                          have c16 := H21.out.ev.c16
                          have f16 := H21.out.ev.row.free 16
                          cases y
                          · cases wt
                            · go_wp2
                              go_ret
                              exact ⟨_, rfl, H21.out.out⟩
                            · go_wp2
                              go_meet
                              case rel => exact ⟨_, _, _, _, H21.out⟩
                          · go_wp2
                            go_meet
                            case rel => exact ⟨_, _, _, _, (H21.out.setE (kn' := true) (H21.out.ev.outp o) rfl (fun _ => H21.out.kne rfl)).setE (kn' := true) ((H21.out.setE (kn' := true) (H21.out.ev.outp o) rfl (fun _ => H21.out.kne rfl)).ev.ready true) rfl (fun _ => H21.out.kne rfl)⟩
                    case rest =>
                      obtain ⟨S4, e4, va4, vd4, hA⟩ := hcut
                      have H22 := hid hA
                      clear hA H17
                      go_upto_block 0 with (fail)
                      go_cut [] from 400 (fun W => ∃ S e va vd, AcI w h eb N M no tp vc i0 #[vC, .slice qd nd cd, vE] ⟨op, rd, a, b, imm, aq, rl⟩ ⟨pc, val, sh, sa, wt, fl⟩ true S e va vd W)
                      case first =>
                        have p4 : wc.cell? ⟨w.heap.size + 1 + 1, 5, none⟩ = some (.bool fl) := H22.out.b2.cell (i := 5) (by omega)
                        have p1 : wc.cell? ⟨w.heap.size + 1, 1, none⟩ = some (.int .i64 rd) := H22.out.b1.cell (i := 1) (by omega)
                        cases fl
                        · have r1 : wc.cell? ⟨w.heap.size + 1 + 1, 1, none⟩ = some (.int .i64 val) := H22.out.b2.cell (i := 1) (by omega)
                          have r4 : wc.cell? ⟨w.heap.size + 1 + 1, 4, none⟩ = some (.bool wt) := H22.out.b2.cell (i := 4) (by omega)
                          have c12 := H22.out.ev.c12
                          obtain ⟨u, hu⟩ : ∃ u, e4.rd = u := ⟨_, rfl⟩
                          rw [hu] at c12
                          clear hu
                          have hBn : Below wc.heap.size wc (wc.alloc (.cells #[.int .i64 me] 3)) := (Below.refl _ wc).alloc (Nat.le_refl _) _
                          have HA := hid (H22.out.same hBn)
                          have HH := HA.out.hart
                          have HL : Hid (LsW (wc.alloc (.cells #[.int .i64 me] 3)) M N (.slice (some ⟨wc.heap.size, 0, none⟩) 1 1)) := hid ⟨_, 1, 1, fun _ => (me : Int), rfl, ⟨fun i j hi hj => by omega, fun i hi => ⟨by omega, by rw [HN.out]; omega⟩⟩, fun _ => ⟨_, _, rfl, by simp, (fun hm => by have := hM _ hm; have := H22.out.sz; omega), fun i hi => by
                            obtain rfl : i = 0 := by omega
                            exact (Hb.arr wc #[.int .i64 me] 3).cell (i := 0) (by simp)⟩⟩
                          clear hBn
                          cases u
                          all_goals
                            go_wp2_with (go_at_call 67; refine (set_w HH rd _ ⟨by omega, by omega⟩ _ _ (by first | exact hval | (unfold isN; decide)) (by first | exact LsW.nil _ _ _ | exact HL.out)).mono ?_; rintro x w9 ⟨rfl, S5, h5, t5, _, f5⟩; have H23 := hid (HA.out.setH h5 t5 f5); clear h5 t5 f5)
                            go_meet
                            case rel => exact ⟨_, _, _, _, H23.out⟩
                        · have HA := H22
                          have HH := HA.out.hart
                          go_wp2_with (go_at_call 67; refine (set_w HH rd _ ⟨by omega, by omega⟩ _ _ (by first | exact hval | (unfold isN; decide)) (by first | exact LsW.nil _ _ _ | exact HL.out)).mono ?_; rintro x w9 ⟨rfl, S5, h5, t5, _, f5⟩; have H23 := hid (HA.out.setH h5 t5 f5); clear h5 t5 f5)
                          go_meet
                          case rel => exact ⟨_, _, _, _, H23.out⟩
                      case rest =>
                        obtain ⟨S5, e5, va5, vd5, hA⟩ := hcut
                        have H24 := hid hA
                        clear hA H22
                        have p0 : wc.cell? ⟨w.heap.size + 1 + 1, 0, none⟩ = some (.int .i64 pc) := H24.out.b2.cell (i := 0) (by omega)
                        have c96 := H24.out.hart.cpc
                        have c97 := H24.out.hart.csu
                        have f96 := H24.out.hart.row.free 96
                        have f97 := H24.out.hart.row.free 97
                        go_wp2
                        go_ret
                        exact ⟨_, rfl, (H24.out.setH ((H24.out.hart.putPC _).putSu true) rfl (((Fr.refl [h] _).set (.inr List.mem_cons_self) _).set (.inr List.mem_cons_self) _)).out⟩
end
end Go.Proofs.Ytchjjbcmbdmlgaa
