/- Layer 16: the law PpoStrong, walked. -/
import Derived.Test.YtchjjbcmbdmlgaaK19
import Derived.Deep.CutBlock
import Derived.Deep.CutRange
set_option linter.unusedVariables false
set_option linter.unusedSimpArgs false
namespace Go.Proofs.Ytchjjbcmbdmlgaa
open Go Go.RowKit
set_option maxHeartbeats 8000000 in
set_option maxRecDepth 100000 in
theorem ppoStrong_of (qc qd qe qh qr : Option Addr) (nc cc nd cd ne ce nh ch nr cr : Nat) (w : World)
    (hev : ∀ W, Below w.heap.size w W → Calls Try.prog 6 #[.agg #[.slice qc nc cc, .slice qd nd cd, .slice qe ne ce], .agg #[.slice qh nh ch, .slice qr nr cr]] W (EvP W)) :
    Calls Try.prog 5 #[.agg #[.slice qc nc cc, .slice qd nd cd, .slice qe ne ce], .agg #[.slice qh nh ch, .slice qr nr cr]] w (BQ w (.bool true)) := by
  have HB0 := hid (((Below.refl w.heap.size w).alloc (Nat.le_refl _) (.cells #[.slice qc nc cc, .slice qd nd cd, .slice qe ne ce] 25)).alloc (by simp) (.cells #[.slice qh nh ch, .slice qr nr cr] 29))
  have H2 := hid ((Hb.arr w #[.slice qc nc cc, .slice qd nd cd, .slice qe ne ce] 25).alloc (.cells #[.slice qh nh ch, .slice qr nr cr] 29))
  have h3 := Hb.arr (w.alloc (.cells #[.slice qc nc cc, .slice qd nd cd, .slice qe ne ce] 25)) #[.slice qh nh ch, .slice qr nr cr] 29
  rw [World.size_alloc] at h3
  have H3 := hid h3
  have HE := hid hev
  clear h3 hev
  go_enter Try.func5, Try.ntmps5
  go_upto_region 1 with (fail)
  generalize (w.alloc _).alloc _ = W0 at HB0 H2 H3 ⊢
  have i0 := load_image H2.out
  have j0 := load_cand H3.out
  have HR := hid (HE.out W0 HB0.out)
  go_upto_region 2 with (first
    | (go_at_call 6; refine HR.out.mono ?_; rintro x' W1 ⟨q, n, cap, E, rfl, hE, hn, hB1⟩; have HB1 := hid (HB0.out.trans (hB1.mono HB0.out.size)); have HEv := hid hE; have Hn := hid hn; clear hB1 hE hn)
    | (refine wp_ld_of rfl _ _ rfl rfl i0 ?_)
    | (refine wp_ld_of rfl _ _ rfl rfl j0 ?_))
  obtain ⟨R, hRG⟩ := strOk_of Hn.out HEv.out
  have HRG := hid hRG
  have HAl := hid (hRG.al W1 (Below.refl _ _))
  clear i0 j0 HR hRG H2 H3 HE HB0
  go_upto_region 3 with (go_at_call 12; refine HAl.out.mono ?_; rintro x' W2 ⟨r0, r1, rfl, hRel, hB2⟩; have HB2 := hid hB2; have HRel := hid hRel; clear hB2 hRel)
  clear HAl
  have HAw := hid (awake16 W2)
  go_wp2_with (go_at_call 11; refine HAw.out.mono ?_; rintro x' W3 ⟨rfl, hB3⟩; refine Hid.out ?_)
  have HRel3 := hid (HRel.out.below hB3)
  have HB3 := hid (HB2.out.trans (hB3.mono HB2.out.size))
  have HLn := hid (len_ret HRel3.out.v)
  have enn : ((n : Int) != n) = false := by simp
  clear HAw HRel HB2 hB3
  refine hid ?_
  go_wp2_with (go_at_call 13; refine HLn.out.mono ?_; rintro x' w5 ⟨rfl, rfl⟩; refine Hid.out ?_)
  clear HLn
  refine hid ?_
  go_wp2
  go_loopw [7] (fun v wr => ∃ k : Nat, k ≤ n ∧ v = .int .i64 k ∧ Below w5.heap.size w5 wr) (fun v _ => n - (intOf v).toNat)
  case atStart => exact ⟨0, Nat.zero_le _, rfl, Below.refl _ _⟩
  case round =>
    obtain ⟨k, hk, rfl, hB⟩ := hrel
    by_cases hlt : k < n
    · obtain ⟨b0, o0, cap', nA, nD, nC, FA, FD, FC, e, H, HK, _⟩ := evsX_of HEv.out (by have := Hn.out; omega) (by omega)
      cases e
      have HB := hid (HB3.out.trans (hB.mono HB3.out.size))
      have hkI : (k : Int) < n := by omega
      have hn := Hn.out
      have HBw := hid hB
      clear hB
      obtain ⟨wo, hwo⟩ : ∃ x, x = wr := ⟨_, rfl⟩
      subst hwo
      have HFS := hid (fullB_start E k)
      go_wp2
      go_loopw [8, 9] (fun v8 v9 wx => ∃ c : Nat, k + 1 ≤ c ∧ c ≤ n ∧ v9 = .int .i64 c ∧ v8 = .bool (fullB E k c) ∧ Below wo.heap.size wo wx) (fun _ v9 _ => n - (intOf v9).toNat)
      case atStart => exact ⟨k + 1, Nat.le_refl _, by omega, by go_num, by rw [HFS.out], Below.refl _ _⟩
      case round =>
        obtain ⟨c, hkc, hc, rfl, rfl, hB⟩ := hrel
        have HBq := hid hB
        clear hB
        have hd : Below wr.heap.size wr wr.drew := ⟨rfl, rfl, rfl, Nat.le_refl _, fun _ _ => rfl⟩
        by_cases hlc : c < n
        · have hcI : (c : Int) < n := by omega
          have hEv : ∀ W, Below wr.heap.size wr W → ∀ i, i < n → EvA W b0 (o0 + i * 23) (E.e i) (E.a i) (E.d i) (E.c i) := fun W hW i hi => H.ev W (HB.out.trans ((HBq.out.trans (hW.mono HBq.out.size)).mono HB.out.size)) i hi
          obtain ⟨x1, hx1⟩ : ∃ x, x = (E.e k).ht := ⟨_, rfl⟩
          obtain ⟨x2, hx2⟩ : ∃ x, x = (E.e c).ht := ⟨_, rfl⟩
          have hS1 : wr.drew.cell? ⟨b0, o0 + k * 23, none⟩ = some (.int .i64 x1) ∧ wr.drew.cell? ⟨b0, o0 + c * 23, none⟩ = some (.int .i64 x2) := ⟨by rw [hx1]; exact hEv _ hd k hlt 0 (by omega), by rw [hx2]; exact hEv _ hd c hlc 0 (by omega)⟩
          have HS1 := hid hS1
          have Hx1 := hid hx1
          have Hx2 := hid hx2
          clear hS1 hx1 hx2
          by_cases hx : x1 = x2
          · subst hx
            have hh : (E.e k).ht = (E.e c).ht := Hx1.out.symm.trans Hx2.out
            go_upto_region 10 with (fail)
            refine region_takes (fun U => U.cell? ⟨b0, o0 + k * 23, none⟩ = some (.int .i64 x1) ∧ U.cell? ⟨b0, o0 + c * 23, none⟩ = some (.int .i64 x1)) [0, 1, 2, 3, 4, 5, 6, 7, 8, 9, 10, 11, 12, 13, 14, 15, 16] 0 (by rfl) (by kernel_rfl) (by kernel_rfl) (by kernel_rfl) (fun c a d v w h => And.intro (put_nil h.1) h.2) HS1.out ?_
            iterate 17
              first
              | refine take_off _ rfl (by rfl) ?_
              | refine take_pure _ rfl (by rfl) (fun W hSW => by (obtain ⟨s1, s2⟩ := hSW; go_simp; try with_reducible rfl)) ?_
              simp only [Act.put, List.getElem_toArray, List.getElem_cons_succ, List.getElem_cons_zero, List.setIfInBounds_toArray, List.set_cons_zero, List.set_cons_succ]
            refine take_done ?_
            refine wpAnyH_done (by kernel_rfl) ?_ _
            have hqW := HB.out.trans ((HBq.out).mono HB.out.size)
            obtain ⟨wd, hwd⟩ : ∃ x, x = wr.drew := ⟨_, rfl⟩
            rw [← hwd] at hd ⊢
            have hqd := hqW.trans (hd.mono hqW.size)
            obtain ⟨qa1, ca1, ea1, _⟩ := H.la wd hqd k hlt
            obtain ⟨qd1, cd1, ed1, _⟩ := H.ld wd hqd k hlt
            obtain ⟨qc1, cc1, ec1, _⟩ := H.lc wd hqd k hlt
            obtain ⟨qa2, ca2, ea2, _⟩ := H.la wd hqd c hlc
            obtain ⟨qd2, cd2, ed2, _⟩ := H.ld wd hqd c hlc
            obtain ⟨qc2, cc2, ec2, _⟩ := H.lc wd hqd c hlc
            have hSk : ∀ U, Below wd.heap.size wd U → EvA U b0 (o0 + k * 23) (E.e k) (.slice qa1 (nA k) ca1) (.slice qd1 (nD k) cd1) (.slice qc1 (nC k) cc1) := fun U hU => by have := hEv U (hd.trans (hU.mono hd.size)) k hlt; rwa [ea1, ed1, ec1] at this
            have hSc : ∀ U, Below wd.heap.size wd U → EvA U b0 (o0 + c * 23) (E.e c) (.slice qa2 (nA c) ca2) (.slice qd2 (nD c) cd2) (.slice qc2 (nC c) cc2) := fun U hU => by have := hEv U (hd.trans (hU.mono hd.size)) c hlc; rwa [ea2, ed2, ec2] at this
            have hstr : strB E k c = true → RuleP R k c = true := fun h => decide_eq_true (HRG.out.str k c (by omega) hlc hh h)
            unfold strB at hstr
            have hnext := fullB_succ E (a := k) (c := c) (by omega)
            have hcells : ∀ U, Below wd.heap.size wd U → U.cell? ⟨b0, o0 + k * 23 + 3 + 5, none⟩ = some (.bool (E.e k).i.aq) ∧ U.cell? ⟨b0, o0 + c * 23 + 3 + 6, none⟩ = some (.bool (E.e c).i.rl) ∧ U.cell? ⟨b0, o0 + c * 23 + 13, none⟩ = some (.bool (E.e c).wr) ∧ U.cell? ⟨b0, o0 + k * 23 + 10, none⟩ = some (.int .i64 (E.e k).addr) ∧ U.cell? ⟨b0, o0 + c * 23 + 10, none⟩ = some (.int .i64 (E.e c).addr) := fun U hU => ⟨hSk U hU 8 (by omega), hSc U hU 9 (by omega), hSc U hU 13 (by omega), hSk U hU 10 (by omega), hSc U hU 10 (by omega)⟩
            have hop : ∀ U, Below wd.heap.size wd U → U.cell? ⟨b0, o0 + c * 23 + 3, none⟩ = some (.int .i64 (E.e c).i.op) ∧ U.cell? ⟨b0, o0 + c * 23 + 3 + 4, none⟩ = some (.int .i64 (E.e c).i.imm) := fun U hU => ⟨hSc U hU 3 (by omega), hSc U hU 7 (by omega)⟩
            have c1 : ∀ W : World, Calls Try.prog 15 #[.agg (evAr (E.e k) (.slice qa1 (nA k) ca1) (.slice qd1 (nD k) cd1) (.slice qc1 (nC k) cc1))] W fun e w' => ∃ v, e = .returned v ∧ v = .bool (memB (E.e k)) ∧ Below W.heap.size W w' := fun W => refMemory_w.mono fun x w' h => ⟨_, h.1, rfl, h.2⟩
            have c2 : ∀ W : World, Calls Try.prog 15 #[.agg (evAr (E.e c) (.slice qa2 (nA c) ca2) (.slice qd2 (nD c) cd2) (.slice qc2 (nC c) cc2))] W fun e w' => ∃ v, e = .returned v ∧ v = .bool (memB (E.e c)) ∧ Below W.heap.size W w' := fun W => refMemory_w.mono fun x w' h => ⟨_, h.1, rfl, h.2⟩
            have hRq : RelV wd (.pointer (some ⟨r0, 0, none⟩)) n (mP (RuleP R) n []) := (HRel3.out.below (HBw.out.trans ((HBq.out.trans (hd.mono HBq.out.size)).mono HBw.out.size))).v
            have hz : hasZ n (mP (RuleP R) n []) k c = RuleP R k c := hasZ_mP hlt hlc
            have cH : ∀ W, Below wd.heap.size wd W → Calls Try.prog 16 #[.pointer (some ⟨r0, 0, none⟩), .int .i64 k, .int .i64 c] W fun e w' => ∃ v, e = .returned v ∧ v = .bool (RuleP R k c) ∧ Below W.heap.size W w' := fun W hW => (has_ret (hRq.below hW) k c).mono fun x w' h => ⟨_, h.1, by rw [hz], by rw [h.2]; exact Below.refl _ _⟩
            generalize RuleP R k c = rp at hstr cH
            generalize memB (E.e k) = ma at hstr c1
            generalize memB (E.e c) = mb at hstr c2
            generalize (E.e k).i.aq = aq at hstr hcells
            generalize (E.e c).i.rl = rl at hstr hcells
            generalize (E.e c).wr = wt at hstr hcells
            generalize (E.e k).addr = p at hstr hcells
            generalize (E.e c).addr = q at hstr hcells
            generalize (E.e c).i.op = o at hnext hop
            generalize (E.e c).i.imm = im at hnext hop
            generalize fullB E k c = fu at hstr hnext ⊢
            have hS : ∀ U, Below wd.heap.size wd U → EvA U b0 (o0 + k * 23) (E.e k) (.slice qa1 (nA k) ca1) (.slice qd1 (nD k) cd1) (.slice qc1 (nC k) cc1) ∧ EvA U b0 (o0 + c * 23) (E.e c) (.slice qa2 (nA c) ca2) (.slice qd2 (nD c) cd2) (.slice qc2 (nC c) cc2) ∧ U.cell? ⟨b0, o0 + k * 23 + 3 + 5, none⟩ = some (.bool aq) ∧ U.cell? ⟨b0, o0 + c * 23 + 3 + 6, none⟩ = some (.bool rl) ∧ U.cell? ⟨b0, o0 + c * 23 + 13, none⟩ = some (.bool wt) ∧ U.cell? ⟨b0, o0 + k * 23 + 10, none⟩ = some (.int .i64 p) ∧ U.cell? ⟨b0, o0 + c * 23 + 10, none⟩ = some (.int .i64 q) := fun U hU => ⟨hSk U hU, hSc U hU, hcells U hU⟩
            have Hnext := hid hnext
            have Hop := hid hop
            have Hd := hid hd
            clear hnext hop hSk hSc hcells hEv hd hqW hqd hRq hz hh ea1 ed1 ec1 ea2 ed2 ec2 hwd
            go_upto_region 12 with (fail)
            have hd2 : Below wd.heap.size wd wd.drew := ⟨rfl, rfl, rfl, Nat.le_refl _, fun _ _ => rfl⟩
            go_cut [108] from 51 (fun s W => s = .bool false ∧ Below wd.heap.size wd W)
            case first =>
              refine region_takes (fun U => EvA U b0 (o0 + k * 23) (E.e k) (.slice qa1 (nA k) ca1) (.slice qd1 (nD k) cd1) (.slice qc1 (nC k) cc1) ∧ EvA U b0 (o0 + c * 23) (E.e c) (.slice qa2 (nA c) ca2) (.slice qd2 (nD c) cd2) (.slice qc2 (nC c) cc2) ∧ U.cell? ⟨b0, o0 + k * 23 + 3 + 5, none⟩ = some (.bool aq) ∧ U.cell? ⟨b0, o0 + c * 23 + 3 + 6, none⟩ = some (.bool rl) ∧ U.cell? ⟨b0, o0 + c * 23 + 13, none⟩ = some (.bool wt) ∧ U.cell? ⟨b0, o0 + k * 23 + 10, none⟩ = some (.int .i64 p) ∧ U.cell? ⟨b0, o0 + c * 23 + 10, none⟩ = some (.int .i64 q)) [0, 1, 2, 3] 54 (by rfl) (by kernel_rfl) (by kernel_rfl) (by kernel_rfl) (fun c a d v w h => And.intro (put_nil h.1) h.2) (hS _ hd2) ?_
              iterate 4
                first
                | refine take_row _ rfl (by rfl) _ _ rfl rfl (fun W hSW => load_evA hSW.1) ?_
                | refine take_pure _ rfl (by rfl) (fun W hSW => by (go_simp; try with_reducible rfl)) ?_
                simp only [Act.put, List.getElem_toArray, List.getElem_cons_succ, List.getElem_cons_zero, List.setIfInBounds_toArray, List.set_cons_zero, List.set_cons_succ]
              refine take_done ?_
              refine held_call (i := 4) _ (by kernel_rfl) rfl (by rfl) (by go_simp; try exact ⟨rfl, rfl⟩) ?_
              refine (c1 _).mono ?_
              rintro x w6 ⟨v, rfl, rfl, hB6⟩
              have hB6 := hd2.trans hB6
              have hS6 := hS w6 hB6
              refine ⟨_, rfl, hS6, ?_⟩
              simp only [Act.put, List.getElem_toArray, List.getElem_cons_succ, List.getElem_cons_zero, List.setIfInBounds_toArray, List.set_cons_zero, List.set_cons_succ]
              cases ma
              · refine held_takes (by kernel_rfl) (fun c a d v w h => And.intro (put_nil h.1) h.2) hS6 (fuel := 0) [5, 6, 7, 8, 9, 10, 11, 12, 13, 14, 15, 16, 17, 18, 19, 20, 21, 22, 23, 24, 25, 26, 27, 28, 29, 30, 31, 32, 33, 34, 35, 36, 37, 38, 39, 40, 41, 42, 43, 44, 45, 46, 47, 48, 49, 50, 51, 52, 53, 54, 55, 56, 57] _ _ (by kernel_rfl) ?_
                iterate 53
                  first
                  | refine take_off _ rfl (by rfl) ?_
                  | refine take_row _ rfl (by rfl) _ _ rfl rfl (fun W hSW => load_evA hSW.1) ?_
                  | refine take_row _ rfl (by rfl) _ _ rfl rfl (fun W hSW => load_evA hSW.2.1) ?_
                  | refine take_pure _ rfl (by rfl) (fun W hSW => by (obtain ⟨-, -, s1, s2, s3, s4, s5⟩ := hSW; go_simp; try with_reducible rfl)) ?_
                  simp only [Act.put, List.getElem_toArray, List.getElem_cons_succ, List.getElem_cons_zero, List.setIfInBounds_toArray, List.set_cons_zero, List.set_cons_succ]
                refine take_done ?_
                refine wpAnyH_done (by kernel_rfl) ?_ _
                have HB9 := hid hB6
                go_wp2
                go_meet
                case rel => exact ⟨rfl, HB9.out⟩
              refine held_takes (by kernel_rfl) (fun c a d v w h => And.intro (put_nil h.1) h.2) hS6 (fuel := 48) [5, 6, 7, 8, 9] _ _ (by kernel_rfl) ?_
              iterate 5
                first
                | refine take_off _ rfl (by rfl) ?_
                | refine take_row _ rfl (by rfl) _ _ rfl rfl (fun W hSW => load_evA hSW.1) ?_
                | refine take_row _ rfl (by rfl) _ _ rfl rfl (fun W hSW => load_evA hSW.2.1) ?_
                | refine take_pure _ rfl (by rfl) (fun W hSW => by (obtain ⟨-, -, s1, s2, s3, s4, s5⟩ := hSW; go_simp; try with_reducible rfl)) ?_
                simp only [Act.put, List.getElem_toArray, List.getElem_cons_succ, List.getElem_cons_zero, List.setIfInBounds_toArray, List.set_cons_zero, List.set_cons_succ]
              refine take_done ?_
              refine held_call (i := 10) _ (by kernel_rfl) rfl (by rfl) (by go_simp; try exact ⟨rfl, rfl⟩) ?_
              refine (c2 _).mono ?_
              rintro x w7 ⟨v, rfl, rfl, hB7⟩
              have hB7 := hB6.trans (hB7.mono hB6.size)
              have hS7 := hS w7 hB7
              refine ⟨_, rfl, hS7, ?_⟩
              simp only [Act.put, List.getElem_toArray, List.getElem_cons_succ, List.getElem_cons_zero, List.setIfInBounds_toArray, List.set_cons_zero, List.set_cons_succ]
              cases mb
              · refine held_takes (by kernel_rfl) (fun c a d v w h => And.intro (put_nil h.1) h.2) hS7 (fuel := 0) [11, 12, 13, 14, 15, 16, 17, 18, 19, 20, 21, 22, 23, 24, 25, 26, 27, 28, 29, 30, 31, 32, 33, 34, 35, 36, 37, 38, 39, 40, 41, 42, 43, 44, 45, 46, 47, 48, 49, 50, 51, 52, 53, 54, 55, 56, 57] _ _ (by kernel_rfl) ?_
                iterate 47
                  first
                  | refine take_off _ rfl (by rfl) ?_
                  | refine take_row _ rfl (by rfl) _ _ rfl rfl (fun W hSW => load_evA hSW.1) ?_
                  | refine take_row _ rfl (by rfl) _ _ rfl rfl (fun W hSW => load_evA hSW.2.1) ?_
                  | refine take_pure _ rfl (by rfl) (fun W hSW => by (obtain ⟨-, -, s1, s2, s3, s4, s5⟩ := hSW; go_simp; try with_reducible rfl)) ?_
                  simp only [Act.put, List.getElem_toArray, List.getElem_cons_succ, List.getElem_cons_zero, List.setIfInBounds_toArray, List.set_cons_zero, List.set_cons_succ]
                refine take_done ?_
                refine wpAnyH_done (by kernel_rfl) ?_ _
                have HB9 := hid hB7
                go_wp2
                go_meet
                case rel => exact ⟨rfl, HB9.out⟩
              cases fu
              rotate_left
              · have hrp : rp = true := hstr (by first | rfl | simp)
                subst hrp
                refine held_takes (by kernel_rfl) (fun c a d v w h => And.intro (put_nil h.1) h.2) hS7 (fuel := 3) [11, 12, 13, 14, 15, 16, 17, 18, 19, 20, 21, 22, 23, 24, 25, 26, 27, 28, 29, 30, 31, 32, 33, 34, 35, 36, 37, 38, 39, 40, 41, 42, 43, 44, 45, 46, 47, 48, 49, 50, 51, 52, 53, 54] _ _ (by kernel_rfl) ?_
                iterate 44
                  first
                  | refine take_off _ rfl (by rfl) ?_
                  | refine take_row _ rfl (by rfl) _ _ rfl rfl (fun W hSW => load_evA hSW.1) ?_
                  | refine take_row _ rfl (by rfl) _ _ rfl rfl (fun W hSW => load_evA hSW.2.1) ?_
                  | refine take_pure _ rfl (by rfl) (fun W hSW => by (obtain ⟨-, -, s1, s2, s3, s4, s5⟩ := hSW; go_simp; try with_reducible rfl)) ?_
                  simp only [Act.put, List.getElem_toArray, List.getElem_cons_succ, List.getElem_cons_zero, List.setIfInBounds_toArray, List.set_cons_zero, List.set_cons_succ]
                refine take_done ?_
                refine held_call (i := 55) _ (by kernel_rfl) rfl (by rfl) (by go_simp; try exact ⟨rfl, rfl⟩) ?_
                refine (cH _ hB7).mono ?_
                rintro x w8 ⟨v, rfl, rfl, hB8⟩
                have hB8 := hB7.trans (hB8.mono hB7.size)
                have hS8 := hS w8 hB8
                refine ⟨_, rfl, hS8, ?_⟩
                simp only [Act.put, List.getElem_toArray, List.getElem_cons_succ, List.getElem_cons_zero, List.setIfInBounds_toArray, List.set_cons_zero, List.set_cons_succ]
                refine held_takes (by kernel_rfl) (fun c a d v w h => And.intro (put_nil h.1) h.2) hS8 (fuel := 0) [56, 57] _ _ (by kernel_rfl) ?_
                iterate 2
                  first
                  | refine take_off _ rfl (by rfl) ?_
                  | refine take_row _ rfl (by rfl) _ _ rfl rfl (fun W hSW => load_evA hSW.1) ?_
                  | refine take_row _ rfl (by rfl) _ _ rfl rfl (fun W hSW => load_evA hSW.2.1) ?_
                  | refine take_pure _ rfl (by rfl) (fun W hSW => by (obtain ⟨-, -, s1, s2, s3, s4, s5⟩ := hSW; go_simp; try with_reducible rfl)) ?_
                  simp only [Act.put, List.getElem_toArray, List.getElem_cons_succ, List.getElem_cons_zero, List.setIfInBounds_toArray, List.set_cons_zero, List.set_cons_succ]
                refine take_done ?_
                refine wpAnyH_done (by kernel_rfl) ?_ _
                have HB9 := hid hB8
                go_wp2
                go_meet
                case rel => exact ⟨rfl, HB9.out⟩
              cases aq
              rotate_left
              · have hrp : rp = true := hstr (by first | rfl | simp)
                subst hrp
                refine held_takes (by kernel_rfl) (fun c a d v w h => And.intro (put_nil h.1) h.2) hS7 (fuel := 3) [11, 12, 13, 14, 15, 16, 17, 18, 19, 20, 21, 22, 23, 24, 25, 26, 27, 28, 29, 30, 31, 32, 33, 34, 35, 36, 37, 38, 39, 40, 41, 42, 43, 44, 45, 46, 47, 48, 49, 50, 51, 52, 53, 54] _ _ (by kernel_rfl) ?_
                iterate 44
                  first
                  | refine take_off _ rfl (by rfl) ?_
                  | refine take_row _ rfl (by rfl) _ _ rfl rfl (fun W hSW => load_evA hSW.1) ?_
                  | refine take_row _ rfl (by rfl) _ _ rfl rfl (fun W hSW => load_evA hSW.2.1) ?_
                  | refine take_pure _ rfl (by rfl) (fun W hSW => by (obtain ⟨-, -, s1, s2, s3, s4, s5⟩ := hSW; go_simp; try with_reducible rfl)) ?_
                  simp only [Act.put, List.getElem_toArray, List.getElem_cons_succ, List.getElem_cons_zero, List.setIfInBounds_toArray, List.set_cons_zero, List.set_cons_succ]
                refine take_done ?_
                refine held_call (i := 55) _ (by kernel_rfl) rfl (by rfl) (by go_simp; try exact ⟨rfl, rfl⟩) ?_
                refine (cH _ hB7).mono ?_
                rintro x w8 ⟨v, rfl, rfl, hB8⟩
                have hB8 := hB7.trans (hB8.mono hB7.size)
                have hS8 := hS w8 hB8
                refine ⟨_, rfl, hS8, ?_⟩
                simp only [Act.put, List.getElem_toArray, List.getElem_cons_succ, List.getElem_cons_zero, List.setIfInBounds_toArray, List.set_cons_zero, List.set_cons_succ]
                refine held_takes (by kernel_rfl) (fun c a d v w h => And.intro (put_nil h.1) h.2) hS8 (fuel := 0) [56, 57] _ _ (by kernel_rfl) ?_
                iterate 2
                  first
                  | refine take_off _ rfl (by rfl) ?_
                  | refine take_row _ rfl (by rfl) _ _ rfl rfl (fun W hSW => load_evA hSW.1) ?_
                  | refine take_row _ rfl (by rfl) _ _ rfl rfl (fun W hSW => load_evA hSW.2.1) ?_
                  | refine take_pure _ rfl (by rfl) (fun W hSW => by (obtain ⟨-, -, s1, s2, s3, s4, s5⟩ := hSW; go_simp; try with_reducible rfl)) ?_
                  simp only [Act.put, List.getElem_toArray, List.getElem_cons_succ, List.getElem_cons_zero, List.setIfInBounds_toArray, List.set_cons_zero, List.set_cons_succ]
                refine take_done ?_
                refine wpAnyH_done (by kernel_rfl) ?_ _
                have HB9 := hid hB8
                go_wp2
                go_meet
                case rel => exact ⟨rfl, HB9.out⟩
              cases rl
              rotate_left
              · have hrp : rp = true := hstr (by first | rfl | simp)
                subst hrp
                refine held_takes (by kernel_rfl) (fun c a d v w h => And.intro (put_nil h.1) h.2) hS7 (fuel := 3) [11, 12, 13, 14, 15, 16, 17, 18, 19, 20, 21, 22, 23, 24, 25, 26, 27, 28, 29, 30, 31, 32, 33, 34, 35, 36, 37, 38, 39, 40, 41, 42, 43, 44, 45, 46, 47, 48, 49, 50, 51, 52, 53, 54] _ _ (by kernel_rfl) ?_
                iterate 44
                  first
                  | refine take_off _ rfl (by rfl) ?_
                  | refine take_row _ rfl (by rfl) _ _ rfl rfl (fun W hSW => load_evA hSW.1) ?_
                  | refine take_row _ rfl (by rfl) _ _ rfl rfl (fun W hSW => load_evA hSW.2.1) ?_
                  | refine take_pure _ rfl (by rfl) (fun W hSW => by (obtain ⟨-, -, s1, s2, s3, s4, s5⟩ := hSW; go_simp; try with_reducible rfl)) ?_
                  simp only [Act.put, List.getElem_toArray, List.getElem_cons_succ, List.getElem_cons_zero, List.setIfInBounds_toArray, List.set_cons_zero, List.set_cons_succ]
                refine take_done ?_
                refine held_call (i := 55) _ (by kernel_rfl) rfl (by rfl) (by go_simp; try exact ⟨rfl, rfl⟩) ?_
                refine (cH _ hB7).mono ?_
                rintro x w8 ⟨v, rfl, rfl, hB8⟩
                have hB8 := hB7.trans (hB8.mono hB7.size)
                have hS8 := hS w8 hB8
                refine ⟨_, rfl, hS8, ?_⟩
                simp only [Act.put, List.getElem_toArray, List.getElem_cons_succ, List.getElem_cons_zero, List.setIfInBounds_toArray, List.set_cons_zero, List.set_cons_succ]
                refine held_takes (by kernel_rfl) (fun c a d v w h => And.intro (put_nil h.1) h.2) hS8 (fuel := 0) [56, 57] _ _ (by kernel_rfl) ?_
                iterate 2
                  first
                  | refine take_off _ rfl (by rfl) ?_
                  | refine take_row _ rfl (by rfl) _ _ rfl rfl (fun W hSW => load_evA hSW.1) ?_
                  | refine take_row _ rfl (by rfl) _ _ rfl rfl (fun W hSW => load_evA hSW.2.1) ?_
                  | refine take_pure _ rfl (by rfl) (fun W hSW => by (obtain ⟨-, -, s1, s2, s3, s4, s5⟩ := hSW; go_simp; try with_reducible rfl)) ?_
                  simp only [Act.put, List.getElem_toArray, List.getElem_cons_succ, List.getElem_cons_zero, List.setIfInBounds_toArray, List.set_cons_zero, List.set_cons_succ]
                refine take_done ?_
                refine wpAnyH_done (by kernel_rfl) ?_ _
                have HB9 := hid hB8
                go_wp2
                go_meet
                case rel => exact ⟨rfl, HB9.out⟩
              cases wt
              · refine held_takes (by kernel_rfl) (fun c a d v w h => And.intro (put_nil h.1) h.2) hS7 (fuel := 0) [11, 12, 13, 14, 15, 16, 17, 18, 19, 20, 21, 22, 23, 24, 25, 26, 27, 28, 29, 30, 31, 32, 33, 34, 35, 36, 37, 38, 39, 40, 41, 42, 43, 44, 45, 46, 47, 48, 49, 50, 51, 52, 53, 54, 55, 56, 57] _ _ (by kernel_rfl) ?_
                iterate 47
                  first
                  | refine take_off _ rfl (by rfl) ?_
                  | refine take_row _ rfl (by rfl) _ _ rfl rfl (fun W hSW => load_evA hSW.1) ?_
                  | refine take_row _ rfl (by rfl) _ _ rfl rfl (fun W hSW => load_evA hSW.2.1) ?_
                  | refine take_pure _ rfl (by rfl) (fun W hSW => by (obtain ⟨-, -, s1, s2, s3, s4, s5⟩ := hSW; go_simp; try with_reducible rfl)) ?_
                  simp only [Act.put, List.getElem_toArray, List.getElem_cons_succ, List.getElem_cons_zero, List.setIfInBounds_toArray, List.set_cons_zero, List.set_cons_succ]
                refine take_done ?_
                refine wpAnyH_done (by kernel_rfl) ?_ _
                have HB9 := hid hB7
                go_wp2
                go_meet
                case rel => exact ⟨rfl, HB9.out⟩
              by_cases hpq : p = q
              · subst hpq
                have hrp : rp = true := hstr (by first | rfl | simp)
                subst hrp
                refine held_takes (by kernel_rfl) (fun c a d v w h => And.intro (put_nil h.1) h.2) hS7 (fuel := 3) [11, 12, 13, 14, 15, 16, 17, 18, 19, 20, 21, 22, 23, 24, 25, 26, 27, 28, 29, 30, 31, 32, 33, 34, 35, 36, 37, 38, 39, 40, 41, 42, 43, 44, 45, 46, 47, 48, 49, 50, 51, 52, 53, 54] _ _ (by kernel_rfl) ?_
                iterate 44
                  first
                  | refine take_off _ rfl (by rfl) ?_
                  | refine take_row _ rfl (by rfl) _ _ rfl rfl (fun W hSW => load_evA hSW.1) ?_
                  | refine take_row _ rfl (by rfl) _ _ rfl rfl (fun W hSW => load_evA hSW.2.1) ?_
                  | refine take_pure _ rfl (by rfl) (fun W hSW => by (obtain ⟨-, -, s1, s2, s3, s4, s5⟩ := hSW; go_simp; try with_reducible rfl)) ?_
                  simp only [Act.put, List.getElem_toArray, List.getElem_cons_succ, List.getElem_cons_zero, List.setIfInBounds_toArray, List.set_cons_zero, List.set_cons_succ]
                refine take_done ?_
                refine held_call (i := 55) _ (by kernel_rfl) rfl (by rfl) (by go_simp; try exact ⟨rfl, rfl⟩) ?_
                refine (cH _ hB7).mono ?_
                rintro x w8 ⟨v, rfl, rfl, hB8⟩
                have hB8 := hB7.trans (hB8.mono hB7.size)
                have hS8 := hS w8 hB8
                refine ⟨_, rfl, hS8, ?_⟩
                simp only [Act.put, List.getElem_toArray, List.getElem_cons_succ, List.getElem_cons_zero, List.setIfInBounds_toArray, List.set_cons_zero, List.set_cons_succ]
                refine held_takes (by kernel_rfl) (fun c a d v w h => And.intro (put_nil h.1) h.2) hS8 (fuel := 0) [56, 57] _ _ (by kernel_rfl) ?_
                iterate 2
                  first
                  | refine take_off _ rfl (by rfl) ?_
                  | refine take_row _ rfl (by rfl) _ _ rfl rfl (fun W hSW => load_evA hSW.1) ?_
                  | refine take_row _ rfl (by rfl) _ _ rfl rfl (fun W hSW => load_evA hSW.2.1) ?_
                  | refine take_pure _ rfl (by rfl) (fun W hSW => by (obtain ⟨-, -, s1, s2, s3, s4, s5⟩ := hSW; go_simp; try with_reducible rfl)) ?_
                  simp only [Act.put, List.getElem_toArray, List.getElem_cons_succ, List.getElem_cons_zero, List.setIfInBounds_toArray, List.set_cons_zero, List.set_cons_succ]
                refine take_done ?_
                refine wpAnyH_done (by kernel_rfl) ?_ _
                have HB9 := hid hB8
                go_wp2
                go_meet
                case rel => exact ⟨rfl, HB9.out⟩
              have npq : (p == q) = false := by simpa using hpq
              clear hpq
              refine held_takes (by kernel_rfl) (fun c a d v w h => And.intro (put_nil h.1) h.2) hS7 (fuel := 0) [11, 12, 13, 14, 15, 16, 17, 18, 19, 20, 21, 22, 23, 24, 25, 26, 27, 28, 29, 30, 31, 32, 33, 34, 35, 36, 37, 38, 39, 40, 41, 42, 43, 44, 45, 46, 47, 48, 49, 50, 51, 52, 53, 54, 55, 56, 57] _ _ (by kernel_rfl) ?_
              iterate 47
                first
                | refine take_off _ rfl (by rfl) ?_
                | refine take_row _ rfl (by rfl) _ _ rfl rfl (fun W hSW => load_evA hSW.1) ?_
                | refine take_row _ rfl (by rfl) _ _ rfl rfl (fun W hSW => load_evA hSW.2.1) ?_
                | refine take_pure _ rfl (by rfl) (fun W hSW => by (obtain ⟨-, -, s1, s2, s3, s4, s5⟩ := hSW; go_simp; try with_reducible rfl)) ?_
                simp only [Act.put, List.getElem_toArray, List.getElem_cons_succ, List.getElem_cons_zero, List.setIfInBounds_toArray, List.set_cons_zero, List.set_cons_succ]
              refine take_done ?_
              refine wpAnyH_done (by kernel_rfl) ?_ _
              have HB9 := hid hB7
              go_wp2
              go_meet
              case rel => exact ⟨rfl, HB9.out⟩
            case rest =>
              obtain ⟨rfl, hB9⟩ := hcut
              have hO := Hop.out _ hB9
              obtain ⟨hop1, hop2⟩ := hO
              have HB9 := hid (HBq.out.trans ((Hd.out.trans (hB9.mono Hd.out.size)).mono HBq.out.size))
              clear hB9 hS c1 c2 cH hstr hd2 Hop
              have HN : Hid (∀ x, x = (fu || (o == 63 && im == 51)) → x = fullB E k (c + 1)) := hid fun x h => by rw [h, Hnext.out]
              cases fu
              · by_cases ho : o = 63
                · subst ho
                  go_wp2
                  go_roundw
                  case rel => exact ⟨c + 1, by omega, by omega, by go_num, by rw [HN.out (im == 51) (by simp)], HB9.out⟩
                  case measure => simp [intOf]; omega
                · have n63 : (o == 63) = false := by simpa using ho
                  clear ho
                  go_wp2
                  go_roundw
                  case rel => exact ⟨c + 1, by omega, by omega, by go_num, by rw [HN.out false (by rw [n63]; rfl)], HB9.out⟩
                  case measure => simp [intOf]; omega
              · go_wp2
                go_roundw
                case rel => exact ⟨c + 1, by omega, by omega, by go_num, by rw [HN.out true rfl], HB9.out⟩
                case measure => simp [intOf]; omega
          · have n12 : (x2 == x1) = false := by
              have : ¬ x2 = x1 := fun h => hx h.symm
              simpa using this
            clear hx
            go_upto_region 10 with (fail)
            refine region_takes (fun U => U.cell? ⟨b0, o0 + k * 23, none⟩ = some (.int .i64 x1) ∧ U.cell? ⟨b0, o0 + c * 23, none⟩ = some (.int .i64 x2)) [0, 1, 2, 3, 4, 5, 6, 7, 8, 9, 10, 11, 12, 13, 14, 15, 16] 0 (by rfl) (by kernel_rfl) (by kernel_rfl) (by kernel_rfl) (fun c a d v w h => And.intro (put_nil h.1) h.2) HS1.out ?_
            iterate 17
              first
              | refine take_off _ rfl (by rfl) ?_
              | refine take_pure _ rfl (by rfl) (fun W hSW => by (obtain ⟨s1, s2⟩ := hSW; go_simp; try with_reducible rfl)) ?_
              simp only [Act.put, List.getElem_toArray, List.getElem_cons_succ, List.getElem_cons_zero, List.setIfInBounds_toArray, List.set_cons_zero, List.set_cons_succ]
            refine take_done ?_
            refine wpAnyH_done (by kernel_rfl) ?_ _
            have HB8 := hid (HBq.out.trans (hd.mono HBq.out.size))
            clear hd hEv
            go_wp2
            go_roundw
            case rel => exact ⟨k + 1, by omega, by go_num, HBw.out.trans (HB8.out.mono HBw.out.size)⟩
            case measure => simp [intOf]; omega
        · obtain rfl : c = n := by omega
          go_upto_region 10 with (fail)
          refine region_takes (fun U => True) [0, 1, 2, 3, 4, 5, 6, 7, 8, 9, 10, 11, 12, 13, 14, 15, 16] 0 (by rfl) (by kernel_rfl) (by kernel_rfl) (by kernel_rfl) (fun c a d v w h => And.intro (put_nil h.1) h.2) trivial ?_
          iterate 17
            first
            | refine take_off _ rfl (by rfl) ?_
            | refine take_pure _ rfl (by rfl) (fun W hSW => by (go_simp; try with_reducible rfl)) ?_
            simp only [Act.put, List.getElem_toArray, List.getElem_cons_succ, List.getElem_cons_zero, List.setIfInBounds_toArray, List.set_cons_zero, List.set_cons_succ]
          refine take_done ?_
          refine wpAnyH_done (by kernel_rfl) ?_ _
          have HB8 := hid (HBq.out.trans (hd.mono HBq.out.size))
          clear hd
          go_wp2
          go_roundw
          case rel => exact ⟨k + 1, by omega, by go_num, HBw.out.trans (HB8.out.mono HBw.out.size)⟩
          case measure => simp [intOf]; omega
    · obtain rfl : k = n := by omega
      have HBe := hid (HB1.out.trans ((HB3.out.trans (hB.mono HB3.out.size)).mono HB1.out.size))
      clear hB
      go_wp2
      go_ret
      exact ⟨rfl, HBe.out⟩
end Go.Proofs.Ytchjjbcmbdmlgaa
