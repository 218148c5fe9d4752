/- Layer 16: the law PpoAll, walked. -/
import Derived.Test.YtchjjbcmbdmlgaaK19
set_option linter.unusedVariables false
set_option linter.unusedSimpArgs false
namespace Go.Proofs.Ytchjjbcmbdmlgaa
open Go Go.RowKit
set_option maxHeartbeats 4000000 in
set_option maxRecDepth 100000 in
theorem ppoAll_of (qc qd qe qh qr : Option Addr) (nc cc nd cd ne ce nh ch nr cr : Nat) (w : World)
    (hev : ∀ W, Below w.heap.size w W → Calls Try.prog 6 #[.agg #[.slice qc nc cc, .slice qd nd cd, .slice qe ne ce], .agg #[.slice qh nh ch, .slice qr nr cr]] W (EvP W)) :
    Calls Try.prog 4 #[.agg #[.slice qc nc cc, .slice qd nd cd, .slice qe ne ce], .agg #[.slice qh nh ch, .slice qr nr cr]] w (BQ w (.bool true)) := by
  have HB0 := hid (((Below.refl w.heap.size w).alloc (Nat.le_refl _) (.cells #[.slice qc nc cc, .slice qd nd cd, .slice qe ne ce] 25)).alloc (by simp) (.cells #[.slice qh nh ch, .slice qr nr cr] 29))
  have H2 := hid ((Hb.arr w #[.slice qc nc cc, .slice qd nd cd, .slice qe ne ce] 25).alloc (.cells #[.slice qh nh ch, .slice qr nr cr] 29))
  have h3 := Hb.arr (w.alloc (.cells #[.slice qc nc cc, .slice qd nd cd, .slice qe ne ce] 25)) #[.slice qh nh ch, .slice qr nr cr] 29
  rw [World.size_alloc] at h3
  have H3 := hid h3
  have HE := hid hev
  clear h3 hev
  go_enter Try.func4, Try.ntmps4
  go_upto_region 1 with (fail)
  generalize (w.alloc _).alloc _ = W0 at HB0 H2 H3 ⊢
  have i0 := load_image H2.out
  have j0 := load_cand H3.out
  have HR := hid (HE.out W0 HB0.out)
  go_upto_region 2 with (first
    | (go_at_call 6; refine HR.out.mono ?_; rintro x' W1 ⟨q, n, cap, E, rfl, hE, hn, hB1⟩; have HB1 := hid (HB0.out.trans (hB1.mono HB0.out.size)); have HEv := hid hE; have Hn := hid hn; clear hB1 hE hn)
    | (refine wp_ld_of rfl _ _ rfl rfl i0 ?_)
    | (refine wp_ld_of rfl _ _ rfl rfl j0 ?_))
  obtain ⟨R, hRG⟩ := allOk_of Hn.out HEv.out
  have HRG := hid hRG
  have HAl := hid (hRG.al W1 (Below.refl _ _))
  clear i0 j0 HR hRG H2 H3 HE HB0
  go_upto_region 3 with (go_at_call 12; refine HAl.out.mono ?_; rintro x' W2 ⟨r0, r1, rfl, hRel, hB2⟩; have HB2 := hid hB2; have HRel := hid hRel; clear hB2 hRel)
  clear HAl
  have HAw := hid (awake16 W2)
  go_wp2_with (go_at_call 11; refine HAw.out.mono ?_; rintro x' W3 ⟨rfl, hB3⟩; refine Hid.out ?_)
  have HRel3 := hid (HRel.out.below hB3)
  have HB3 := hid (HB2.out.trans (hB3.mono HB2.out.size))
  have HLn := hid (len_ret HRel3.out.v)
  have enn : ((n : Int) != n) = false := by simp
  clear HAw HRel HB2 hB3
  refine hid ?_
  go_wp2_with (go_at_call 13; refine HLn.out.mono ?_; rintro x' w5 ⟨rfl, rfl⟩; refine Hid.out ?_)
  clear HLn
  refine hid ?_
  go_wp2
  go_loopw [7] (fun v wr => ∃ k : Nat, k ≤ n ∧ v = .int .i64 k ∧ Below w5.heap.size w5 wr) (fun v _ => n - (intOf v).toNat)
  case atStart => exact ⟨0, Nat.zero_le _, rfl, Below.refl _ _⟩
  case round =>
    obtain ⟨k, hk, rfl, hB⟩ := hrel
    by_cases hlt : k < n
    · obtain ⟨b0, o0, cap', nA, nD, nC, FA, FD, FC, e, H, HK, _⟩ := evsX_of HEv.out (by have := Hn.out; omega) (by omega)
      cases e
      have HB := hid (HB3.out.trans (hB.mono HB3.out.size))
      have hkI : (k : Int) < n := by omega
      have hn := Hn.out
      have HBw := hid hB
      clear hB
      have hEv : ∀ W, Below wr.heap.size wr W → ∀ i, i < n → EvA W b0 (o0 + i * 23) (E.e i) (E.a i) (E.d i) (E.c i) := fun W hW i hi => H.ev W (HB.out.trans (hW.mono HB.out.size)) i hi
      obtain ⟨qa1, ca1, ea1, _⟩ := H.la wr HB.out k hlt
      obtain ⟨qd1, cd1, ed1, _⟩ := H.ld wr HB.out k hlt
      obtain ⟨qc1, cc1, ec1, _⟩ := H.lc wr HB.out k hlt
      have hS : ∀ U, Below wr.heap.size wr U → EvA U b0 (o0 + k * 23) (E.e k) (.slice qa1 (nA k) ca1) (.slice qd1 (nD k) cd1) (.slice qc1 (nC k) cc1) := fun U hU => by have := hEv U hU k hlt; rwa [ea1, ed1, ec1] at this
      have hd : Below wr.heap.size wr wr.drew := ⟨rfl, rfl, rfl, Nat.le_refl _, fun _ _ => rfl⟩
      go_upto_region 8 with (fail)
      refine region_takes (fun U => EvA U b0 (o0 + k * 23) (E.e k) (.slice qa1 (nA k) ca1) (.slice qd1 (nD k) cd1) (.slice qc1 (nC k) cc1)) [0, 1, 2, 3, 5, 6, 7, 8] 3 (by rfl) (by kernel_rfl) (by kernel_rfl) (by kernel_rfl) (fun c a d v w h => And.intro (put_nil h.1) h.2) (hS _ hd) ?_
      iterate 8
        first
        | refine take_row _ rfl (by rfl) _ _ rfl rfl (fun W hSW => load_evA hSW) ?_
        | refine take_pure _ rfl (by rfl) (fun W hSW => by (go_simp; try with_reducible rfl)) ?_
        simp only [Act.put, List.getElem_toArray, List.getElem_cons_succ, List.getElem_cons_zero, List.setIfInBounds_toArray, List.set_cons_zero, List.set_cons_succ]
      refine take_done ?_
      have c1 : ∀ W : World, Calls Try.prog 14 #[.agg (evAr (E.e k) (.slice qa1 (nA k) ca1) (.slice qd1 (nD k) cd1) (.slice qc1 (nC k) cc1))] W fun e w' => ∃ v, e = .returned v ∧ v = .bool (memB (E.e k)) ∧ Below W.heap.size W w' := fun W => ppoMemory_w.mono fun x w' h => ⟨_, h.1, rfl, h.2⟩
      have c2 : ∀ W : World, Calls Try.prog 15 #[.agg (evAr (E.e k) (.slice qa1 (nA k) ca1) (.slice qd1 (nD k) cd1) (.slice qc1 (nC k) cc1))] W fun e w' => ∃ v, e = .returned v ∧ v = .bool (memB (E.e k)) ∧ Below W.heap.size W w' := fun W => refMemory_w.mono fun x w' h => ⟨_, h.1, rfl, h.2⟩
      generalize memB (E.e k) = m at c1 c2
      refine held_call (i := 4) _ (by kernel_rfl) rfl (by rfl) (by go_simp; try exact ⟨rfl, rfl⟩) ?_
      refine (c1 _).mono ?_
      rintro x w5' ⟨v, rfl, rfl, hB5⟩
      refine ⟨_, rfl, hS _ (hd.trans hB5), ?_⟩
      simp only [Act.put, List.getElem_toArray, List.getElem_cons_succ, List.getElem_cons_zero, List.setIfInBounds_toArray, List.set_cons_zero, List.set_cons_succ]
      refine held_call (i := 9) _ (by kernel_rfl) rfl (by rfl) (by go_simp; try exact ⟨rfl, rfl⟩) ?_
      refine (c2 _).mono ?_
      rintro x w6 ⟨v, rfl, rfl, hB6⟩
      have hB6 := hB5.trans (hB6.mono hB5.size)
      refine ⟨_, rfl, hS _ (hd.trans hB6), ?_⟩
      simp only [Act.put, List.getElem_toArray, List.getElem_cons_succ, List.getElem_cons_zero, List.setIfInBounds_toArray, List.set_cons_zero, List.set_cons_succ]
      have emm : (m != m) = false := by simp
      refine held_op (i := 10) (w' := w6) _ (by kernel_rfl) rfl (by rfl) (by first | with_reducible rfl | (go_simp; try with_reducible rfl)) (hS w6 (hd.trans hB6)) ?_
      simp only [Act.put, List.getElem_toArray, List.getElem_cons_succ, List.getElem_cons_zero, List.setIfInBounds_toArray, List.set_cons_zero, List.set_cons_succ]
      refine wpAnyH_done (by kernel_rfl) ?_ _
      have HB6 := hid (hd.trans hB6)
      clear hB6 c1 c2 hS hd
      obtain ⟨wo, hwo⟩ : ∃ x, x = wr := ⟨_, rfl⟩
      subst hwo
      go_wp2
      go_loopw [8] (fun v wx => ∃ c : Nat, c ≤ n ∧ v = .int .i64 c ∧ Below wo.heap.size wo wx) (fun v _ => n - (intOf v).toNat)
      case atStart => exact ⟨0, Nat.zero_le _, rfl, HB6.out⟩
      case round =>
        obtain ⟨c, hc, rfl, hB⟩ := hrel
        have HBq := hid hB
        clear hB
        by_cases hlc : c < n
        · have hcI : (c : Int) < n := by omega
          have hd : Below wr.heap.size wr wr.drew := ⟨rfl, rfl, rfl, Nat.le_refl _, fun _ _ => rfl⟩
          have hqW : Below W1.heap.size W1 wr := HB.out.trans (HBq.out.mono HB.out.size)
          have hRq : RelV wr (.pointer (some ⟨r0, 0, none⟩)) n (mP (RuleP R) n []) := (HRel3.out.below (HBw.out.trans (HBq.out.mono HBw.out.size))).v
          have hS : ∀ U, Below wr.heap.size wr U → RelV U (.pointer (some ⟨r0, 0, none⟩)) n (mP (RuleP R) n []) ∧ U.cell? ⟨b0, o0 + k * 23, none⟩ = some (.int .i64 (E.e k).ht) ∧ U.cell? ⟨b0, o0 + c * 23, none⟩ = some (.int .i64 (E.e c).ht) := fun U hU => ⟨hRq.below hU, hEv U (HBq.out.trans (hU.mono HBq.out.size)) k hlt 0 (by omega), hEv U (HBq.out.trans (hU.mono HBq.out.size)) c hlc 0 (by omega)⟩
          have hz : hasZ n (mP (RuleP R) n []) k c = RuleP R k c := hasZ_mP hlt hlc
          have cH : ∀ W, Below wr.heap.size wr W → Calls Try.prog 16 #[.pointer (some ⟨r0, 0, none⟩), .int .i64 k, .int .i64 c] W fun e w' => ∃ v, e = .returned v ∧ v = .bool (RuleP R k c) ∧ Below W.heap.size W w' := fun W hW => (has_ret (hRq.below hW) k c).mono fun x w' h => ⟨_, h.1, by rw [hz], by rw [h.2]; exact Below.refl _ _⟩
          have cR : ∀ W, Below wr.heap.size wr W → Calls Try.prog 8 #[.slice (some ⟨b0, o0, none⟩) n cap, .int .i64 k, .int .i64 c] W fun e w' => ∃ v, e = .returned v ∧ v = .int .i64 (R k c) ∧ Below W.heap.size W w' := fun W hW => (HRG.out.rr W (hqW.trans (hW.mono hqW.size)) k c).mono fun x w' h => ⟨_, h.1, rfl, h.2⟩
          have hpos := HRG.out.pos k c
          have hp : RuleP R k c = decide (0 < R k c) := rfl
          rw [hp] at cH
          go_upto_region 13 with (fail)
          refine region_takes (fun U => RelV U (.pointer (some ⟨r0, 0, none⟩)) n (mP (RuleP R) n []) ∧ U.cell? ⟨b0, o0 + k * 23, none⟩ = some (.int .i64 (E.e k).ht) ∧ U.cell? ⟨b0, o0 + c * 23, none⟩ = some (.int .i64 (E.e c).ht)) [0, 1, 2, 4, 5, 6] 28 (by rfl) (by kernel_rfl) (by kernel_rfl) (by kernel_rfl) (fun c a d v w h => And.intro (put_nil h.1) h.2) (hS _ hd) ?_
          iterate 6
            refine take_pure _ rfl (by rfl) (fun W hSW => by (go_simp; try with_reducible rfl)) ?_
            simp only [Act.put, List.getElem_toArray, List.getElem_cons_succ, List.getElem_cons_zero, List.setIfInBounds_toArray, List.set_cons_zero, List.set_cons_succ]
          refine take_done ?_
          generalize R k c = r at cH cR hpos
          refine held_call (i := 3) _ (by kernel_rfl) rfl (by rfl) (by go_simp; try exact ⟨rfl, rfl⟩) ?_
          refine (cH _ hd).mono ?_
          rintro x w6 ⟨v, rfl, rfl, hB6⟩
          refine ⟨_, rfl, hS _ (hd.trans hB6), ?_⟩
          simp only [Act.put, List.getElem_toArray, List.getElem_cons_succ, List.getElem_cons_zero, List.setIfInBounds_toArray, List.set_cons_zero, List.set_cons_succ]
          refine held_call (i := 7) _ (by kernel_rfl) rfl (by rfl) (by go_simp; try exact ⟨rfl, rfl⟩) ?_
          refine (cR _ (hd.trans hB6)).mono ?_
          rintro x w7 ⟨v, rfl, rfl, hB7⟩
          have hB7 := hB6.trans (hB7.mono hB6.size)
          have hB7 := hd.trans hB7
          have hS7 := hS w7 hB7
          refine ⟨_, rfl, hS7, ?_⟩
          simp only [Act.put, List.getElem_toArray, List.getElem_cons_succ, List.getElem_cons_zero, List.setIfInBounds_toArray, List.set_cons_zero, List.set_cons_succ]
          by_cases h0 : 0 < r
          · have d0 : decide (0 < r) = true := decide_eq_true h0
            obtain ⟨p1, p2, p3⟩ := hpos h0
            have hle : decide ((c : Int) ≤ k) = false := decide_eq_false (by omega)
            rw [d0]
            rw [d0] at cH
            refine held_takes (by kernel_rfl) (fun c a d v w h => And.intro (put_nil h.1) h.2) hS7 (fuel := 20) [8, 9, 10, 11, 12, 13] _ _ (by kernel_rfl) ?_
            refine take_pure _ (v := .bool true) rfl (by rfl) (fun W hSW => by (go_simp; try simp only [gt_iff_lt, d0])) ?_
            simp only [Act.put, List.getElem_toArray, List.getElem_cons_succ, List.getElem_cons_zero, List.setIfInBounds_toArray, List.set_cons_zero, List.set_cons_succ]
            iterate 5
              refine take_pure _ rfl (by rfl) (fun W hSW => by (go_simp; try with_reducible rfl)) ?_
              simp only [Act.put, List.getElem_toArray, List.getElem_cons_succ, List.getElem_cons_zero, List.setIfInBounds_toArray, List.set_cons_zero, List.set_cons_succ]
            refine take_done ?_
            refine held_call (i := 14) _ (by kernel_rfl) rfl (by rfl) (by go_simp; try exact ⟨rfl, rfl⟩) ?_
            refine (cH _ hB7).mono ?_
            rintro x w8 ⟨v, rfl, rfl, hB8⟩
            have hB8 := hB7.trans (hB8.mono hB7.size)
            have hS8 := hS w8 hB8
            refine ⟨_, rfl, hS8, ?_⟩
            simp only [Act.put, List.getElem_toArray, List.getElem_cons_succ, List.getElem_cons_zero, List.setIfInBounds_toArray, List.set_cons_zero, List.set_cons_succ]
            refine held_takes (by kernel_rfl) (fun c a d v w h => And.intro (put_nil h.1) h.2) hS8 (fuel := 0) [15, 16, 17, 18, 19, 20, 21, 22, 23, 24, 25, 26, 27, 28, 29, 30, 31, 32, 33] _ _ (by kernel_rfl) ?_
            iterate 3
              refine take_pure _ rfl (by rfl) (fun W hSW => by (go_simp; try with_reducible rfl)) ?_
              simp only [Act.put, List.getElem_toArray, List.getElem_cons_succ, List.getElem_cons_zero, List.setIfInBounds_toArray, List.set_cons_zero, List.set_cons_succ]
            refine take_pure _ (v := .bool false) rfl (by rfl) (fun W hSW => by (go_simp; try simp only [ge_iff_le, hle])) ?_
            simp only [Act.put, List.getElem_toArray, List.getElem_cons_succ, List.getElem_cons_zero, List.setIfInBounds_toArray, List.set_cons_zero, List.set_cons_succ]
            iterate 15
              refine take_pure _ rfl (by rfl) (fun W hSW => by (obtain ⟨-, s1, s2⟩ := hSW; rw [← p3] at s2; go_simp; try with_reducible rfl)) ?_
              simp only [Act.put, List.getElem_toArray, List.getElem_cons_succ, List.getElem_cons_zero, List.setIfInBounds_toArray, List.set_cons_zero, List.set_cons_succ]
            refine take_done ?_
            refine wpAnyH_done (by kernel_rfl) ?_ _
            have HB8 := hid (HBq.out.trans (hB8.mono HBq.out.size))
            clear hB8 hS8 hS7 hB7 cH cR hpos hRq hS hd hEv
            go_wp2
            go_roundw
            case rel => exact ⟨c + 1, by omega, by go_num, HB8.out⟩
            case measure => simp [intOf]; omega
          · have d0 : decide (0 < r) = false := decide_eq_false h0
            rw [d0]
            rw [d0] at cH
            refine held_takes (by kernel_rfl) (fun c a d v w h => And.intro (put_nil h.1) h.2) hS7 (fuel := 20) [8, 9, 10, 11, 12, 13] _ _ (by kernel_rfl) ?_
            refine take_pure _ (v := .bool false) rfl (by rfl) (fun W hSW => by (go_simp; try simp only [gt_iff_lt, d0])) ?_
            simp only [Act.put, List.getElem_toArray, List.getElem_cons_succ, List.getElem_cons_zero, List.setIfInBounds_toArray, List.set_cons_zero, List.set_cons_succ]
            iterate 5
              refine take_pure _ rfl (by rfl) (fun W hSW => by (go_simp; try with_reducible rfl)) ?_
              simp only [Act.put, List.getElem_toArray, List.getElem_cons_succ, List.getElem_cons_zero, List.setIfInBounds_toArray, List.set_cons_zero, List.set_cons_succ]
            refine take_done ?_
            refine held_call (i := 14) _ (by kernel_rfl) rfl (by rfl) (by go_simp; try exact ⟨rfl, rfl⟩) ?_
            refine (cH _ hB7).mono ?_
            rintro x w8 ⟨v, rfl, rfl, hB8⟩
            have hB8 := hB7.trans (hB8.mono hB7.size)
            have hS8 := hS w8 hB8
            refine ⟨_, rfl, hS8, ?_⟩
            simp only [Act.put, List.getElem_toArray, List.getElem_cons_succ, List.getElem_cons_zero, List.setIfInBounds_toArray, List.set_cons_zero, List.set_cons_succ]
            refine held_takes (by kernel_rfl) (fun c a d v w h => And.intro (put_nil h.1) h.2) hS8 (fuel := 0) [15, 16, 17, 18, 19, 20, 21, 22, 23, 24, 25, 26, 27, 28, 29, 30, 31, 32, 33] _ _ (by kernel_rfl) ?_
            iterate 19
              first
              | refine take_off _ rfl (by rfl) ?_
              | refine take_pure _ rfl (by rfl) (fun W hSW => by (go_simp; try with_reducible rfl)) ?_
              simp only [Act.put, List.getElem_toArray, List.getElem_cons_succ, List.getElem_cons_zero, List.setIfInBounds_toArray, List.set_cons_zero, List.set_cons_succ]
            refine take_done ?_
            refine wpAnyH_done (by kernel_rfl) ?_ _
            have HB8 := hid (HBq.out.trans (hB8.mono HBq.out.size))
            clear hB8 hS8 hS7 hB7 cH cR hpos hRq hS hd hEv
            go_wp2
            go_roundw
            case rel => exact ⟨c + 1, by omega, by go_num, HB8.out⟩
            case measure => simp [intOf]; omega
        · obtain rfl : c = n := by omega
          go_wp2
          go_roundw
          case rel => exact ⟨k + 1, by omega, by go_num, HBw.out.trans (HBq.out.mono HBw.out.size)⟩
          case measure => simp [intOf]; omega
    · obtain rfl : k = n := by omega
      have HBe := hid (HB1.out.trans ((HB3.out.trans (hB.mono HB3.out.size)).mono HB1.out.size))
      clear hB
      go_wp2
      go_ret
      exact ⟨rfl, HBe.out⟩
end Go.Proofs.Ytchjjbcmbdmlgaa
