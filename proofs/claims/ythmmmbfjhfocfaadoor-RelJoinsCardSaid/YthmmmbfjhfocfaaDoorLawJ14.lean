/- The law RelJoins of layer 14. -/
import Derived.Test.YthmmmbfjhfocfaaDoorJn14
namespace Go.Proofs.YthmmmbfjhfocfaaDoor
open Go Go.RowKit
set_option linter.unusedVariables false
set_option linter.unusedSimpArgs false

set_option maxRecDepth 200000 in
set_option maxHeartbeats 16000000 in
theorem relJoins_main (n0 n1 : Int) (a : Option Addr) (len cap : Nat) (p q : Nat → Int) (a' : Option Addr) (len' cap' : Nat) (p' q' : Nat → Int) (w : World) (hG : TzOk w) (hP : PIn w a len cap p q) (hP' : PIn w a' len' cap' p' q') (hf : (decide (n0 ≤ 80) && decide (len ≤ 300)) = true) (hf' : (decide (n1 ≤ 80) && decide (len' ≤ 300)) = true) : Calls Tryd.prog 4 #[.agg #[.int .i64 n0, .int .i64 n1], .slice a len cap, .slice a' len' cap'] w (Holds w) := by
  have HF := hid (fun w => few_ret n0 a len cap (by have := hP.1; have := hP.2.1; unfold maxLen at this; omega) w)
  have HF' := hid (fun w => few_ret n1 a' len' cap' (by have := hP'.1; have := hP'.2.1; unfold maxLen at this; omega) w)
  rw [hf] at HF
  rw [hf'] at HF'
  have hn0 := few_of hf
  have hn1 := few_of hf'
  have hx0 := cell_two_new w (.int .i64 n0) (.int .i64 n1) 23 0 _ rfl
  have hx1 := cell_two_new w (.int .i64 n0) (.int .i64 n1) 23 1 _ rfl
  have hsz : w.heap.size < (w.alloc (.cells #[.int .i64 n0, .int .i64 n1] 23)).heap.size := by simp
  have hbl := Fr.to_below ((Fr.refl [] w).alloc (.cells #[.int .i64 n0, .int .i64 n1] 23))
  have HB := hid (both_ret n0 hn0 _ a len cap p q (hP.below hbl))
  have HH := hid (And.intro (hG.below hbl) (And.intro hbl (And.intro hx0 (And.intro hx1 (And.intro hsz (And.intro hn1 (hP'.below hbl)))))))
  clear hP hP' hf hf' hG hn0 hn1 hx0 hx1 hsz hbl
  go_enter Tryd.func4, Tryd.ntmps4
  obtain ⟨hG1, hbl, hx0, hx1, hsz, hn1, hP'⟩ := HH.out
  simp only [Addr.add, Nat.zero_add] at hx0 hx1
  clear hG1 hbl hsz hn1 hP'
  go_wp2_with (go_at_call 8; refine (HF.out _).mono ?_; clear HF; rintro e' w2 ⟨rfl, rfl⟩; refine Hid.out ?_)
  refine hid ?_
  go_wp2_with (go_at_call 8; refine (HF'.out _).mono ?_; clear HF'; rintro e' w2 ⟨rfl, rfl⟩)
  clear hx0 hx1
  go_wp2_with (go_at_call 12; refine HB.out.mono ?_; clear HB; rintro e' w3 ⟨b0, b1, c0, v, ρ, m, rfl, hbo⟩; refine Hid.out ?_)
  obtain ⟨hG1, hbl, hx0, hx1, hsz, hn1, hP'⟩ := HH.out
  have hx3 : w3.cell? ⟨w.heap.size, 1, none⟩ = some (.int .i64 n1) := by
    have := hbo.below.block _ hsz
    simpa [World.cell?, this, Addr.add] using hx1
  have HB := hid (both_ret n1 hn1 w3 a' len' cap' p' q' (hP'.below hbo.below))
  have HBo := hid hbo
  clear hG1 hbl hx0 hx1 hsz hn1 hP' hbo
  refine hid ?_
  go_wp2_with (go_at_call 12; refine HB.out.mono ?_; clear HB; rintro e' w4 ⟨e0, e1, f0, v', ρ', k, rfl, hbo2⟩; refine Hid.out ?_)
  obtain ⟨hG1, hbl, hx0, hx1, hsz, hn1, hP'⟩ := HH.out
  have HAw := hid (awake_ret w4 ((hG1.below HBo.out.below).below hbo2.below))
  have HBo2 := hid hbo2
  clear hG1 hbl hx0 hx1 hsz hn1 hP' hbo2 hx3
  refine hid ?_
  go_wp2_with (go_at_call 11; refine HAw.out.mono ?_; clear HAw; rintro e' w5 ⟨rfl, hb5⟩; refine Hid.out ?_)
  obtain ⟨hG1, hbl, hx0, hx1, hsz, hn1, hP'⟩ := HH.out
  have hbo5 := (HBo.out.then HBo2.out.below).then hb5
  have hbo6 := HBo2.out.then hb5
  have hN5 := clN_le n0
  obtain ⟨N, hN⟩ : ∃ N, clN n0 = N := ⟨_, rfl⟩
  obtain ⟨M, hM⟩ : ∃ M, clN n1 = M := ⟨_, rfl⟩
  rw [hN] at hbo5 hN5
  rw [hM] at hbo6
  have hFx : Fx w5 b0 b1 c0 N v ρ m e0 e1 f0 M v' ρ' k := ⟨hbo5.a, hbo5.b, hbo6.a, hbo6.b, hG1.below hbo5.below⟩
  have HW := hid (hbl.trans (hbo5.below.mono hbl.size))
  have HFx := hid hFx
  have HNew := hid (fun (W : World) L (h : JL w5 W N L) => jl_new hN5 h)
  have HC := hid (fun (W : World) L (h : JL w5 W N L) => (hFx.then h.bel).x.ncell)
  have hJ0 := JL.nil w5 N
  have hc0 := HC.out _ _ hJ0
  clear hG1 hbl hx0 hx1 hsz hn1 hP' hbo5 hbo6 hb5 HBo HBo2 hN hM hFx HH
  refine hid ?_
  go_wp2
  have HNew0 := hid (fun W (h : JL w5 W N []) => HNew.out W [] h)
  have HNew1 := hid (fun W z (h : JL w5 W N [z]) => HNew.out W [z] h)
  have HNew2 := hid (fun W z y (h : JL w5 W N [z, y]) => HNew.out W [z, y] h)
  clear HNew
  refine' wp_mono (Q := Q3 w5 N _) ?reg ?post
  case reg =>
    go_region_held3 (fun W => W.cell? ⟨c0, 0, none⟩ = some (.int .i64 N)) (first | assumption) (first
      | (go_at_call 18; refine (HNew0.out _ (by assumption)).mono ?_; rintro e' wj0 ⟨z1, rfl, hj1⟩; have kk := HC.out _ _ hj1)
      | (go_at_call 18; refine (HNew1.out _ _ (by assumption)).mono ?_; rintro e' wj1 ⟨z2, rfl, hj2⟩; have kk := HC.out _ _ hj2)
      | (go_at_call 18; refine (HNew2.out _ _ _ (by assumption)).mono ?_; rintro e' wj2 ⟨z3, rfl, hj3⟩; have kk := HC.out _ _ hj3))
    all_goals
      have hz := hj3.j3
      refine ⟨rfl, z3, z2, z1, ?_, hz⟩
      exact rfl
  rintro _ _ w6 ⟨rfl, z, y, x, rfl, hJ⟩
  clear HNew0 HNew1 HNew2 hJ0 hc0 HC
  have HA1 := hid (fun (W : World) mx my mz i j (hi : i < N) (hj : j < N) (h : J3 w5 W N x y z mx my mz) => h.add1 hi hj)
  have HA2 := hid (fun (W : World) mx my mz i j (hi : i < N) (hj : j < N) (h : J3 w5 W N x y z mx my mz) => h.add2 hi hj)
  have HA3 := hid (fun (W : World) mx my mz i j (hi : i < N) (hj : j < N) (h : J3 w5 W N x y z mx my mz) => h.add3 hi hj)
  have HHas := hid (fun (W : World) mx my mz (i j : Nat) (h : J3 w5 W N x y z mx my mz) => ref_has_nat (HFx.out.then h.bel).y i j)
  have HJ := hid hJ.rot.swap
  clear hJ
  go_wp2
  go_loopw [16, 17, 18] (fun v1 v2 v3 wr => ∃ i : Nat, i ≤ N ∧ v1 = .int .i64 i ∧ J3 w5 wr N x y z (fillF (pU m k) N i 0) (fillF (pT m) N i 0) (fillF (pA N m k) N i 0)) (fun v1 _ _ _ => N - (intOf v1).toNat)
  case atStart => exact ⟨0, Nat.zero_le _, rfl, by rw [fillF_0, fillF_0, fillF_0]; exact HJ.out⟩
  case round =>
    obtain ⟨i, hi, rfl, hj1⟩ := hrel
    have hc0 := (HFx.out.then hj1.bel).x.ncell
    have HJ1 := hid hj1
    clear hj1 HJ
    by_cases hlt : i < N
    · go_wp2
      go_loopw [17, 18] (fun v2 v3 wr2 => ∃ j : Nat, j ≤ N ∧ v2 = .int .i64 j ∧ J3 w5 wr2 N x y z (fillF (pU m k) N i j) (fillF (pT m) N i j) (fillF (pA N m k) N i j)) (fun v2 _ _ => N - (intOf v2).toNat)
      case atStart => exact ⟨0, Nat.zero_le _, rfl, HJ1.out⟩
      case round =>
        obtain ⟨j, hj, rfl, hj2⟩ := hrel
        clear HJ1 hc0
        have hfx := HFx.out.then hj2.bel
        have hc0 := hfx.x.ncell
        by_cases hjlt : j < N
        · obtain ⟨c1, capc, rfl, _, _⟩ := hfx.x.at1 (by omega)
          have hv0 := hfx.x.vcell
          obtain ⟨r1, r2⟩ := hfx.x.reads hlt hjlt
          have HX := hid (HHas.out _ _ _ _ i j hj2)
          have HY := hid (HA1.out _ _ _ _ i j hlt hjlt hj2)
          have HJ2 := hid hj2
          have hi' : ((i : Int)).toNat = i := by omega
          have hj' : ((j : Int)).toNat = j := by omega
          clear hj2 hfx
          cases hm : m i j
          · rw [hm] at r2
            cases hk : k i j
            · rw [hk] at HX
              have hU : pU m k i j = false := by unfold pU; rw [hm, hk]; rfl
              have hJb := HJ2.out
              rw [← fillF_no (P := pU m k) (N := N) (a := i) (b := j) hU] at hJb
              have HJb := hid hJb
              clear hJb HJ2 HY hm hk hU
              go_wp2_with (go_at_call 17; refine HX.out.mono ?_; clear HX; rintro e' w8 ⟨rfl, rfl⟩; refine Hid.out ?_)
              clear r1 r2 hc0 hv0
              have hfx := HFx.out.then HJb.out.bel
              have hc0 := hfx.x.ncell
              have hv0 := hfx.x.vcell
              obtain ⟨r1, r2⟩ := hfx.x.reads hjlt hlt
              clear hfx
              cases hmt : m j i
              · rw [hmt] at r2
                have hJc := HJb.out
                rw [← fillF_no (P := pT m) (N := N) (a := i) (b := j) hmt] at hJc
                have HJc := hid hJc
                clear hJc HJb hmt
                refine hid ?_
                go_wp2
                go_loopw [18] (fun v3 wr3 => ∃ c : Nat, c ≤ N ∧ v3 = .int .i64 c ∧ J3 w5 wr3 N x y z (fillF (pU m k) N i (j + 1)) (fillF (pT m) N i (j + 1)) (midF (fillF (pA N m k) N i j) i j (anyT (fun c => m i c && k c j) c))) (fun v3 _ => N - (intOf v3).toNat)
                case atStart => exact ⟨0, Nat.zero_le _, rfl, HJc.out⟩
                case round =>
                  obtain ⟨c, hc, rfl, hj3⟩ := hrel
                  clear HJc
                  have hfx := HFx.out.then hj3.bel
                  have hc0 := hfx.x.ncell
                  have hv0 := hfx.x.vcell
                  by_cases hclt : c < N
                  · obtain ⟨r1, r2⟩ := hfx.x.reads hlt hclt
                    have hi' : ((i : Int)).toNat = i := by omega
                    have hc' : ((c : Int)).toNat = c := by omega
                    cases hm : m i c
                    · rw [hm] at r2
                      have hq : (m i c && k c j) = false := by rw [hm]; rfl
                      have hnx : midF (fillF (pA N m k) N i j) i j (anyT (fun c => m i c && k c j) c) = midF (fillF (pA N m k) N i j) i j (anyT (fun c => m i c && k c j) (c + 1)) := midF_no _ _ _ _ _ hq
                      rw [hnx] at hj3
                      have HJ3 := hid hj3
                      clear hj3 hfx hnx hq hm
                      go_wp2
                      go_roundw
                      case rel => exact ⟨c + 1, by omega, by go_num, HJ3.out⟩
                      case measure => simp [intOf]; omega
                    · rw [hm] at r2
                      have HX := hid (HHas.out _ _ _ _ c j hj3)
                      cases hk : k c j
                      · rw [hk] at HX
                        have hq : (m i c && k c j) = false := by rw [hk, hm]; rfl
                        have hnx : midF (fillF (pA N m k) N i j) i j (anyT (fun c => m i c && k c j) c) = midF (fillF (pA N m k) N i j) i j (anyT (fun c => m i c && k c j) (c + 1)) := midF_no _ _ _ _ _ hq
                        rw [hnx] at hj3
                        have HJ3 := hid hj3
                        clear hj3 hfx hnx hq hm hk
                        go_wp2_with (go_at_call 17; refine HX.out.mono ?_; clear HX; rintro e' w9 ⟨rfl, rfl⟩)
                        go_roundw
                        case rel => exact ⟨c + 1, by omega, by go_num, HJ3.out⟩
                        case measure => simp [intOf]; omega
                      · rw [hk] at HX
                        have hq : (m i c && k c j) = true := by rw [hk, hm]; rfl
                        have hnx : addP (midF (fillF (pA N m k) N i j) i j (anyT (fun c => m i c && k c j) c)) i j = midF (fillF (pA N m k) N i j) i j (anyT (fun c => m i c && k c j) (c + 1)) := midF_yes _ _ _ _ _ hq
                        have HY := hid (HA3.out _ _ _ _ i j hlt hjlt hj3)
                        rw [hnx] at HY
                        clear hj3 hfx hnx hq hm hk
                        go_wp2_with (go_at_call 17; refine HX.out.mono ?_; clear HX; rintro e' w9 ⟨rfl, rfl⟩; refine Hid.out ?_)
                        clear r1 r2 hc0 hv0
                        refine hid ?_
                        go_wp2_with (go_at_call 19; refine HY.out.mono ?_; clear HY; rintro e' w9 ⟨rfl, hj9⟩; refine Hid.out ?_)
                        have HJ3 := hid hj9
                        clear hj9
                        refine hid ?_
                        go_wp2
                        go_roundw
                        case rel => exact ⟨c + 1, by omega, by go_num, HJ3.out⟩
                        case measure => simp [intOf]; omega
                  · obtain rfl : c = N := by omega
                    have hend := midF_end (P := pA c m k) (N := c) (a := i) (b := j) hjlt rfl
                    rw [show midF (fillF (pA c m k) c i j) i j (anyT (fun c => m i c && k c j) c) = fillF (pA c m k) c i (j + 1) from hend] at hj3
                    have HJ3 := hid hj3
                    clear hj3 hfx hend
                    go_wp2
                    go_roundw
                    case rel => exact ⟨j + 1, by omega, by go_num, HJ3.out⟩
                    case measure => simp [intOf]; omega
              · rw [hmt] at r2
                have HY := hid (HA2.out _ _ _ _ i j hlt hjlt HJb.out)
                rw [fillF_yes (P := pT m) (N := N) (a := i) (b := j) hjlt hmt] at HY
                clear HJb hmt
                refine hid ?_
                go_wp2_with (go_at_call 19; refine HY.out.mono ?_; clear HY; rintro e' w9 ⟨rfl, hj9⟩; refine Hid.out ?_)
                have HJc := hid hj9
                clear hj9 r1 r2 hc0 hv0
                refine hid ?_
                go_wp2
                go_loopw [18] (fun v3 wr3 => ∃ c : Nat, c ≤ N ∧ v3 = .int .i64 c ∧ J3 w5 wr3 N x y z (fillF (pU m k) N i (j + 1)) (fillF (pT m) N i (j + 1)) (midF (fillF (pA N m k) N i j) i j (anyT (fun c => m i c && k c j) c))) (fun v3 _ => N - (intOf v3).toNat)
                case atStart => exact ⟨0, Nat.zero_le _, rfl, HJc.out⟩
                case round =>
                  obtain ⟨c, hc, rfl, hj3⟩ := hrel
                  clear HJc
                  have hfx := HFx.out.then hj3.bel
                  have hc0 := hfx.x.ncell
                  have hv0 := hfx.x.vcell
                  by_cases hclt : c < N
                  · obtain ⟨r1, r2⟩ := hfx.x.reads hlt hclt
                    have hi' : ((i : Int)).toNat = i := by omega
                    have hc' : ((c : Int)).toNat = c := by omega
                    cases hm : m i c
                    · rw [hm] at r2
                      have hq : (m i c && k c j) = false := by rw [hm]; rfl
                      have hnx : midF (fillF (pA N m k) N i j) i j (anyT (fun c => m i c && k c j) c) = midF (fillF (pA N m k) N i j) i j (anyT (fun c => m i c && k c j) (c + 1)) := midF_no _ _ _ _ _ hq
                      rw [hnx] at hj3
                      have HJ3 := hid hj3
                      clear hj3 hfx hnx hq hm
                      go_wp2
                      go_roundw
                      case rel => exact ⟨c + 1, by omega, by go_num, HJ3.out⟩
                      case measure => simp [intOf]; omega
                    · rw [hm] at r2
                      have HX := hid (HHas.out _ _ _ _ c j hj3)
                      cases hk : k c j
                      · rw [hk] at HX
                        have hq : (m i c && k c j) = false := by rw [hk, hm]; rfl
                        have hnx : midF (fillF (pA N m k) N i j) i j (anyT (fun c => m i c && k c j) c) = midF (fillF (pA N m k) N i j) i j (anyT (fun c => m i c && k c j) (c + 1)) := midF_no _ _ _ _ _ hq
                        rw [hnx] at hj3
                        have HJ3 := hid hj3
                        clear hj3 hfx hnx hq hm hk
                        go_wp2_with (go_at_call 17; refine HX.out.mono ?_; clear HX; rintro e' w9 ⟨rfl, rfl⟩)
                        go_roundw
                        case rel => exact ⟨c + 1, by omega, by go_num, HJ3.out⟩
                        case measure => simp [intOf]; omega
                      · rw [hk] at HX
                        have hq : (m i c && k c j) = true := by rw [hk, hm]; rfl
                        have hnx : addP (midF (fillF (pA N m k) N i j) i j (anyT (fun c => m i c && k c j) c)) i j = midF (fillF (pA N m k) N i j) i j (anyT (fun c => m i c && k c j) (c + 1)) := midF_yes _ _ _ _ _ hq
                        have HY := hid (HA3.out _ _ _ _ i j hlt hjlt hj3)
                        rw [hnx] at HY
                        clear hj3 hfx hnx hq hm hk
                        go_wp2_with (go_at_call 17; refine HX.out.mono ?_; clear HX; rintro e' w9 ⟨rfl, rfl⟩; refine Hid.out ?_)
                        clear r1 r2 hc0 hv0
                        refine hid ?_
                        go_wp2_with (go_at_call 19; refine HY.out.mono ?_; clear HY; rintro e' w9 ⟨rfl, hj9⟩; refine Hid.out ?_)
                        have HJ3 := hid hj9
                        clear hj9
                        refine hid ?_
                        go_wp2
                        go_roundw
                        case rel => exact ⟨c + 1, by omega, by go_num, HJ3.out⟩
                        case measure => simp [intOf]; omega
                  · obtain rfl : c = N := by omega
                    have hend := midF_end (P := pA c m k) (N := c) (a := i) (b := j) hjlt rfl
                    rw [show midF (fillF (pA c m k) c i j) i j (anyT (fun c => m i c && k c j) c) = fillF (pA c m k) c i (j + 1) from hend] at hj3
                    have HJ3 := hid hj3
                    clear hj3 hfx hend
                    go_wp2
                    go_roundw
                    case rel => exact ⟨j + 1, by omega, by go_num, HJ3.out⟩
                    case measure => simp [intOf]; omega
            · rw [hk] at HX
              have hU : pU m k i j = true := by unfold pU; rw [hm, hk]; rfl
              rw [fillF_yes (P := pU m k) (N := N) (a := i) (b := j) hjlt hU] at HY
              clear HJ2 hm hk hU
              go_wp2_with (go_at_call 17; refine HX.out.mono ?_; clear HX; rintro e' w8 ⟨rfl, rfl⟩; refine Hid.out ?_)
              clear r1 r2 hc0 hv0
              refine hid ?_
              go_wp2_with (go_at_call 19; refine HY.out.mono ?_; clear HY; rintro e' w8 ⟨rfl, hj8⟩; refine Hid.out ?_)
              have HJb := hid hj8
              clear hj8
              have hfx := HFx.out.then HJb.out.bel
              have hc0 := hfx.x.ncell
              have hv0 := hfx.x.vcell
              obtain ⟨r1, r2⟩ := hfx.x.reads hjlt hlt
              clear hfx
              cases hmt : m j i
              · rw [hmt] at r2
                have hJc := HJb.out
                rw [← fillF_no (P := pT m) (N := N) (a := i) (b := j) hmt] at hJc
                have HJc := hid hJc
                clear hJc HJb hmt
                refine hid ?_
                go_wp2
                go_loopw [18] (fun v3 wr3 => ∃ c : Nat, c ≤ N ∧ v3 = .int .i64 c ∧ J3 w5 wr3 N x y z (fillF (pU m k) N i (j + 1)) (fillF (pT m) N i (j + 1)) (midF (fillF (pA N m k) N i j) i j (anyT (fun c => m i c && k c j) c))) (fun v3 _ => N - (intOf v3).toNat)
                case atStart => exact ⟨0, Nat.zero_le _, rfl, HJc.out⟩
                case round =>
                  obtain ⟨c, hc, rfl, hj3⟩ := hrel
                  clear HJc
                  have hfx := HFx.out.then hj3.bel
                  have hc0 := hfx.x.ncell
                  have hv0 := hfx.x.vcell
                  by_cases hclt : c < N
                  · obtain ⟨r1, r2⟩ := hfx.x.reads hlt hclt
                    have hi' : ((i : Int)).toNat = i := by omega
                    have hc' : ((c : Int)).toNat = c := by omega
                    cases hm : m i c
                    · rw [hm] at r2
                      have hq : (m i c && k c j) = false := by rw [hm]; rfl
                      have hnx : midF (fillF (pA N m k) N i j) i j (anyT (fun c => m i c && k c j) c) = midF (fillF (pA N m k) N i j) i j (anyT (fun c => m i c && k c j) (c + 1)) := midF_no _ _ _ _ _ hq
                      rw [hnx] at hj3
                      have HJ3 := hid hj3
                      clear hj3 hfx hnx hq hm
                      go_wp2
                      go_roundw
                      case rel => exact ⟨c + 1, by omega, by go_num, HJ3.out⟩
                      case measure => simp [intOf]; omega
                    · rw [hm] at r2
                      have HX := hid (HHas.out _ _ _ _ c j hj3)
                      cases hk : k c j
                      · rw [hk] at HX
                        have hq : (m i c && k c j) = false := by rw [hk, hm]; rfl
                        have hnx : midF (fillF (pA N m k) N i j) i j (anyT (fun c => m i c && k c j) c) = midF (fillF (pA N m k) N i j) i j (anyT (fun c => m i c && k c j) (c + 1)) := midF_no _ _ _ _ _ hq
                        rw [hnx] at hj3
                        have HJ3 := hid hj3
                        clear hj3 hfx hnx hq hm hk
                        go_wp2_with (go_at_call 17; refine HX.out.mono ?_; clear HX; rintro e' w9 ⟨rfl, rfl⟩)
                        go_roundw
                        case rel => exact ⟨c + 1, by omega, by go_num, HJ3.out⟩
                        case measure => simp [intOf]; omega
                      · rw [hk] at HX
                        have hq : (m i c && k c j) = true := by rw [hk, hm]; rfl
                        have hnx : addP (midF (fillF (pA N m k) N i j) i j (anyT (fun c => m i c && k c j) c)) i j = midF (fillF (pA N m k) N i j) i j (anyT (fun c => m i c && k c j) (c + 1)) := midF_yes _ _ _ _ _ hq
                        have HY := hid (HA3.out _ _ _ _ i j hlt hjlt hj3)
                        rw [hnx] at HY
                        clear hj3 hfx hnx hq hm hk
                        go_wp2_with (go_at_call 17; refine HX.out.mono ?_; clear HX; rintro e' w9 ⟨rfl, rfl⟩; refine Hid.out ?_)
                        clear r1 r2 hc0 hv0
                        refine hid ?_
                        go_wp2_with (go_at_call 19; refine HY.out.mono ?_; clear HY; rintro e' w9 ⟨rfl, hj9⟩; refine Hid.out ?_)
                        have HJ3 := hid hj9
                        clear hj9
                        refine hid ?_
                        go_wp2
                        go_roundw
                        case rel => exact ⟨c + 1, by omega, by go_num, HJ3.out⟩
                        case measure => simp [intOf]; omega
                  · obtain rfl : c = N := by omega
                    have hend := midF_end (P := pA c m k) (N := c) (a := i) (b := j) hjlt rfl
                    rw [show midF (fillF (pA c m k) c i j) i j (anyT (fun c => m i c && k c j) c) = fillF (pA c m k) c i (j + 1) from hend] at hj3
                    have HJ3 := hid hj3
                    clear hj3 hfx hend
                    go_wp2
                    go_roundw
                    case rel => exact ⟨j + 1, by omega, by go_num, HJ3.out⟩
                    case measure => simp [intOf]; omega
              · rw [hmt] at r2
                have HY := hid (HA2.out _ _ _ _ i j hlt hjlt HJb.out)
                rw [fillF_yes (P := pT m) (N := N) (a := i) (b := j) hjlt hmt] at HY
                clear HJb hmt
                refine hid ?_
                go_wp2_with (go_at_call 19; refine HY.out.mono ?_; clear HY; rintro e' w9 ⟨rfl, hj9⟩; refine Hid.out ?_)
                have HJc := hid hj9
                clear hj9 r1 r2 hc0 hv0
                refine hid ?_
                go_wp2
                go_loopw [18] (fun v3 wr3 => ∃ c : Nat, c ≤ N ∧ v3 = .int .i64 c ∧ J3 w5 wr3 N x y z (fillF (pU m k) N i (j + 1)) (fillF (pT m) N i (j + 1)) (midF (fillF (pA N m k) N i j) i j (anyT (fun c => m i c && k c j) c))) (fun v3 _ => N - (intOf v3).toNat)
                case atStart => exact ⟨0, Nat.zero_le _, rfl, HJc.out⟩
                case round =>
                  obtain ⟨c, hc, rfl, hj3⟩ := hrel
                  clear HJc
                  have hfx := HFx.out.then hj3.bel
                  have hc0 := hfx.x.ncell
                  have hv0 := hfx.x.vcell
                  by_cases hclt : c < N
                  · obtain ⟨r1, r2⟩ := hfx.x.reads hlt hclt
                    have hi' : ((i : Int)).toNat = i := by omega
                    have hc' : ((c : Int)).toNat = c := by omega
                    cases hm : m i c
                    · rw [hm] at r2
                      have hq : (m i c && k c j) = false := by rw [hm]; rfl
                      have hnx : midF (fillF (pA N m k) N i j) i j (anyT (fun c => m i c && k c j) c) = midF (fillF (pA N m k) N i j) i j (anyT (fun c => m i c && k c j) (c + 1)) := midF_no _ _ _ _ _ hq
                      rw [hnx] at hj3
                      have HJ3 := hid hj3
                      clear hj3 hfx hnx hq hm
                      go_wp2
                      go_roundw
                      case rel => exact ⟨c + 1, by omega, by go_num, HJ3.out⟩
                      case measure => simp [intOf]; omega
                    · rw [hm] at r2
                      have HX := hid (HHas.out _ _ _ _ c j hj3)
                      cases hk : k c j
                      · rw [hk] at HX
                        have hq : (m i c && k c j) = false := by rw [hk, hm]; rfl
                        have hnx : midF (fillF (pA N m k) N i j) i j (anyT (fun c => m i c && k c j) c) = midF (fillF (pA N m k) N i j) i j (anyT (fun c => m i c && k c j) (c + 1)) := midF_no _ _ _ _ _ hq
                        rw [hnx] at hj3
                        have HJ3 := hid hj3
                        clear hj3 hfx hnx hq hm hk
                        go_wp2_with (go_at_call 17; refine HX.out.mono ?_; clear HX; rintro e' w9 ⟨rfl, rfl⟩)
                        go_roundw
                        case rel => exact ⟨c + 1, by omega, by go_num, HJ3.out⟩
                        case measure => simp [intOf]; omega
                      · rw [hk] at HX
                        have hq : (m i c && k c j) = true := by rw [hk, hm]; rfl
                        have hnx : addP (midF (fillF (pA N m k) N i j) i j (anyT (fun c => m i c && k c j) c)) i j = midF (fillF (pA N m k) N i j) i j (anyT (fun c => m i c && k c j) (c + 1)) := midF_yes _ _ _ _ _ hq
                        have HY := hid (HA3.out _ _ _ _ i j hlt hjlt hj3)
                        rw [hnx] at HY
                        clear hj3 hfx hnx hq hm hk
                        go_wp2_with (go_at_call 17; refine HX.out.mono ?_; clear HX; rintro e' w9 ⟨rfl, rfl⟩; refine Hid.out ?_)
                        clear r1 r2 hc0 hv0
                        refine hid ?_
                        go_wp2_with (go_at_call 19; refine HY.out.mono ?_; clear HY; rintro e' w9 ⟨rfl, hj9⟩; refine Hid.out ?_)
                        have HJ3 := hid hj9
                        clear hj9
                        refine hid ?_
                        go_wp2
                        go_roundw
                        case rel => exact ⟨c + 1, by omega, by go_num, HJ3.out⟩
                        case measure => simp [intOf]; omega
                  · obtain rfl : c = N := by omega
                    have hend := midF_end (P := pA c m k) (N := c) (a := i) (b := j) hjlt rfl
                    rw [show midF (fillF (pA c m k) c i j) i j (anyT (fun c => m i c && k c j) c) = fillF (pA c m k) c i (j + 1) from hend] at hj3
                    have HJ3 := hid hj3
                    clear hj3 hfx hend
                    go_wp2
                    go_roundw
                    case rel => exact ⟨j + 1, by omega, by go_num, HJ3.out⟩
                    case measure => simp [intOf]; omega
          · rw [hm] at r2
            have hU : pU m k i j = true := by unfold pU; rw [hm]; rfl
            rw [fillF_yes (P := pU m k) (N := N) (a := i) (b := j) hjlt hU] at HY
            clear HJ2 hm hU HX
            go_wp2_with (go_at_call 19; refine HY.out.mono ?_; clear HY; rintro e' w8 ⟨rfl, hj8⟩; refine Hid.out ?_)
            clear r1 r2 hc0 hv0
            have HJb := hid hj8
            clear hj8
            have hfx := HFx.out.then HJb.out.bel
            have hc0 := hfx.x.ncell
            have hv0 := hfx.x.vcell
            obtain ⟨r1, r2⟩ := hfx.x.reads hjlt hlt
            clear hfx
            cases hmt : m j i
            · rw [hmt] at r2
              have hJc := HJb.out
              rw [← fillF_no (P := pT m) (N := N) (a := i) (b := j) hmt] at hJc
              have HJc := hid hJc
              clear hJc HJb hmt
              refine hid ?_
              go_wp2
              go_loopw [18] (fun v3 wr3 => ∃ c : Nat, c ≤ N ∧ v3 = .int .i64 c ∧ J3 w5 wr3 N x y z (fillF (pU m k) N i (j + 1)) (fillF (pT m) N i (j + 1)) (midF (fillF (pA N m k) N i j) i j (anyT (fun c => m i c && k c j) c))) (fun v3 _ => N - (intOf v3).toNat)
              case atStart => exact ⟨0, Nat.zero_le _, rfl, HJc.out⟩
              case round =>
                obtain ⟨c, hc, rfl, hj3⟩ := hrel
                clear HJc
                have hfx := HFx.out.then hj3.bel
                have hc0 := hfx.x.ncell
                have hv0 := hfx.x.vcell
                by_cases hclt : c < N
                · obtain ⟨r1, r2⟩ := hfx.x.reads hlt hclt
                  have hi' : ((i : Int)).toNat = i := by omega
                  have hc' : ((c : Int)).toNat = c := by omega
                  cases hm : m i c
                  · rw [hm] at r2
                    have hq : (m i c && k c j) = false := by rw [hm]; rfl
                    have hnx : midF (fillF (pA N m k) N i j) i j (anyT (fun c => m i c && k c j) c) = midF (fillF (pA N m k) N i j) i j (anyT (fun c => m i c && k c j) (c + 1)) := midF_no _ _ _ _ _ hq
                    rw [hnx] at hj3
                    have HJ3 := hid hj3
                    clear hj3 hfx hnx hq hm
                    go_wp2
                    go_roundw
                    case rel => exact ⟨c + 1, by omega, by go_num, HJ3.out⟩
                    case measure => simp [intOf]; omega
                  · rw [hm] at r2
                    have HX := hid (HHas.out _ _ _ _ c j hj3)
                    cases hk : k c j
                    · rw [hk] at HX
                      have hq : (m i c && k c j) = false := by rw [hk, hm]; rfl
                      have hnx : midF (fillF (pA N m k) N i j) i j (anyT (fun c => m i c && k c j) c) = midF (fillF (pA N m k) N i j) i j (anyT (fun c => m i c && k c j) (c + 1)) := midF_no _ _ _ _ _ hq
                      rw [hnx] at hj3
                      have HJ3 := hid hj3
                      clear hj3 hfx hnx hq hm hk
                      go_wp2_with (go_at_call 17; refine HX.out.mono ?_; clear HX; rintro e' w9 ⟨rfl, rfl⟩)
                      go_roundw
                      case rel => exact ⟨c + 1, by omega, by go_num, HJ3.out⟩
                      case measure => simp [intOf]; omega
                    · rw [hk] at HX
                      have hq : (m i c && k c j) = true := by rw [hk, hm]; rfl
                      have hnx : addP (midF (fillF (pA N m k) N i j) i j (anyT (fun c => m i c && k c j) c)) i j = midF (fillF (pA N m k) N i j) i j (anyT (fun c => m i c && k c j) (c + 1)) := midF_yes _ _ _ _ _ hq
                      have HY := hid (HA3.out _ _ _ _ i j hlt hjlt hj3)
                      rw [hnx] at HY
                      clear hj3 hfx hnx hq hm hk
                      go_wp2_with (go_at_call 17; refine HX.out.mono ?_; clear HX; rintro e' w9 ⟨rfl, rfl⟩; refine Hid.out ?_)
                      clear r1 r2 hc0 hv0
                      refine hid ?_
                      go_wp2_with (go_at_call 19; refine HY.out.mono ?_; clear HY; rintro e' w9 ⟨rfl, hj9⟩; refine Hid.out ?_)
                      have HJ3 := hid hj9
                      clear hj9
                      refine hid ?_
                      go_wp2
                      go_roundw
                      case rel => exact ⟨c + 1, by omega, by go_num, HJ3.out⟩
                      case measure => simp [intOf]; omega
                · obtain rfl : c = N := by omega
                  have hend := midF_end (P := pA c m k) (N := c) (a := i) (b := j) hjlt rfl
                  rw [show midF (fillF (pA c m k) c i j) i j (anyT (fun c => m i c && k c j) c) = fillF (pA c m k) c i (j + 1) from hend] at hj3
                  have HJ3 := hid hj3
                  clear hj3 hfx hend
                  go_wp2
                  go_roundw
                  case rel => exact ⟨j + 1, by omega, by go_num, HJ3.out⟩
                  case measure => simp [intOf]; omega
            · rw [hmt] at r2
              have HY := hid (HA2.out _ _ _ _ i j hlt hjlt HJb.out)
              rw [fillF_yes (P := pT m) (N := N) (a := i) (b := j) hjlt hmt] at HY
              clear HJb hmt
              refine hid ?_
              go_wp2_with (go_at_call 19; refine HY.out.mono ?_; clear HY; rintro e' w9 ⟨rfl, hj9⟩; refine Hid.out ?_)
              have HJc := hid hj9
              clear hj9 r1 r2 hc0 hv0
              refine hid ?_
              go_wp2
              go_loopw [18] (fun v3 wr3 => ∃ c : Nat, c ≤ N ∧ v3 = .int .i64 c ∧ J3 w5 wr3 N x y z (fillF (pU m k) N i (j + 1)) (fillF (pT m) N i (j + 1)) (midF (fillF (pA N m k) N i j) i j (anyT (fun c => m i c && k c j) c))) (fun v3 _ => N - (intOf v3).toNat)
              case atStart => exact ⟨0, Nat.zero_le _, rfl, HJc.out⟩
              case round =>
                obtain ⟨c, hc, rfl, hj3⟩ := hrel
                clear HJc
                have hfx := HFx.out.then hj3.bel
                have hc0 := hfx.x.ncell
                have hv0 := hfx.x.vcell
                by_cases hclt : c < N
                · obtain ⟨r1, r2⟩ := hfx.x.reads hlt hclt
                  have hi' : ((i : Int)).toNat = i := by omega
                  have hc' : ((c : Int)).toNat = c := by omega
                  cases hm : m i c
                  · rw [hm] at r2
                    have hq : (m i c && k c j) = false := by rw [hm]; rfl
                    have hnx : midF (fillF (pA N m k) N i j) i j (anyT (fun c => m i c && k c j) c) = midF (fillF (pA N m k) N i j) i j (anyT (fun c => m i c && k c j) (c + 1)) := midF_no _ _ _ _ _ hq
                    rw [hnx] at hj3
                    have HJ3 := hid hj3
                    clear hj3 hfx hnx hq hm
                    go_wp2
                    go_roundw
                    case rel => exact ⟨c + 1, by omega, by go_num, HJ3.out⟩
                    case measure => simp [intOf]; omega
                  · rw [hm] at r2
                    have HX := hid (HHas.out _ _ _ _ c j hj3)
                    cases hk : k c j
                    · rw [hk] at HX
                      have hq : (m i c && k c j) = false := by rw [hk, hm]; rfl
                      have hnx : midF (fillF (pA N m k) N i j) i j (anyT (fun c => m i c && k c j) c) = midF (fillF (pA N m k) N i j) i j (anyT (fun c => m i c && k c j) (c + 1)) := midF_no _ _ _ _ _ hq
                      rw [hnx] at hj3
                      have HJ3 := hid hj3
                      clear hj3 hfx hnx hq hm hk
                      go_wp2_with (go_at_call 17; refine HX.out.mono ?_; clear HX; rintro e' w9 ⟨rfl, rfl⟩)
                      go_roundw
                      case rel => exact ⟨c + 1, by omega, by go_num, HJ3.out⟩
                      case measure => simp [intOf]; omega
                    · rw [hk] at HX
                      have hq : (m i c && k c j) = true := by rw [hk, hm]; rfl
                      have hnx : addP (midF (fillF (pA N m k) N i j) i j (anyT (fun c => m i c && k c j) c)) i j = midF (fillF (pA N m k) N i j) i j (anyT (fun c => m i c && k c j) (c + 1)) := midF_yes _ _ _ _ _ hq
                      have HY := hid (HA3.out _ _ _ _ i j hlt hjlt hj3)
                      rw [hnx] at HY
                      clear hj3 hfx hnx hq hm hk
                      go_wp2_with (go_at_call 17; refine HX.out.mono ?_; clear HX; rintro e' w9 ⟨rfl, rfl⟩; refine Hid.out ?_)
                      clear r1 r2 hc0 hv0
                      refine hid ?_
                      go_wp2_with (go_at_call 19; refine HY.out.mono ?_; clear HY; rintro e' w9 ⟨rfl, hj9⟩; refine Hid.out ?_)
                      have HJ3 := hid hj9
                      clear hj9
                      refine hid ?_
                      go_wp2
                      go_roundw
                      case rel => exact ⟨c + 1, by omega, by go_num, HJ3.out⟩
                      case measure => simp [intOf]; omega
                · obtain rfl : c = N := by omega
                  have hend := midF_end (P := pA c m k) (N := c) (a := i) (b := j) hjlt rfl
                  rw [show midF (fillF (pA c m k) c i j) i j (anyT (fun c => m i c && k c j) c) = fillF (pA c m k) c i (j + 1) from hend] at hj3
                  have HJ3 := hid hj3
                  clear hj3 hfx hend
                  go_wp2
                  go_roundw
                  case rel => exact ⟨j + 1, by omega, by go_num, HJ3.out⟩
                  case measure => simp [intOf]; omega
        · obtain rfl : j = N := by omega
          rw [fillF_next, fillF_next, fillF_next] at hj2
          have HJ2 := hid hj2
          clear hj2 hfx
          go_wp2
          go_roundw
          case rel => exact ⟨i + 1, by omega, by go_num, HJ2.out⟩
          case measure => simp [intOf]; omega
    · obtain rfl : i = N := by omega
      have HX := hid (e_union HFx.out HJ1.out)
      go_wp2_with (go_at_call 20; refine HX.out.mono ?_; clear HX; rintro e' w9 ⟨d0, d1, rfl, hr, hj⟩; refine Hid.out ?_)
      clear hc0
      have HX := hid (e_pairs HFx.out.tz hj hr)
      refine hid ?_
      go_wp2_with (go_at_call 14; refine HX.out.mono ?_; clear HX; rintro e' w9 ⟨u, rfl, hu, hj⟩; refine Hid.out ?_)
      have HX := hid (e_refPairs hj hj.hx hu)
      refine hid ?_
      go_wp2_with (go_at_call 15; refine HX.out.mono ?_; clear HX; rintro e' w9 ⟨u', rfl, hu, hu', hj⟩; refine Hid.out ?_)
      have HX := hid (e_same hN5 hj hu hu')
      refine hid ?_
      go_wp2_with (go_at_call 13; refine HX.out.mono ?_; clear HX; rintro e' w9 ⟨rfl, hj⟩; refine Hid.out ?_)
      have HX := hid (e_turned HFx.out hj)
      refine hid ?_
      go_wp2_with (go_at_call 21; refine HX.out.mono ?_; clear HX; rintro e' w9 ⟨g0, g1, rfl, hr, hj⟩; refine Hid.out ?_)
      have HX := hid (e_pairs HFx.out.tz hj hr)
      refine hid ?_
      go_wp2_with (go_at_call 14; refine HX.out.mono ?_; clear HX; rintro e' w9 ⟨u, rfl, hu, hj⟩; refine Hid.out ?_)
      have HX := hid (e_refPairs hj hj.hy hu)
      refine hid ?_
      go_wp2_with (go_at_call 15; refine HX.out.mono ?_; clear HX; rintro e' w9 ⟨u', rfl, hu, hu', hj⟩; refine Hid.out ?_)
      have HX := hid (e_same hN5 hj hu hu')
      refine hid ?_
      go_wp2_with (go_at_call 13; refine HX.out.mono ?_; clear HX; rintro e' w9 ⟨rfl, hj⟩; refine Hid.out ?_)
      have HX := hid (e_after HFx.out hj)
      refine hid ?_
      go_wp2_with (go_at_call 22; refine HX.out.mono ?_; clear HX; rintro e' w9 ⟨k0, k1, rfl, hr, hj⟩; refine Hid.out ?_)
      have HX := hid (e_pairs HFx.out.tz hj hr)
      refine hid ?_
      go_wp2_with (go_at_call 14; refine HX.out.mono ?_; clear HX; rintro e' w9 ⟨u, rfl, hu, hj⟩; refine Hid.out ?_)
      have HX := hid (e_refPairs hj hj.hz hu)
      refine hid ?_
      go_wp2_with (go_at_call 15; refine HX.out.mono ?_; clear HX; rintro e' w9 ⟨u', rfl, hu, hu', hj⟩; refine Hid.out ?_)
      have HX := hid (e_same hN5 hj hu hu')
      refine hid ?_
      go_wp2_with (go_at_call 13; refine HX.out.mono ?_; clear HX; rintro e' w9 ⟨rfl, hj⟩; refine Hid.out ?_)
      have HX := hid (e_pairs HFx.out.tz hj (HFx.out.then hj.bel).r)
      refine hid ?_
      go_wp2_with (go_at_call 14; refine HX.out.mono ?_; clear HX; rintro e' w9 ⟨u, rfl, hu, hj⟩; refine Hid.out ?_)
      have HX := hid (e_refPairs hj (HFx.out.then hj.bel).x hu)
      refine hid ?_
      go_wp2_with (go_at_call 15; refine HX.out.mono ?_; clear HX; rintro e' w9 ⟨u', rfl, hu, hu', hj⟩; refine Hid.out ?_)
      have HX := hid (e_same hN5 hj hu hu')
      refine hid ?_
      go_wp2_with (go_at_call 13; refine HX.out.mono ?_; clear HX; rintro e' w9 ⟨rfl, hj⟩; refine Hid.out ?_)
      have HE := hid (HW.out.trans (hj.bel.mono HW.out.size))
      refine hid ?_
      go_wp2
      go_ret
      exact ⟨rfl, HE.out⟩
end Go.Proofs.YthmmmbfjhfocfaaDoor
