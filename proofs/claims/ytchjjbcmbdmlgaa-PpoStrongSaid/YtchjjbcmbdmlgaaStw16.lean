/- Layer 16: a record of the reference: step. -/
import Derived.Test.YtchjjbcmbdmlgaaK12
import Derived.Test.YtchjjbcmbdmlgaaAcw16
set_option linter.unusedVariables false
set_option linter.unusedSimpArgs false
namespace Go.Proofs.Ytchjjbcmbdmlgaa
open Go Go.RowKit Sim
section
variable {w : World} {h eb B n : Nat} {M : List Nat} {no : Int} {S : HZ} {e : EvZ} {va vd vc : Value}
set_option maxHeartbeats 8000000 in
set_option maxRecDepth 100000 in
theorem step_w (me : Nat) (H : HtT w h M (me + 1) B n S) (E : EvQ w eb M (me + 1) no e va vd vc) (hne : h ≠ eb)
    (qc qd : Option Addr) (nc cc nd cd : Nat) (vE : Value) (hnc : nc ≤ 262144) (hnd : nd ≤ 4096) (hr : RdW w w.heap.size .u32 qc nc) (pc val sh sa : Int) (wt fl : Bool) (hval : isN val) :
    Calls Try.prog 37 #[.pointer (some ⟨h, 0, none⟩), .agg #[.slice qc nc cc, .slice qd nd cd, vE], .agg (rkA ⟨pc, val, sh, sa, wt, fl⟩), .pointer (some ⟨eb, 0, none⟩), .int .i64 me] w (fun x w' => ∃ k : Int, x = .returned (.int .i64 k) ∧ StP w w' h eb M (me + 1) B n no S) := by
  have H0 := hid (StI.start H E hne #[.slice qc nc cc, .slice qd nd cd, vE] rfl ⟨pc, val, sh, sa, wt, fl⟩)
  have HB0 := hid (((Below.refl w.heap.size w).alloc (Nat.le_refl _) (.cells #[.slice qc nc cc, .slice qd nd cd, vE] 25)).alloc (by simp) (.cells (rkA ⟨pc, val, sh, sa, wt, fl⟩) 81))
  have HRd := fun op W => reader_ret (gl := fun _ => none) op W (GlobOk.none W)
  have HWr := fun op W => writer_ret (gl := fun _ => none) op W (GlobOk.none W)
  have HRd := hid HRd
  have HWr := hid HWr
  have hr := hid hr
  have HM := hid (fun x hx => H.lt x hx)
  clear H E
  go_enter Try.func37, Try.ntmps37
  go_upto_region 1 with (fail)
  generalize ((w.alloc _).alloc _) = W0 at H0 HB0 ⊢
  have c97 := H0.out.ht.ok.csu
  generalize S.su = su at c97
  cases su
  · go_wp2
    go_ret
    exact ⟨_, rfl, H0.out.out⟩
  · go_upto_region 3 with (fail)
    have r0 : W0.cell? ⟨w.heap.size + 1, 0, none⟩ = some (.int .i64 pc) := H0.out.b1.cell (i := 0) (by omega)
    have c96 := H0.out.ht.ok.cpc
    generalize S.pc = spc at c96
    go_quiet (fail)
    have H1 := hid (H0.out.same (below_draws (Below.refl _ W0) nq))
    have HB1 := hid (below_draws HB0.out nq)
    clear r0 c96 c97 H0 HB0
    generalize W0.drewN nq = W1 at H1 HB1 ⊢
    generalize (pc != spc) = u
    cases u
    case true =>
      go_wp2
      go_ret
      exact ⟨_, rfl, H1.out.out⟩
    case false =>
      have i0 := load_image H1.out.b0
      have r0 : W1.cell? ⟨w.heap.size + 1, 0, none⟩ = some (.int .i64 pc) := H1.out.b1.cell (i := 0) (by omega)
      have hr1 : RdW W1 W1.heap.size .u32 qc nc := fun hp => by
        obtain ⟨b, o, e1, h1, h2⟩ := (hr.out.below HB1.out) hp
        exact ⟨b, o, e1, Nat.lt_of_lt_of_le h1 HB1.out.size, h2⟩
      have HFe := hid (fetch_w qc nc cc (.slice qd nd cd) vE pc hnc W1 hr1)
      clear hr1
      go_upto_if 34 with (first
        | (go_at_call 52; refine HFe.out.mono ?_; rintro x W2 ⟨i, ok, rfl, hi, hB2⟩; have H2 := hid (H1.out.same hB2); have HI := hid (Hb.instr W2 in0 41); have Hi := hid hi; clear hB2 hi i0 r0)
        | (refine wp_ld_of rfl _ _ rfl rfl i0 ?_)
        | (refine wp_st_of rfl _ _ _ rfl rfl rfl (st_instr HI.out i) ?_))
      have hB3 : Below W2.heap.size W2 ((W2.alloc (.cells (inA in0) 41)).setCells W2.heap.size 0 (inA i).toList) := (Fr.sets (T := []) (.inl (Nat.le_refl _)) _ _ ((Fr.refl [] W2).alloc _)).to_below
      have H3 := hid (H2.out.same hB3)
      have HI3 := hid (HI.out.storeI i)
      clear HI H2 hB3 HB1 HFe H1
      generalize (W2.alloc (.cells (inA in0) 41)).setCells W2.heap.size 0 (inA i).toList = W3 at H3 HI3 ⊢
      obtain ⟨ib, hib⟩ : ∃ b, b = W2.heap.size := ⟨_, rfl⟩
      rw [← hib] at HI3 ⊢
      clear hib
      cases ok
      case false =>
        go_wp2
        go_ret
        exact ⟨_, rfl, H3.out.out⟩
      case true =>
        have v0 := load_instr HI3.out i (o := 0) (fun k hk => by rw [Nat.zero_add]) (by omega)
        have hne3 : eb ≠ ib := fun he => by
          have h1 := H3.out.ev.row
          have h2 := HI3.out
          rw [he] at h1
          obtain ⟨cs, a1, _⟩ := h1
          obtain ⟨cs', a2, _⟩ := h2
          rw [a1] at a2
          simp at a2
          exact absurd a2.2 (by decide)
        have hT : Fr [eb] W3 (W3.setCells eb 3 (inA i).toList) := Fr.sets (.inr List.mem_cons_self) _ _ (Fr.refl _ W3)
        have H4 := hid (H3.out.turn hT (H3.out.ev.instr Hi.out))
        have HI4 := hid (HI3.out.fr hT (by simpa using hne3.symm))
        have st3 := st_instr_at (o := 3) H3.out.ev.row (by omega) i
        clear hT
        go_upto_region 9 with (first
          | (refine wp_ld_of rfl _ _ rfl rfl v0 ?_)
          | (refine wp_st_at rfl _ _ _ rfl rfl rfl st3 ?_))
        clear st3 v0 HI3 H3
        generalize W3.setCells eb 3 (inA i).toList = W4 at H4 HI4 ⊢
        simp only [Act.put]
        obtain ⟨lq, lm, lc, lF, el, _⟩ := id H4.out.ht.ok.ct
        have c98 := H4.out.ht.ok.cct
        have Lc := H4.out.ht.ok.ct
        rw [el] at c98 Lc
        have c22 := H4.out.ev.c22
        have f22 := H4.out.ev.row.free 22
        have hT : Fr [eb] W4 (W4.setCell ⟨eb, 22, none⟩ (.slice lq lm lc)) := (Fr.refl [eb] _).set (.inr List.mem_cons_self) _
        have H5 := hid (H4.out.turn hT (H4.out.ev.setC _ Lc))
        have HI5 := hid (HI4.out.fr hT (by simpa using hne3.symm))
        clear el Lc hT
        go_upto_region 10 with (fail)
        clear c98 c22 f22 HI4 H4
        generalize W4.setCell ⟨eb, 22, none⟩ (.slice lq lm lc) = W5 at H5 HI5 ⊢
        obtain ⟨op, rd, a, b, imm, aq, rl⟩ := i
        obtain ⟨q1, q2, q3, q4, q5, q6⟩ := Hi.out
        simp only at q1 q2 q3 q4
        obtain ⟨rd, rfl⟩ : ∃ k : Nat, rd = (k : Int) := ⟨rd.toNat, by omega⟩
        obtain ⟨a, rfl⟩ : ∃ k : Nat, a = (k : Int) := ⟨a.toNat, by omega⟩
        obtain ⟨b, rfl⟩ : ∃ k : Nat, b = (k : Int) := ⟨b.toNat, by omega⟩
        have q2 : rd < 32 := by omega
        have q3 : a < 32 := by omega
        have q4 : b < 32 := by omega
        clear q1 q5 q6
        obtain ⟨u1, hu1⟩ : ∃ u, readZ op = u := ⟨_, rfl⟩
        obtain ⟨u2, hu2⟩ : ∃ u, writeZ op = u := ⟨_, rfl⟩
        have HR1 := hid (HRd.out op)
        have HR2 := hid (HWr.out op)
        rw [hu1] at HR1
        rw [hu2] at HR2
        clear hu1 hu2 HRd HWr
        go_cut [58] from 400 (fun s W => ∃ y : Bool, s = .bool y ∧ Below W5.heap.size W5 W)
        case first =>
          have p0 : W5.cell? ⟨ib, 0, none⟩ = some (.int .i64 op) := HI5.out.cell (i := 0) (by omega)
          have HI6 := hid (fun W' (hB : Below W5.heap.size W5 W') => HI5.out.below hB HI5.out.lt)
          by_cases g0 : op = 0
          · subst g0
            go_wp2
            go_meet
            case rel => exact ⟨_, rfl, Below.refl _ _⟩
          · have g0 : (op == 0) = false := by simpa using g0
            cases u1
            · go_wp2_with (first
                | (go_at_call 53; refine (HR1.out _).mono ?_; rintro x W6 ⟨rfl, hB6⟩; have HB6 := hid hB6; have p1 : W6.cell? ⟨ib, 0, none⟩ = some (.int .i64 op) := (HI6.out _ hB6).cell (i := 0) (by omega); clear hB6)
                | (go_at_call 54; refine (HR2.out _).mono ?_; rintro x W7 ⟨rfl, hB7⟩; have HB7 := hid (HB6.out.trans (hB7.mono HB6.out.size)); clear hB7))
              go_meet
              case rel => exact ⟨_, rfl, HB7.out⟩
            · go_wp2_with (go_at_call 53; refine (HR1.out _).mono ?_; rintro x W6 ⟨rfl, hB6⟩; have HB6 := hid hB6; clear hB6)
              go_meet
              case rel => exact ⟨_, rfl, HB6.out⟩
        case rest =>
          obtain ⟨y, rfl, hB⟩ := hcut
          have H6 := hid (H5.out.same hB)
          have HI6 := hid (HI5.out.below hB HI5.out.lt)
          clear hB H5 HI5
          have hm : ∀ x, x ∈ M → x < wc.heap.size := H6.out.ht.lt
          have HAc := hid (access_w me rfl H6.out.ht.ok rfl H6.out.ev rfl hne hm (.slice qc nc cc) vE qd nd cd hnd op imm rd a b aq rl q2 q3 q4 pc val sh sa wt fl hval)
          have HPl := hid (plain_w H6.out.ht ⟨op, rd, a, b, imm, aq, rl⟩ Hi.out pc)
          have v0 := load_instr HI6.out ⟨op, rd, a, b, imm, aq, rl⟩ (o := 0) (fun k hk => by rw [Nat.zero_add]) (by omega)
          have r0 := load_rec H6.out.b1
          have p0 : wc.cell? ⟨w.heap.size + 1, 0, none⟩ = some (.int .i64 pc) := H6.out.b1.cell (i := 0) (by omega)
          have i0 := load_image H6.out.b0
          clear hm
          cases y
          case true =>
            go_wp2_with (first
              | (go_at_call 55; refine HAc.out.mono ?_; rintro x W8 ⟨k, rfl, hA⟩; have HA := hid hA; clear hA)
              | (refine wp_ld_of rfl _ _ rfl rfl v0 ?_)
              | (refine wp_ld_of rfl _ _ rfl rfl r0 ?_)
              | (refine wp_ld_of rfl _ _ rfl rfl i0 ?_))
            go_ret
            exact ⟨_, rfl, H6.out.acs HA.out⟩
          case false =>
            go_upto_region 13 with (first
              | (go_at_call 56; refine HPl.out.mono ?_; rintro x W8 ⟨k, rfl, hA⟩; have HA := hid hA; clear hA)
              | (refine wp_ld_of rfl _ _ rfl rfl v0 ?_))
            have HO := hid (H6.out.pln HA.out)
            have HB := hid (H6.out.b1_pln (fun x hx => HM.out x hx) HA.out)
            clear v0 r0 p0 i0 HA HPl HAc
            by_cases g0 : k = 0
            · subst g0
              go_upto_region 15 with (fail)
              go_cut [96] from 400 (fun s W => ∃ y : Bool, s = .bool y ∧ W8 = W)
              case first =>
                have p1 : W8.cell? ⟨w.heap.size + 1, 1, none⟩ = some (.int .i64 val) := HB.out.cell (i := 1) (by omega)
                have p2 : W8.cell? ⟨w.heap.size + 1, 2, none⟩ = some (.int .i64 sh) := HB.out.cell (i := 2) (by omega)
                have p3 : W8.cell? ⟨w.heap.size + 1, 3, none⟩ = some (.int .i64 sa) := HB.out.cell (i := 3) (by omega)
                have p4 : W8.cell? ⟨w.heap.size + 1, 4, none⟩ = some (.bool wt) := HB.out.cell (i := 4) (by omega)
                have p5 : W8.cell? ⟨w.heap.size + 1, 5, none⟩ = some (.bool fl) := HB.out.cell (i := 5) (by omega)
                cases wt
                · cases fl
                  · by_cases g1 : val = 0
                    · subst g1
                      by_cases g2 : sh = -1
                      · subst g2
                        go_wp2
                        go_meet
                        case rel => exact ⟨_, rfl, rfl⟩
                      · have g2 : (sh == -1) = false := by simpa using g2
                        go_wp2
                        go_meet
                        case rel => exact ⟨_, rfl, rfl⟩
                    · have g1 : (val == 0) = false := by simpa using g1
                      go_wp2
                      go_meet
                      case rel => exact ⟨_, rfl, rfl⟩
                  · go_wp2
                    go_meet
                    case rel => exact ⟨_, rfl, rfl⟩
                · go_wp2
                  go_meet
                  case rel => exact ⟨_, rfl, rfl⟩
              case rest =>
                obtain ⟨y, rfl, rfl⟩ := hcut
                cases y
                all_goals
                  go_wp2
                  go_ret
                  exact ⟨_, rfl, HO.out⟩
            · have g0 : (k == 0) = false := by simpa using g0
              go_wp2
              go_ret
              exact ⟨_, rfl, HO.out⟩
end
end Go.Proofs.Ytchjjbcmbdmlgaa
