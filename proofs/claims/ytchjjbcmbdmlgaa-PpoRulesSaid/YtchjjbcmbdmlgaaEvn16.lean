/- Layer 16: the laws' events. -/
import Derived.Test.YtchjjbcmbdmlgaaRnr16
set_option linter.unusedVariables false
set_option linter.unusedSimpArgs false
namespace Go.Proofs.Ytchjjbcmbdmlgaa
open Go Go.RowKit Sim
set_option maxHeartbeats 4000000 in
set_option maxRecDepth 100000 in
theorem events_w (qc qd qe qh qr : Option Addr) (nc cc nd cd ne ce nh ch nr cr : Nat) (L : Nat → Nat) (hn : nc ≤ maxLen) (hnd : nd ≤ maxLen) (w : World) (hcode : RdW w w.heap.size .u32 qc nc) (hent : RdW w w.heap.size .i64 qe ne) (hc : CdW w w.heap.size qh nh qr nr) (hN : CdN w w.heap.size qh nh L) :
    Calls Try.prog 6 #[.agg #[.slice qc nc cc, .slice qd nd cd, .slice qe ne ce], .agg #[.slice qh nh ch, .slice qr nr cr]] w (fun x w' => ∃ v n E, x = .returned v ∧ EvsOk w' v n E ∧ n ≤ 120 ∧ Below w.heap.size w w') := by
  have HB0 := hid (((Below.refl w.heap.size w).alloc (Nat.le_refl _) (.cells #[.slice qc nc cc, .slice qd nd cd, .slice qe ne ce] 25)).alloc (by simp) (.cells #[.slice qh nh ch, .slice qr nr cr] 29))
  have H2 := hid ((Hb.arr w #[.slice qc nc cc, .slice qd nd cd, .slice qe ne ce] 25).alloc (.cells #[.slice qh nh ch, .slice qr nr cr] 29))
  have h3 := Hb.arr (w.alloc (.cells #[.slice qc nc cc, .slice qd nd cd, .slice qe ne ce] 25)) #[.slice qh nh ch, .slice qr nr cr] 29
  rw [World.size_alloc] at h3
  have H3 := hid h3
  have Hn := hid hn
  have Hnd := hid hnd
  have Hc := hid hc
  have HN := hid hN
  have HC := hid hcode
  have HE := hid hent
  have HnR := hid hc.lr
  have HnH := hid hc.lh
  have E0 : EvsZ := ⟨fun _ => ⟨0, 0, 0, ⟨0, 0, 0, 0, 0, false, false⟩, 0, false, false, false, 0, 0, false, 0, 0, false⟩, fun _ => undef, fun _ => undef, fun _ => undef⟩
  clear h3 hcode hent hc hN hn hnd
  go_enter Try.func6, Try.ntmps6
  go_upto_region 1 with (fail)
  generalize (w.alloc _).alloc _ = W0 at HB0 H2 H3 ⊢
  have s0 : W0.cell? ⟨w.heap.size + 1, 0, none⟩ = some (.slice qh nh ch) := H3.out.cell (i := 0) (by simp)
  have s1 : W0.cell? ⟨w.heap.size + 1, 1, none⟩ = some (.slice qr nr cr) := H3.out.cell (i := 1) (by simp)
  have t0 : W0.cell? ⟨w.heap.size, 0, none⟩ = some (.slice qc nc cc) := H2.out.cell (i := 0) (by simp)
  have t1 : W0.cell? ⟨w.heap.size, 1, none⟩ = some (.slice qd nd cd) := H2.out.cell (i := 1) (by simp)
  go_upto_block 0 with (fail)
  go_cut [5] from 6 (fun s W => ∃ x : Int, s = .int .i64 x ∧ (nh ≤ 8 → (∀ j, j < nh → L j ≤ 1024) → x = (sumN16 L nh : Nat)) ∧ W0 = W)
  case first =>
    go_wp2
    go_loop [5, 6] (fun s i => ∃ (k : Nat) (x : Int), k ≤ nh ∧ k ≤ 20 ∧ i = .int .i64 k ∧ s = .int .i64 x ∧ (nh ≤ 8 → (∀ j, j < nh → L j ≤ 1024) → x = (sumN16 L k : Nat))) (fun _ i => 20 - (intOf i).toNat)
    case atStart => exact ⟨0, 0, Nat.zero_le _, Nat.zero_le _, rfl, rfl, fun _ _ => rfl⟩
    case round =>
      obtain ⟨k, x, hk, hk2, rfl, rfl, hx⟩ := hrel
      have HX := hid hx
      clear hx
      by_cases h1 : k < nh
      · by_cases h2 : k < 20
        · obtain ⟨b, o, rfl, hb, hy⟩ := (HN.out.below HB0.out) (by omega)
          obtain ⟨q, c, e1, hm, _⟩ := hy k h1
          clear hy
          go_wp2
          go_round
          case rel => exact ⟨k + 1, _, by omega, by omega, by go_num, rfl, fun a1 a2 => by
            have h3 := HX.out a1 a2
            have h4 := a2 k h1
            have h5 := sumN16_le L 1024 k fun j hj => a2 j (by omega)
            rw [h3]
            show wrap64 _ = ((sumN16 L k + L k : Nat) : Int)
            unfold wrap64
            omega⟩
          case measure => simp [intOf]; omega
        · have d2 : decide ((k : Int) < 20) = false := decide_eq_false (by omega)
          go_wp2
          go_meet
          case rel => exact ⟨_, rfl, fun a1 a2 => by omega, rfl⟩
      · obtain rfl : k = nh := by omega
        go_wp2
        go_meet
        case rel => exact ⟨_, rfl, HX.out, rfl⟩
  case rest =>
    obtain ⟨x, rfl, hx, rfl⟩ := hcut
    have HX := hid hx
    clear hx
    go_upto_region 6 with (fail)
    go_cut [54] from 400 (fun s W => ∃ y : Bool, s = .bool y ∧ (y = false → x ≤ 120) ∧ W0 = W)
    case first =>
      by_cases h1 : 120 < x
      · go_wp2
        go_meet
        case rel => exact ⟨true, rfl, (fun h => by cases h), rfl⟩
      · have h1' : x ≤ 120 := by omega
        by_cases h2 : 20 < nh
        · go_wp2
          go_meet
          case rel => exact ⟨true, rfl, (fun h => by cases h), rfl⟩
        · by_cases h3 : 1000 < nc
          · go_wp2
            go_meet
            case rel => exact ⟨true, rfl, (fun h => by cases h), rfl⟩
          · by_cases h4 : 1000 < nd
            · go_wp2
              go_meet
              case rel => exact ⟨true, rfl, (fun h => by cases h), rfl⟩
            · cases h5 : decide (100 < (nr : Int))
              · go_wp2
                go_meet
                case rel => exact ⟨_, by first | rfl | (simp only [gt_iff_lt, h5]), fun _ => h1', rfl⟩
              · go_wp2
                go_meet
                case rel => exact ⟨_, by first | rfl | (simp only [gt_iff_lt, h5]), fun _ => h1', rfl⟩
    case rest =>
      obtain ⟨y, rfl, hy, rfl⟩ := hcut
      cases y
      case true =>
        go_wp2
        go_ret
        exact ⟨_, 0, E0, rfl, EvsOk.empty _ _, by omega, HB0.out⟩
      case false =>
        have hx120 := hy rfl
        have i0 := load_image H2.out
        have j0 := load_cand H3.out
        have up : ∀ {k : IntKind} {q : Option Addr} {n : Nat}, RdW w w.heap.size k q n → RdW W0 W0.heap.size k q n := fun h hp => by
          obtain ⟨b, o, e1, h1, h2⟩ := (h.below HB0.out) hp
          exact ⟨b, o, e1, Nat.lt_of_lt_of_le h1 HB0.out.size, h2⟩
        have hN2 : CdN W0 W0.heap.size qh nh L := fun hp => by
          obtain ⟨b, o, e1, h1, h2⟩ := (HN.out.below HB0.out) hp
          refine ⟨b, o, e1, Nat.lt_of_lt_of_le h1 HB0.out.size, fun j hj => ?_⟩
          obtain ⟨q, c, a1, a2, a3⟩ := h2 j hj
          refine ⟨q, c, a1, a2, fun hp => ?_⟩
          obtain ⟨b', o', b1, b2, b3⟩ := a3 hp
          exact ⟨b', o', b1, Nat.lt_of_lt_of_le b2 HB0.out.size, b3⟩
        have HR := hid (run_w qc qd qe qh qr nc cc nd cd ne ce nh ch nr cr L Hn.out W0 (up HC.out) (up HE.out) ((Hc.out.below HB0.out).grow HB0.out.size) hN2)
        clear up hN2 s0 s1 t0 t1 hy
        go_wp2_with (first
          | (go_at_call 17; refine HR.out.mono ?_; rintro x' W1 ⟨vo, vt, k, rfl, hB1, n, E, hE, hn1, hn2⟩; have HB1 := hid (HB0.out.trans (hB1.mono HB0.out.size)); have HEv := hid hE; have HN1 := hid hn1; have HN2 := hid hn2; clear hB1 hE hn1 hn2)
          | (refine wp_ld_of rfl _ _ rfl rfl i0 ?_)
          | (refine wp_ld_of rfl _ _ rfl rfl j0 ?_))
        go_ret
        refine ⟨_, n, E, rfl, HEv.out, ?_, HB1.out⟩
        rcases HN2.out with h | ⟨h1, h2⟩
        · omega
        · have := HX.out h1 h2
          have := HN1.out
          omega
end Go.Proofs.Ytchjjbcmbdmlgaa
