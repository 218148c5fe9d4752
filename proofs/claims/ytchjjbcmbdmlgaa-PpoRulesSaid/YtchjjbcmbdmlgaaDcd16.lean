/- Layer 16: the reference's decoding answers an instruction whose fields are within their bounds. -/
import Derived.Test.YtchjjbcmbdmlgaaK06
import Derived.Deep.Cut
set_option linter.unusedVariables false
set_option linter.unusedSimpArgs false
namespace Go.Proofs.Ytchjjbcmbdmlgaa
open Go Go.RowKit Sim
def in0 : In := ⟨0, 0, 0, 0, 0, false, false⟩
theorem lt7 {P : Nat → Prop} (h : P 0 ∧ P 1 ∧ P 2 ∧ P 3 ∧ P 4 ∧ P 5 ∧ P 6) : ∀ k, k < 7 → P k := fun k hk => by
  obtain ⟨h0, h1, h2, h3, h4, h5, h6⟩ := h
  have : k = 0 ∨ k = 1 ∨ k = 2 ∨ k = 3 ∨ k = 4 ∨ k = 5 ∨ k = 6 := by omega
  rcases this with rfl | rfl | rfl | rfl | rfl | rfl | rfl <;> assumption
variable (i : In)
theorem inC_rd (x : Int) : ∀ k, k < 7 → updF (inC i) 1 (.int .i64 x) k = inC { i with rd := x } k := lt7 (by simp [updF, inC, inA])
theorem inC_a (x : Int) : ∀ k, k < 7 → updF (inC i) 2 (.int .i64 x) k = inC { i with a := x } k := lt7 (by simp [updF, inC, inA])
theorem inC_b (x : Int) : ∀ k, k < 7 → updF (inC i) 3 (.int .i64 x) k = inC { i with b := x } k := lt7 (by simp [updF, inC, inA])
theorem inC_aq (x : Bool) : ∀ k, k < 7 → updF (inC i) 5 (.bool x) k = inC { i with aq := x } k := lt7 (by simp [updF, inC, inA])
theorem inC_rl (x : Bool) : ∀ k, k < 7 → updF (inC i) 6 (.bool x) k = inC { i with rl := x } k := lt7 (by simp [updF, inC, inA])
structure DW (w wc : World) (b5 : Nat) (j : Int) : Prop where
  res : Hb wc w.heap.size 41 7 (inC in0)
  bel : Below w.heap.size w wc
  lt : w.heap.size < b5
  cell : ∃ i : In, (i.op = j ∧ isN i.imm) ∧ Hb wc b5 41 7 (inC i)
theorem DW.below {w wc w' : World} {b5 : Nat} {j : Int} (h : DW w wc b5 j) (hb : Below wc.heap.size wc w') : DW w w' b5 j := by
  obtain ⟨h1, h2, h3, i, h4, h5⟩ := h
  exact ⟨h1.below hb h1.lt, h2.trans (hb.mono h2.size), h3, i, h4, h5.below hb h5.lt⟩
theorem DW.set {w wc : World} {b5 o : Nat} {j : Int} {i i' : In} {v : Value} (h : DW w wc b5 j) (hc : Hb wc b5 41 7 (inC i)) (ho : i'.op = j ∧ isN i'.imm) (he : ∀ k, k < 7 → updF (inC i) o v k = inC i' k) : DW w (wc.setCell ⟨b5, o, none⟩ v) b5 j :=
  ⟨h.res.other (by simp; have := h.lt; omega) v, h.bel.setCell (p := ⟨b5, o, none⟩) (Nat.le_of_lt h.lt) v, h.lt, i', ho, (hc.set v).congr he⟩
set_option maxHeartbeats 4000000 in
set_option maxRecDepth 100000 in
theorem decode_w (v : Int) (w : World) : Calls Try.prog 62 #[.int .u32 v] w (fun e w' => ∃ i, e = .returned (.agg (inA i)) ∧ DecI i ∧ Below w.heap.size w w') := by
  go_enter Try.func62, Try.ntmps62
  go_wp2
  go_loopw [3] (fun k wr => ∃ j : Nat, 1 ≤ j ∧ j ≤ 88 ∧ k = .int .i64 j ∧ Hb wr w.heap.size 41 7 (inC in0) ∧ Below w.heap.size w wr) (fun k _ => 88 - (intOf k).toNat)
  case atStart => exact ⟨1, by omega, by omega, rfl, Hb.instr w in0 _, (Below.refl _ w).alloc (Nat.le_refl _) _⟩
  case round =>
    obtain ⟨j, h1, h2, rfl, hr, hB⟩ := hrel
    have HR := hid hr
    have HB := hid hB
    clear hr hB
    by_cases hlt : j ≤ 87
    · have HW := fun W => word_w j ⟨by omega, by omega⟩ W
      go_upto_if 15 with (go_at_call 75; refine (HW _).mono ?_; rintro e w1 ⟨rfl, hB1⟩; have HR1 := hid (HR.out.below hB1 HR.out.lt); have HB1 := hid (HB.out.trans (hB1.mono HB.out.size)); clear hB1)
      generalize ((wordZ (j : Int)).tmod 128 != v.tmod 128) = q
      cases q
      case true =>
        go_wp2
        go_roundw
        case rel => exact ⟨j + 1, by omega, by omega, by go_num, HR1.out, HB1.out⟩
        case measure => simp [intOf]; omega
      case false =>
        have HF := fun W => refForm_ret (gl := fun _ => none) (j : Int) W (GlobOk.none W)
        have HD1 := fun W => hasRd_ret (gl := fun _ => none) (j : Int) W (GlobOk.none W)
        have HA1 := fun W => hasA_ret (gl := fun _ => none) (j : Int) W (GlobOk.none W)
        have HB5 := fun W => hasB_ret (gl := fun _ => none) (j : Int) W (GlobOk.none W)
        generalize formZ (j : Int) = f at HF HD1 HA1 HB5
        go_upto_if 24 with (first
          | (go_at_call 68; refine (HF _).mono ?_; rintro e w2 ⟨rfl, hB2⟩; have HR2 := hid (HR1.out.below hB2 HR1.out.lt); have HB2 := hid (HB1.out.trans (hB2.mono HB1.out.size)); clear hB2)
          | (go_at_call 76; refine (imm_w _ _ _).mono ?_; rintro e w' ⟨⟨x, hx, rfl⟩, rfl⟩)
          | (go_at_call 77; refine (HD1 _).mono ?_; rintro e w3 ⟨rfl, hB3⟩; have HW3 : Hid (DW w w3 w2.heap.size j) := hid (DW.below ⟨HR2.out.alloc _, HB2.out.alloc HB2.out.size _, HR2.out.lt, ⟨⟨j, 0, 0, 0, x, false, false⟩, ⟨rfl, hx (by trivial)⟩, Hb.instr w2 _ _⟩⟩ hB3); clear hB3))
        clear HF HD1
        generalize w2.heap.size = b5 at HW3 ⊢
        generalize rdF f = u1
        go_cut [63, 64, 65] from 6 (fun s63 s64 s65 wc => (s63 = undef ∧ s64 = undef ∧ s65 = undef) ∧ DW w wc b5 j)
        case first =>
          obtain ⟨i, hi, hc⟩ := HW3.out.cell
          have c1 := hc.cell (i := 1) (by omega)
          have f1 := hc.free 1
          cases u1
          · go_wp2
            go_meet
            case rel => exact ⟨⟨rfl, rfl, rfl⟩, HW3.out⟩
          · have Hc := hid hc
            clear hc
            go_wp2_with (go_at_call 78; refine (bits5_i _ _ _ _ (by decide) (by decide) (by decide) _).mono ?_; rintro e w' ⟨⟨z, _, rfl⟩, rfl⟩)
            go_meet
            case rel => exact ⟨⟨rfl, rfl, rfl⟩, HW3.out.set Hc.out (i' := { i with rd := z }) hi (inC_rd i z)⟩
        case rest =>
          obtain ⟨⟨rfl, rfl, rfl⟩, hcut⟩ := hcut
          have HE1 := hid hcut
          clear hcut
          go_upto_if 29 with (go_at_call 79; refine (HA1 _).mono ?_; rintro e w4 ⟨rfl, hB4⟩; have HE2 := hid (HE1.out.below hB4); clear hB4)
          clear HE1 HA1
          generalize aF f = u2
          go_cut [63, 64, 65] from 6 (fun s63 s64 s65 wc => (s63 = undef ∧ s64 = undef ∧ s65 = undef) ∧ DW w wc b5 j)
          case first =>
            obtain ⟨i, hi, hc⟩ := HE2.out.cell
            have c1 := hc.cell (i := 2) (by omega)
            have f1 := hc.free 2
            cases u2
            · go_wp2
              go_meet
              case rel => exact ⟨⟨rfl, rfl, rfl⟩, HE2.out⟩
            · have Hc := hid hc
              clear hc
              go_wp2_with (go_at_call 78; refine (bits5_i _ _ _ _ (by decide) (by decide) (by decide) _).mono ?_; rintro e w' ⟨⟨z, _, rfl⟩, rfl⟩)
              go_meet
              case rel => exact ⟨⟨rfl, rfl, rfl⟩, HE2.out.set Hc.out (i' := { i with a := z }) hi (inC_a i z)⟩
          case rest =>
            obtain ⟨⟨rfl, rfl, rfl⟩, hcut⟩ := hcut
            have HE3 := hid hcut
            clear hcut
            go_upto_if 34 with (go_at_call 80; refine (HB5 _).mono ?_; rintro e w4 ⟨rfl, hB4⟩; have HE4 := hid (HE3.out.below hB4); clear hB4)
            clear HE3 HB5
            generalize bF f = u3
            go_cut [63, 64, 65] from 6 (fun s63 s64 s65 wc => (s63 = undef ∧ s64 = undef ∧ s65 = undef) ∧ DW w wc b5 j)
            case first =>
              obtain ⟨i, hi, hc⟩ := HE4.out.cell
              have c1 := hc.cell (i := 3) (by omega)
              have f1 := hc.free 3
              cases u3
              · go_wp2
                go_meet
                case rel => exact ⟨⟨rfl, rfl, rfl⟩, HE4.out⟩
              · have Hc := hid hc
                clear hc
                go_wp2_with (go_at_call 78; refine (bits5_i _ _ _ _ (by decide) (by decide) (by decide) _).mono ?_; rintro e w' ⟨⟨z, _, rfl⟩, rfl⟩)
                go_meet
                case rel => exact ⟨⟨rfl, rfl, rfl⟩, HE4.out.set Hc.out (i' := { i with b := z }) hi (inC_b i z)⟩
            case rest =>
              obtain ⟨⟨rfl, rfl, rfl⟩, hcut⟩ := hcut
              have HE5 := hid hcut
              clear hcut
              go_upto_region 13 with (fail)
              go_cut [4, 43, 63, 64, 65] from 6 (fun s4 s43 s63 s64 s65 w' => (s63 = undef ∧ s64 = undef ∧ s65 = undef) ∧ (∃ b, s43 = .bool b) ∧ w' = wc)
              case first =>
                go_wp2
                all_goals
                  go_meet
                  case rel => exact ⟨⟨rfl, rfl, rfl⟩, ⟨_, rfl⟩, rfl⟩
              case rest =>
              obtain ⟨⟨rfl, rfl, rfl⟩, ⟨u4, rfl⟩, rfl⟩ := hcut
              go_upto_if 43 with (fail)
              go_cut [63, 64, 65] from 6 (fun s63 s64 s65 wc => (s63 = undef ∧ s64 = undef ∧ s65 = undef) ∧ DW w wc b5 j)
              case first =>
                obtain ⟨i, hi, hc⟩ := HE5.out.cell
                have c1 := hc.cell (i := 5) (by omega)
                have f1 := hc.free 5
                have c2 := hc.cell (i := 6) (by omega)
                have f2 := hc.free 6
                cases u4
                · go_wp2
                  go_meet
                  case rel => exact ⟨⟨rfl, rfl, rfl⟩, HE5.out⟩
                · have Hc := hid hc
                  clear hc
                  have HQ : Hid (∀ (x : Bool) W, W = wc.setCell ⟨b5, 5, none⟩ (.bool x) → DW w W b5 j ∧ ∃ i' : In, (i'.op = j ∧ isN i'.imm) ∧ Hb W b5 41 7 (inC i')) := hid fun x W e => by
                    subst e
                    exact ⟨HE5.out.set Hc.out (i' := { i with aq := x }) hi (inC_aq i x), { i with aq := x }, hi, (Hc.out.set _).congr (inC_aq i x)⟩
                  go_upto_region 15 with (go_at_call 81; refine (bit_i _ _ (by decide) _).mono ?_; rintro e w' ⟨⟨z, _, rfl⟩, rfl⟩)
                  generalize (z == 1) = x1
                  obtain ⟨g1, i', hi', hc'⟩ := HQ.out x1 _ rfl
                  generalize wc.setCell ⟨b5, 5, none⟩ (.bool x1) = W1 at g1 hc' ⊢
                  have HX := hid g1
                  have Hc' := hid hc'
                  clear HQ c1 f1 c2 f2 g1 hc' Hc
                  have c2 := Hc'.out.cell (i := 6) (by omega)
                  have f2 := Hc'.out.free 6
                  go_wp2_with (go_at_call 81; refine (bit_i _ _ (by decide) _).mono ?_; rintro e w' ⟨⟨z2, _, rfl⟩, rfl⟩)
                  go_meet
                  case rel => exact ⟨⟨rfl, rfl, rfl⟩, HX.out.set Hc'.out (i' := { i' with rl := z2 == 1 }) hi' (inC_rl i' (z2 == 1))⟩
              case rest =>
                obtain ⟨⟨rfl, rfl, rfl⟩, hcut⟩ := hcut
                obtain ⟨i, hi, hc⟩ := hcut.cell
                have HE6 := hid hcut
                have Hc := hid hc
                have c0 : wc.cell? ⟨b5, 0, none⟩ = some (.int .i64 i.op) := hc.cell (i := 0) (by omega)
                have c1 : wc.cell? ⟨b5, 1, none⟩ = some (.int .i64 i.rd) := hc.cell (i := 1) (by omega)
                have c2 : wc.cell? ⟨b5, 2, none⟩ = some (.int .i64 i.a) := hc.cell (i := 2) (by omega)
                have c3 : wc.cell? ⟨b5, 3, none⟩ = some (.int .i64 i.b) := hc.cell (i := 3) (by omega)
                have c4 : wc.cell? ⟨b5, 4, none⟩ = some (.int .i64 i.imm) := hc.cell (i := 4) (by omega)
                have c5 : wc.cell? ⟨b5, 5, none⟩ = some (.bool i.aq) := hc.cell (i := 5) (by omega)
                have c6 : wc.cell? ⟨b5, 6, none⟩ = some (.bool i.rl) := hc.cell (i := 6) (by omega)
                have HM : ∀ W, Calls Try.prog 82 #[.agg (inA i)] W fun e w' => e = .returned (.bool (mayB i)) ∧ Below W.heap.size W w' := fun W => refMay_ret (gl := fun _ => none) i W (GlobOk.none W)
                have Hi := hid hi
                clear hcut hc hi
                cases hm : mayB i
                · rw [hm] at HM
                  go_wp2_with (go_at_call 82; refine (HM _).mono ?_; rintro e w4 ⟨rfl, hB4⟩; have HE7 := hid (HE6.out.below hB4); clear hB4)
                  go_roundw
                  case rel => exact ⟨j + 1, by omega, by omega, by go_num, HE7.out.res, HE7.out.bel⟩
                  case measure => simp [intOf]; omega
                · rw [hm] at HM
                  have HEn : ∀ W, Calls Try.prog 83 #[.agg (inA i)] W fun e w' => e = .returned (.int .u32 (encZ i)) ∧ Below W.heap.size W w' := fun W => refEncode_ret (gl := fun _ => none) i hm W (GlobOk.none W)
                  go_upto_if 61 with (first
                    | (go_at_call 82; refine (HM _).mono ?_; rintro e w4 ⟨rfl, hB4⟩; have HE7 := hid (HE6.out.below hB4); have Hc7 := hid (Hc.out.below hB4 Hc.out.lt); clear hB4; have d0 : w4.cell? ⟨b5, 0, none⟩ = some (.int .i64 i.op) := Hc7.out.cell (i := 0) (by omega); have d1 : w4.cell? ⟨b5, 1, none⟩ = some (.int .i64 i.rd) := Hc7.out.cell (i := 1) (by omega); have d2 : w4.cell? ⟨b5, 2, none⟩ = some (.int .i64 i.a) := Hc7.out.cell (i := 2) (by omega); have d3 : w4.cell? ⟨b5, 3, none⟩ = some (.int .i64 i.b) := Hc7.out.cell (i := 3) (by omega); have d4 : w4.cell? ⟨b5, 4, none⟩ = some (.int .i64 i.imm) := Hc7.out.cell (i := 4) (by omega); have d5 : w4.cell? ⟨b5, 5, none⟩ = some (.bool i.aq) := Hc7.out.cell (i := 5) (by omega); have d6 : w4.cell? ⟨b5, 6, none⟩ = some (.bool i.rl) := Hc7.out.cell (i := 6) (by omega))
                    | (go_at_call 83; refine (HEn _).mono ?_; rintro e w5 ⟨rfl, hB5⟩; have HE8 := hid (HE7.out.below hB5); have Hc8 := hid (Hc7.out.below hB5 Hc7.out.lt); clear hB5))
                  generalize (encZ i == v) = u5
                  cases u5
                  · go_wp2
                    go_roundw
                    case rel => exact ⟨j + 1, by omega, by omega, by go_num, HE8.out.res, HE8.out.bel⟩
                    case measure => simp [intOf]; omega
                  · clear d0 d1 d2 d3 d4 d5 d6 c0 c1 c2 c3 c4 c5 c6
                    have d0 : w5.cell? ⟨b5, 0, none⟩ = some (.int .i64 i.op) := Hc8.out.cell (i := 0) (by omega)
                    have d1 : w5.cell? ⟨b5, 1, none⟩ = some (.int .i64 i.rd) := Hc8.out.cell (i := 1) (by omega)
                    have d2 : w5.cell? ⟨b5, 2, none⟩ = some (.int .i64 i.a) := Hc8.out.cell (i := 2) (by omega)
                    have d3 : w5.cell? ⟨b5, 3, none⟩ = some (.int .i64 i.b) := Hc8.out.cell (i := 3) (by omega)
                    have d4 : w5.cell? ⟨b5, 4, none⟩ = some (.int .i64 i.imm) := Hc8.out.cell (i := 4) (by omega)
                    have d5 : w5.cell? ⟨b5, 5, none⟩ = some (.bool i.aq) := Hc8.out.cell (i := 5) (by omega)
                    have d6 : w5.cell? ⟨b5, 6, none⟩ = some (.bool i.rl) := Hc8.out.cell (i := 6) (by omega)
                    go_wp2_with (refine wp_st_of rfl _ _ _ rfl rfl rfl (st_instr HE8.out.res i) ?_)
                    have hS := HE8.out.res.storeI i
                    refine bodyPost_ret (ret_cell Try.results62 (by rfl) (load_instr hS i (fun k hk => by rw [Nat.zero_add]) (by omega))) rfl ⟨i, rfl, decI_may hm Hi.out.2, ?_⟩
                    exact (Fr.sets (T := []) (.inl (Nat.le_refl _)) _ _ (Fr.of_below HE8.out.bel)).to_below
    · go_wp2_with (refine wp_st_of rfl _ _ _ rfl rfl rfl (st_instr HR.out ⟨0, 0, 0, 0, _, false, false⟩) ?_)
      have hS := HR.out.storeI ⟨0, 0, 0, 0, wrap64 v, false, false⟩
      refine bodyPost_ret (ret_cell Try.results62 (by rfl) (load_instr hS ⟨0, 0, 0, 0, wrap64 v, false, false⟩ (fun k hk => by rw [Nat.zero_add]) (by omega))) rfl ⟨_, rfl, decI_none _ (isN_w v), ?_⟩
      exact (Fr.sets (T := []) (.inl (Nat.le_refl _)) _ _ (Fr.of_below HB.out)).to_below
end Go.Proofs.Ytchjjbcmbdmlgaa
