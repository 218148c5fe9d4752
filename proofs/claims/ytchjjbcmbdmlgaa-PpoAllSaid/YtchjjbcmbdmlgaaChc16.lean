/- Layer 16: the reference's Check of candidates answers; OK: no more than its limits. -/
import Derived.Test.YtchjjbcmbdmlgaaK07
set_option linter.unusedVariables false
set_option linter.unusedSimpArgs false
namespace Go.Proofs.Ytchjjbcmbdmlgaa
open Go Go.RowKit Sim
theorem take_off {P : Program} {ops : Array Oper} {S : World → Prop} {i : Nat} {r : List Nat} {a : Act} {R : Act → Prop} (o : Oper) (ho : ops[i]? = some o) (hw : Region.wanted o (yielded ops a.tmps) = false) (h : Takes P ops S R r (a.put o.dst undef)) : Takes P ops S R (i :: r) a :=
  ⟨o, undef, ho, .inr ⟨hw, rfl⟩, h⟩
def LenB (w : World) (qh : Option Addr) (i : Nat) : Prop := ∀ b o, qh = some ⟨b, o, none⟩ → ∀ j, j < i → ∀ q n c, w.cell? ⟨b, o + j, none⟩ = some (.slice q n c) → n ≤ 1024
def Ck13 (w : World) (qh : Option Addr) (nh : Nat) : Ending → World → Prop := fun e w' => ∃ k : Int, e = .returned (.int .i64 k) ∧ (k = 0 → nh ≤ 8 ∧ LenB w qh nh) ∧ Below w.heap.size w w'
structure C13 (w W : World) (sh sr : Value) : Prop where
  bel : Below w.heap.size w W
  c0 : W.cell? ⟨w.heap.size, 0, none⟩ = some sh
  c1 : W.cell? ⟨w.heap.size, 1, none⟩ = some sr
theorem C13.lt {w W : World} {sh sr : Value} (h : C13 w W sh sr) : w.heap.size < W.heap.size := by
  have := h.c0
  rcases Nat.lt_or_ge w.heap.size W.heap.size with hlt | hge
  · exact hlt
  · simp [World.cell?, Array.getElem?_eq_none hge] at this
theorem C13.below {w W W' : World} {sh sr : Value} (h : C13 w W sh sr) (hb : Below W.heap.size W W') : C13 w W' sh sr :=
  ⟨h.bel.trans (hb.mono h.bel.size), (hb.cell (p := ⟨_, _, none⟩) h.lt).trans h.c0, (hb.cell (p := ⟨_, _, none⟩) h.lt).trans h.c1⟩
theorem C13.draws {w W : World} {sh sr : Value} (h : C13 w W sh sr) (n : Nat) : C13 w (W.drewN n) sh sr := ⟨below_draws h.bel n, h.c0, h.c1⟩
theorem C13.alloc {w W : World} {sh sr : Value} (h : C13 w W sh sr) (o : Obj) : C13 w (W.alloc o) sh sr := h.below ((Below.refl _ W).alloc (Nat.le_refl _) o)
set_option maxHeartbeats 2000000 in
set_option maxRecDepth 100000 in
theorem there_k (qh qr : Option Addr) (nh ch nr cr : Nat) (h a : Int) (w : World) (hc : CdW w w.heap.size qh nh qr nr) : ∃ k : Bool, ∀ W, Below w.heap.size w W → Calls Try.prog 50 #[.agg #[.slice qh nh ch, .slice qr nr cr], .agg #[.int .i64 h, .int .i64 a]] W (fun e w' => e = .returned (.bool k) ∧ Below W.heap.size W w') := by
  have HB := fun W => hid (((Below.refl W.heap.size W).alloc (Nat.le_refl _) (.cells #[.slice qh nh ch, .slice qr nr cr] 29)).alloc (by simp) (.cells #[.int .i64 h, .int .i64 a] 43))
  by_cases h1 : h < 0
  · refine ⟨false, fun W hW => ?_⟩
    have HBW := HB W
    clear HB
    go_enter Try.func50, Try.ntmps50
    go_wp2
    go_ret
    exact ⟨rfl, HBW.out⟩
  · by_cases h2 : h ≥ nh
    · refine ⟨false, fun W hW => ?_⟩
      have HBW := HB W
      clear HB
      go_enter Try.func50, Try.ntmps50
      go_wp2
      go_ret
      exact ⟨rfl, HBW.out⟩
    · obtain ⟨m, rfl⟩ : ∃ m : Nat, h = (m : Int) := ⟨h.toNat, by omega⟩
      obtain ⟨b, o, rfl, hb, hx⟩ := hc.hs (by omega)
      obtain ⟨q, n, c, hx, hn, _⟩ := hx m (by omega)
      rw [Nat.mul_one] at hx
      have hlt : m < nh := by omega
      by_cases h3 : 0 ≤ a
      · refine ⟨decide (a < (n : Int)), fun W hW => ?_⟩
        have hx' := ((hW.trans ((HB W).out.mono hW.size)).cell (p := ⟨b, o + m, none⟩) hb).trans hx
        have HBW := HB W
        clear HB hx hW
        go_enter Try.func50, Try.ntmps50
        go_wp2
        go_quiet (fail)
        go_wp2
        go_ret
        exact ⟨rfl, below_draws HBW.out _⟩
      · refine ⟨false, fun W hW => ?_⟩
        have hx' := ((hW.trans ((HB W).out.mono hW.size)).cell (p := ⟨b, o + m, none⟩) hb).trans hx
        have HBW := HB W
        clear HB hx hW
        go_enter Try.func50, Try.ntmps50
        go_wp2
        have hd : decide (0 ≤ a) = false := by simp; omega
        go_quiet (fail)
        go_wp2
        go_ret
        exact ⟨rfl, below_draws HBW.out _⟩
set_option maxHeartbeats 4000000 in
set_option maxRecDepth 100000 in
theorem check13_w (qh qr : Option Addr) (nh ch nr cr : Nat) (w : World) (hc : CdW w w.heap.size qh nh qr nr) : Calls Try.prog 35 #[.agg #[.slice qh nh ch, .slice qr nr cr]] w (Ck13 w qh nh) := by
  have HS : Hid (∀ W, C13 w W (.slice qh nh ch) (.slice qr nr cr) → CdW W w.heap.size qh nh qr nr) := hid fun W h => hc.below h.bel
  have HT : Hid (∀ W h a, C13 w W (.slice qh nh ch) (.slice qr nr cr) → Calls Try.prog 50 #[.agg #[.slice qh nh ch, .slice qr nr cr], .agg #[.int .i64 h, .int .i64 a]] W (Ab W)) := hid fun W h a hW => there_w qh qr nh ch nr cr h a W hW.bel.size (hc.below hW.bel)
  have HC0 : Hid (C13 w (w.alloc (.cells #[.slice qh nh ch, .slice qr nr cr] 29)) (.slice qh nh ch) (.slice qr nr cr)) := hid ⟨(Below.refl _ w).alloc (Nat.le_refl _) _, (Hb.arr w #[.slice qh nh ch, .slice qr nr cr] 29).cell (i := 0) (by simp), (Hb.arr w #[.slice qh nh ch, .slice qr nr cr] 29).cell (i := 1) (by simp)⟩
  have hml : maxLen = 9223372036854775807 := rfl
  have hnr := hc.lr
  have hnh := hc.lh
  rw [hml] at hnr hnh
  clear hml
  have Hc := hid hc
  clear hc
  go_enter Try.func35, Try.ntmps35
  by_cases h8 : nh > 8
  · go_wp2
    go_ret
    exact ⟨_, rfl, (fun h => by cases h), HC0.out.bel⟩
  · go_wp2
    generalize w.alloc (.cells #[.slice qh nh ch, .slice qr nr cr] 29) = W1 at HC0 ⊢
    have k0 := HC0.out.c0
    have k1 := HC0.out.c1
    go_loop [3] (fun v => ∃ i : Nat, i ≤ nh ∧ v = .int .i64 i ∧ LenB w qh i) (fun v => nh - (intOf v).toNat)
    case atStart => exact ⟨0, Nat.zero_le _, rfl, fun _ _ _ j hj => by omega⟩
    case round =>
      obtain ⟨i, hi, rfl, hL⟩ := hrel
      have HL := hid hL
      clear hL
      by_cases hlt : i < nh
      · obtain ⟨b, o, rfl, hb, hx⟩ := (HS.out _ HC0.out).hs (by omega)
        obtain ⟨q, n, c, e0, hn, _⟩ := hx i hlt
        rw [Nat.mul_one] at e0
        clear hx
        have HE : Hid (w.cell? ⟨b, o + i, none⟩ = some (.slice q n c)) := hid ((HC0.out.bel.cell (p := ⟨b, _, none⟩) hb).symm.trans e0)
        by_cases h10 : n > 1024
        · go_wp2
          go_ret
          exact ⟨_, rfl, (fun h => by cases h), HC0.out.bel⟩
        · go_wp2
          go_round
          case rel =>
            refine ⟨i + 1, by omega, by go_num, fun b' o' e j hj q' n' c' hq => ?_⟩
            cases e
            by_cases hji : j = i
            · subst hji
              rw [HE.out] at hq
              cases hq
              omega
            · exact HL.out _ _ rfl j (by omega) _ _ _ hq
          case measure => simp [intOf]; omega
      · obtain rfl : i = nh := by omega
        go_wp2
        clear k0 k1
        go_loopw [4] (fun v wr => ∃ j : Nat, j ≤ i ∧ v = .int .i64 j ∧ C13 w wr (.slice qh i ch) (.slice qr nr cr)) (fun v _ => i - (intOf v).toNat)
        case atStart => exact ⟨0, Nat.zero_le _, rfl, HC0.out⟩
        case round =>
          obtain ⟨j, hj, rfl, hC⟩ := hrel
          have HC1 := hid hC
          have k0 := hC.c0
          have k1 := hC.c1
          clear hC
          by_cases hlt : j < i
          · obtain ⟨b, o, rfl, hb, hx⟩ := (HS.out _ HC1.out).hs (by omega)
            obtain ⟨q, n, c, e0, hn, hr⟩ := hx j hlt
            rw [Nat.mul_one] at e0
            have HE : Hid (Hid (w.cell? ⟨b, o + j, none⟩ = some (.slice q n c)) ∧ b < w.heap.size) := hid ⟨hid ((HC1.out.bel.cell (p := ⟨b, _, none⟩) hb).symm.trans e0), hb⟩
            have HR : Hid (RowW w.heap.size (RecE w) 6 q n) := hid (hr.mono fun b' o' hb' h => by
              obtain ⟨pc, val, h1, a, wt, fl, e0, e1, e2, e3, e4, e5⟩ := h
              exact ⟨pc, val, h1, a, wt, fl, (HC1.out.bel.cell (p := ⟨b', _, none⟩) hb').symm.trans e0, (HC1.out.bel.cell (p := ⟨b', _, none⟩) hb').symm.trans e1, (HC1.out.bel.cell (p := ⟨b', _, none⟩) hb').symm.trans e2, (HC1.out.bel.cell (p := ⟨b', _, none⟩) hb').symm.trans e3, (HC1.out.bel.cell (p := ⟨b', _, none⟩) hb').symm.trans e4, (HC1.out.bel.cell (p := ⟨b', _, none⟩) hb').symm.trans e5⟩)
            have hn : n ≤ 9223372036854775807 := hn
            clear hx hr
            go_wp2
            clear k0 k1 e0
            go_loopw [5] (fun v wr => ∃ t : Nat, t ≤ n ∧ v = .int .i64 t ∧ C13 w wr (.slice (some ⟨b, o, none⟩) i ch) (.slice qr nr cr)) (fun v _ => n - (intOf v).toNat)
            case atStart => exact ⟨0, Nat.zero_le _, rfl, HC1.out⟩
            case round =>
              obtain ⟨t, ht, rfl, hC⟩ := hrel
              have HC2 := hid hC
              have k0 := hC.c0
              have k1 := hC.c1
              have e0 := (hC.bel.cell (p := ⟨b, o + j, none⟩) HE.out.2).trans HE.out.1.out
              clear hC
              by_cases hlt2 : t < n
              · obtain ⟨b2, o2, rfl, hb2, hx2⟩ := HR.out (by omega)
                obtain ⟨pc, val, h, a, wt, fl, e1, e2, e3, e4, e5, e6⟩ := RecE.below HC2.out.bel hb2 (hx2 t hlt2)
                clear hx2
                have HC3 := hid (HC2.out.alloc (.cells #[.int .i64 pc, .int .i64 val, .int .i64 h, .int .i64 a, .bool wt, .bool fl] 81))
                have m0 := HC3.out.c0
                have m1 := HC3.out.c1
                by_cases q1 : h = -1 ∧ a = 0
                · obtain ⟨rfl, rfl⟩ := q1
                  cases wt <;> cases fl
                  all_goals
                    go_wp2
                    first
                    | (go_ret; exact ⟨_, rfl, (fun h => by cases h), HC3.out.bel⟩)
                    | (go_roundw
                       case rel => exact ⟨t + 1, by omega, by go_num, HC3.out⟩
                       case measure => simp [intOf]; omega)
                · have q2 : (h == -1 && a == 0) = false := by
                    simp only [Bool.and_eq_false_iff, beq_eq_false_iff_ne, ne_eq]
                    by_cases q3 : h = -1
                    · exact .inr fun q4 => q1 ⟨q3, q4⟩
                    · exact .inl q3
                  by_cases q3 : h = -1
                  · have q4 : ¬ a = 0 := fun q4 => q1 ⟨q3, q4⟩
                    subst q3
                    clear q1 q2
                    cases wt <;> cases fl
                    all_goals
                      go_wp2_with (go_at_call 50; refine (HT.out _ _ _ HC3.out).mono ?_; rintro e w5 ⟨k, rfl, hB5⟩; have HC4 := hid (HC3.out.below hB5); clear hB5; cases k)
                      all_goals
                        first
                        | (go_ret; exact ⟨_, rfl, (fun h => by cases h), HC3.out.bel⟩)
                        | (go_ret; exact ⟨_, rfl, (fun h => by cases h), HC4.out.bel⟩)
                        | (go_roundw
                           case rel => exact ⟨t + 1, by omega, by go_num, HC4.out⟩
                           case measure => simp [intOf]; omega)
                  · clear q1 q2
                    cases wt <;> cases fl
                    all_goals
                      go_wp2_with (go_at_call 50; refine (HT.out _ _ _ HC3.out).mono ?_; rintro e w5 ⟨k, rfl, hB5⟩; have HC4 := hid (HC3.out.below hB5); clear hB5; cases k)
                      all_goals
                        first
                        | (go_ret; exact ⟨_, rfl, (fun h => by cases h), HC3.out.bel⟩)
                        | (go_ret; exact ⟨_, rfl, (fun h => by cases h), HC4.out.bel⟩)
                        | (go_roundw
                           case rel => exact ⟨t + 1, by omega, by go_num, HC4.out⟩
                           case measure => simp [intOf]; omega)
              · go_wp2
                go_roundw
                case rel => exact ⟨j + 1, by omega, by go_num, HC2.out⟩
                case measure => simp [intOf]; omega
          · obtain rfl : j = i := by omega
            go_wp2
            clear k0 k1
            go_loopw [8] (fun v wr => ∃ r : Nat, r ≤ nr ∧ v = .int .i64 r ∧ C13 w wr (.slice qh j ch) (.slice qr nr cr)) (fun v _ => nr - (intOf v).toNat)
            case atStart => exact ⟨0, Nat.zero_le _, rfl, HC1.out⟩
            case round =>
              obtain ⟨r, hr, rfl, hC⟩ := hrel
              have HC2 := hid hC
              have k0 := hC.c0
              have k1 := hC.c1
              clear hC
              by_cases hlt : r < nr
              · obtain ⟨b, o, rfl, hb, hx⟩ := (HS.out _ HC2.out).rs (by omega)
                have HX := hid hx
                obtain ⟨x, q, n, c, e0, e1, hn, hy⟩ := hx r hlt
                have HR : Hid (RowW w.heap.size (RefE w) 2 q n) := hid (hy.mono fun b' o' hb' h => by
                  obtain ⟨h1, a, e0, e1⟩ := h
                  exact ⟨h1, a, (HC2.out.bel.cell (p := ⟨b', _, none⟩) hb').symm.trans e0, (HC2.out.bel.cell (p := ⟨b', _, none⟩) hb').symm.trans e1⟩)
                have HE : Hid (Hid (w.cell? ⟨b, o + r * 2 + 1, none⟩ = some (.slice q n c)) ∧ b < w.heap.size) := hid ⟨hid ((HC2.out.bel.cell (p := ⟨b, _, none⟩) hb).symm.trans e1), hb⟩
                have hn : n ≤ 9223372036854775807 := hn
                clear hx hy
                by_cases hn0 : n = 0
                · subst hn0
                  go_wp2
                  go_quiet (fail)
                  go_wp2
                  go_ret
                  exact ⟨_, rfl, (fun h => by cases h), below_draws HC2.out.bel _⟩
                · have hd0 : decide (n = 0) = false := by simpa using hn0
                  have HW : Hid (∀ t, t < n → ∀ W, C13 w W (.slice qh j ch) (.slice (some ⟨b, o, none⟩) nr cr) → Calls Try.prog 51 #[.agg #[.slice qh j ch, .slice (some ⟨b, o, none⟩) nr cr], .int .i64 (r : Int), .int .i64 (t : Int)] W (Ab W)) := hid fun t ht W hW => twice_w qh _ j ch nr cr r t W hW.bel.size (Hc.out.below hW.bel) hlt (fun b' o' q' n' c' e hq => by
                    cases e
                    rw [hW.bel.cell (p := ⟨b, _, none⟩) HE.out.2, HE.out.1.out] at hq
                    cases hq
                    exact ht)
                  have ways : Hid (r = 0 ∨ (0 < r ∧ r - 1 < nr ∧ IntKind.i64.wrap ((r : Int) - 1) = ((r - 1 : Nat) : Int) ∧ ∃ y : Int, wr.cell? ⟨b, o + (r - 1) * 2, none⟩ = some (.int .i64 y))) := hid (by
                    by_cases hr0 : r = 0
                    · exact .inl hr0
                    · obtain ⟨y, q', n', c', e2, _⟩ := HX.out (r - 1) (by omega)
                      exact .inr ⟨by omega, by omega, by rw [IntKind.wrap_i64]; omega, y, e2⟩)
                  clear HX
                  rcases ways.out with hr0 | ⟨hd1, hd2, hw, y, e2⟩
                  · have Hr0 := hid hr0
                    clear hr0
                    go_wp2
                    have hb0 : ((n : Int) == 0) = false := by simpa using hn0
                    have hd3 : decide ((0 : Int) < (r : Int)) = false := by simp; exact Hr0.out
                    have hd4 : decide (0 < r) = false := by simp; exact Hr0.out
                    go_quiet (fail)
                    go_wp2
                    have HC3 := hid (HC2.out.draws nq)
                    clear k0 k1 e0 e1 HC2
                    generalize wr.drewN nq = W3 at HC3 ⊢
                    go_loopw [9] (fun v wr => ∃ t : Nat, t ≤ n ∧ v = .int .i64 t ∧ C13 w wr (.slice qh j ch) (.slice (some ⟨b, o, none⟩) nr cr)) (fun v _ => n - (intOf v).toNat)
                    case atStart => exact ⟨0, Nat.zero_le _, rfl, HC3.out⟩
                    case round =>
                      obtain ⟨t, ht, rfl, hC⟩ := hrel
                      have HC4 := hid hC
                      have k0 := hC.c0
                      have k1 := hC.c1
                      have e1 := (hC.bel.cell (p := ⟨b, o + r * 2 + 1, none⟩) HE.out.2).trans HE.out.1.out
                      have hB0 := hC.bel
                      clear hC
                      by_cases hlt2 : t < n
                      · obtain ⟨b2, o2, rfl, hb2, hx2⟩ := HR.out (by omega)
                        obtain ⟨h1, a1, f0, f1⟩ := RefE.below HC4.out.bel hb2 (hx2 t hlt2)
                        clear hx2
                        have HK : Hid (∀ W W' : World, (Below w.heap.size w W ∧ W.cell? ⟨w.heap.size, 0, none⟩ = some (.slice qh j ch) ∧ W.cell? ⟨w.heap.size, 1, none⟩ = some (.slice (some ⟨b, o, none⟩) nr cr) ∧ W.cell? ⟨b, o + r * 2 + 1, none⟩ = some (.slice (some ⟨b2, o2, none⟩) n c) ∧ W.cell? ⟨b2, o2 + t * 2, none⟩ = some (.int .i64 h1) ∧ W.cell? ⟨b2, o2 + t * 2 + 1, none⟩ = some (.int .i64 a1)) → Below W.heap.size W W' → (Below w.heap.size w W' ∧ W'.cell? ⟨w.heap.size, 0, none⟩ = some (.slice qh j ch) ∧ W'.cell? ⟨w.heap.size, 1, none⟩ = some (.slice (some ⟨b, o, none⟩) nr cr) ∧ W'.cell? ⟨b, o + r * 2 + 1, none⟩ = some (.slice (some ⟨b2, o2, none⟩) n c) ∧ W'.cell? ⟨b2, o2 + t * 2, none⟩ = some (.int .i64 h1) ∧ W'.cell? ⟨b2, o2 + t * 2 + 1, none⟩ = some (.int .i64 a1))) := hid fun W W' ⟨g1, g2, g3, g4, g5, g6⟩ hB => by
                          have hc' := C13.below ⟨g1, g2, g3⟩ hB
                          have hs := g1.size
                          have hb' := HE.out.2
                          exact ⟨hc'.bel, hc'.c0, hc'.c1, (hB.cell (p := ⟨b, _, none⟩) (Nat.lt_of_lt_of_le hb' hs)).trans g4, (hB.cell (p := ⟨b2, _, none⟩) (Nat.lt_of_lt_of_le hb2 hs)).trans g5, (hB.cell (p := ⟨b2, _, none⟩) (Nat.lt_of_lt_of_le hb2 hs)).trans g6⟩
                        obtain ⟨k, hk⟩ := there_k qh _ j ch nr cr h1 a1 w Hc.out
                        have HQ := hid hk
                        clear hk
                        have HB0 := hid hB0
                        clear hB0
                        go_wp2
                        have hB0 : Below w.heap.size w wr.drew := ⟨HB0.out.os, HB0.out.tape, HB0.out.output, HB0.out.size, HB0.out.block⟩
                        cases k
                        · refine region_takes (fun W => Below w.heap.size w W ∧ W.cell? ⟨w.heap.size, 0, none⟩ = some (.slice qh j ch) ∧ W.cell? ⟨w.heap.size, 1, none⟩ = some (.slice (some ⟨b, o, none⟩) nr cr) ∧ W.cell? ⟨b, o + r * 2 + 1, none⟩ = some (.slice (some ⟨b2, o2, none⟩) n c) ∧ W.cell? ⟨b2, o2 + t * 2, none⟩ = some (.int .i64 h1) ∧ W.cell? ⟨b2, o2 + t * 2 + 1, none⟩ = some (.int .i64 a1)) [0, 1, 2, 3, 4, 5, 6, 7, 8, 9] 8 (by rfl) (by kernel_rfl) (by kernel_rfl) (by kernel_rfl) (fun c a d v w h => And.intro (put_nil h.1) h.2) ⟨hB0, k0, k1, e1, f0, f1⟩ ?_
                          iterate 10
                            refine take_pure _ rfl (by rfl) (fun W hSW => by (obtain ⟨_, s0, s1, s2, s3, s4⟩ := hSW; go_simp; with_reducible rfl)) ?_
                            simp only [Act.put, List.getElem_toArray, List.getElem_cons_succ, List.getElem_cons_zero, List.setIfInBounds_toArray, List.set_cons_zero, List.set_cons_succ]
                          refine take_done ?_
                          refine held_call (i := 10) _ (by kernel_rfl) rfl (by rfl) (by go_simp; exact ⟨rfl, rfl⟩) ?_
                          refine (HQ.out _ hB0).mono ?_
                          rintro e w5 ⟨rfl, hB5⟩
                          have hS5 := HK.out _ _ ⟨hB0, k0, k1, e1, f0, f1⟩ hB5
                          refine ⟨_, rfl, hS5, ?_⟩
                          simp only [Act.put, List.getElem_toArray, List.getElem_cons_succ, List.getElem_cons_zero, List.setIfInBounds_toArray, List.set_cons_zero, List.set_cons_succ]
                          refine held_takes (fuel := 0) (by kernel_rfl) (fun c a d v w h => And.intro (put_nil h.1) h.2) hS5 [11, 12, 13, 14, 15, 16, 17] _ _ (by kernel_rfl) ?_
                          iterate 7
                            first
                            | refine take_pure _ rfl (by rfl) (fun W hSW => by (obtain ⟨_, s0, s1, s2, s3, s4⟩ := hSW; go_simp; with_reducible rfl)) ?_
                            | refine take_off _ rfl (by rfl) ?_
                            simp only [Act.put, List.getElem_toArray, List.getElem_cons_succ, List.getElem_cons_zero, List.setIfInBounds_toArray, List.set_cons_zero, List.set_cons_succ, Bool.not_false, Bool.not_true, Bool.or_false, Bool.or_self, Bool.or_true, Bool.true_or]
                          refine take_done ?_
                          refine wpAnyH_done (by kernel_rfl) ?_ _
                          go_wp2
                          go_ret
                          exact ⟨_, rfl, (fun h => by cases h), hS5.1⟩
                        · go_region_held3 (fun W => Below w.heap.size w W ∧ W.cell? ⟨w.heap.size, 0, none⟩ = some (.slice qh j ch) ∧ W.cell? ⟨w.heap.size, 1, none⟩ = some (.slice (some ⟨b, o, none⟩) nr cr) ∧ W.cell? ⟨b, o + r * 2 + 1, none⟩ = some (.slice (some ⟨b2, o2, none⟩) n c) ∧ W.cell? ⟨b2, o2 + t * 2, none⟩ = some (.int .i64 h1) ∧ W.cell? ⟨b2, o2 + t * 2 + 1, none⟩ = some (.int .i64 a1)) (first | assumption | (refine ⟨?_, ?_, ?_, ?_, ?_, ?_⟩ <;> assumption)) (first
                            | (go_at_call 50; refine (HQ.out _ (by assumption)).mono ?_; rintro e w5 ⟨rfl, hB5⟩; obtain ⟨g1, g2, g3, g4, g5, g6⟩ := HK.out _ _ (by (refine ⟨?_, ?_, ?_, ?_, ?_, ?_⟩ <;> assumption)) hB5)
                            | (go_at_call 51; refine (HW.out _ hlt2 _ ⟨by assumption, by assumption, by assumption⟩).mono ?_; rintro e w6 ⟨k, rfl, hB6⟩; obtain ⟨j1, j2, j3, j4, j5, j6⟩ := HK.out _ _ (by (refine ⟨?_, ?_, ?_, ?_, ?_, ?_⟩ <;> assumption)) hB6))
                          go_wp2
                          all_goals
                            first
                            | (go_ret; exact ⟨_, rfl, (fun h => by cases h), j1⟩)
                            | (go_roundw
                               case rel => exact ⟨t + 1, by omega, by go_num, ⟨j1, j2, j3⟩⟩
                               case measure => simp [intOf]; omega)
                      · go_wp2
                        go_roundw
                        case rel => exact ⟨r + 1, by omega, by go_num, HC4.out⟩
                        case measure => simp [intOf]; omega
                  · by_cases q1 : x ≤ y
                    · go_wp2
                      have hb0 : ((n : Int) == 0) = false := by simpa using hn0
                      have hd3 : decide ((0 : Int) < (r : Int)) = true := by simpa using hd1
                      go_quiet (fail)
                      go_wp2
                      go_ret
                      exact ⟨_, rfl, (fun h => by cases h), below_draws HC2.out.bel _⟩
                    · go_wp2
                      have hb0 : ((n : Int) == 0) = false := by simpa using hn0
                      have hd3 : decide ((0 : Int) < (r : Int)) = true := by simpa using hd1
                      go_quiet (fail)
                      go_wp2
                      clear e2
                      have HC3 := hid (HC2.out.draws nq)
                      clear k0 k1 e0 e1 HC2
                      generalize wr.drewN nq = W3 at HC3 ⊢
                      go_loopw [9] (fun v wr => ∃ t : Nat, t ≤ n ∧ v = .int .i64 t ∧ C13 w wr (.slice qh j ch) (.slice (some ⟨b, o, none⟩) nr cr)) (fun v _ => n - (intOf v).toNat)
                      case atStart => exact ⟨0, Nat.zero_le _, rfl, HC3.out⟩
                      case round =>
                        obtain ⟨t, ht, rfl, hC⟩ := hrel
                        have HC4 := hid hC
                        have k0 := hC.c0
                        have k1 := hC.c1
                        have e1 := (hC.bel.cell (p := ⟨b, o + r * 2 + 1, none⟩) HE.out.2).trans HE.out.1.out
                        have hB0 := hC.bel
                        clear hC
                        by_cases hlt2 : t < n
                        · obtain ⟨b2, o2, rfl, hb2, hx2⟩ := HR.out (by omega)
                          obtain ⟨h1, a1, f0, f1⟩ := RefE.below HC4.out.bel hb2 (hx2 t hlt2)
                          clear hx2
                          have HK : Hid (∀ W W' : World, (Below w.heap.size w W ∧ W.cell? ⟨w.heap.size, 0, none⟩ = some (.slice qh j ch) ∧ W.cell? ⟨w.heap.size, 1, none⟩ = some (.slice (some ⟨b, o, none⟩) nr cr) ∧ W.cell? ⟨b, o + r * 2 + 1, none⟩ = some (.slice (some ⟨b2, o2, none⟩) n c) ∧ W.cell? ⟨b2, o2 + t * 2, none⟩ = some (.int .i64 h1) ∧ W.cell? ⟨b2, o2 + t * 2 + 1, none⟩ = some (.int .i64 a1)) → Below W.heap.size W W' → (Below w.heap.size w W' ∧ W'.cell? ⟨w.heap.size, 0, none⟩ = some (.slice qh j ch) ∧ W'.cell? ⟨w.heap.size, 1, none⟩ = some (.slice (some ⟨b, o, none⟩) nr cr) ∧ W'.cell? ⟨b, o + r * 2 + 1, none⟩ = some (.slice (some ⟨b2, o2, none⟩) n c) ∧ W'.cell? ⟨b2, o2 + t * 2, none⟩ = some (.int .i64 h1) ∧ W'.cell? ⟨b2, o2 + t * 2 + 1, none⟩ = some (.int .i64 a1))) := hid fun W W' ⟨g1, g2, g3, g4, g5, g6⟩ hB => by
                            have hc' := C13.below ⟨g1, g2, g3⟩ hB
                            have hs := g1.size
                            have hb' := HE.out.2
                            exact ⟨hc'.bel, hc'.c0, hc'.c1, (hB.cell (p := ⟨b, _, none⟩) (Nat.lt_of_lt_of_le hb' hs)).trans g4, (hB.cell (p := ⟨b2, _, none⟩) (Nat.lt_of_lt_of_le hb2 hs)).trans g5, (hB.cell (p := ⟨b2, _, none⟩) (Nat.lt_of_lt_of_le hb2 hs)).trans g6⟩
                          obtain ⟨k, hk⟩ := there_k qh _ j ch nr cr h1 a1 w Hc.out
                          have HQ := hid hk
                          clear hk
                          have HB0 := hid hB0
                          clear hB0
                          go_wp2
                          have hB0 : Below w.heap.size w wr.drew := ⟨HB0.out.os, HB0.out.tape, HB0.out.output, HB0.out.size, HB0.out.block⟩
                          cases k
                          · refine region_takes (fun W => Below w.heap.size w W ∧ W.cell? ⟨w.heap.size, 0, none⟩ = some (.slice qh j ch) ∧ W.cell? ⟨w.heap.size, 1, none⟩ = some (.slice (some ⟨b, o, none⟩) nr cr) ∧ W.cell? ⟨b, o + r * 2 + 1, none⟩ = some (.slice (some ⟨b2, o2, none⟩) n c) ∧ W.cell? ⟨b2, o2 + t * 2, none⟩ = some (.int .i64 h1) ∧ W.cell? ⟨b2, o2 + t * 2 + 1, none⟩ = some (.int .i64 a1)) [0, 1, 2, 3, 4, 5, 6, 7, 8, 9] 8 (by rfl) (by kernel_rfl) (by kernel_rfl) (by kernel_rfl) (fun c a d v w h => And.intro (put_nil h.1) h.2) ⟨hB0, k0, k1, e1, f0, f1⟩ ?_
                            iterate 10
                              refine take_pure _ rfl (by rfl) (fun W hSW => by (obtain ⟨_, s0, s1, s2, s3, s4⟩ := hSW; go_simp; with_reducible rfl)) ?_
                              simp only [Act.put, List.getElem_toArray, List.getElem_cons_succ, List.getElem_cons_zero, List.setIfInBounds_toArray, List.set_cons_zero, List.set_cons_succ]
                            refine take_done ?_
                            refine held_call (i := 10) _ (by kernel_rfl) rfl (by rfl) (by go_simp; exact ⟨rfl, rfl⟩) ?_
                            refine (HQ.out _ hB0).mono ?_
                            rintro e w5 ⟨rfl, hB5⟩
                            have hS5 := HK.out _ _ ⟨hB0, k0, k1, e1, f0, f1⟩ hB5
                            refine ⟨_, rfl, hS5, ?_⟩
                            simp only [Act.put, List.getElem_toArray, List.getElem_cons_succ, List.getElem_cons_zero, List.setIfInBounds_toArray, List.set_cons_zero, List.set_cons_succ]
                            refine held_takes (fuel := 0) (by kernel_rfl) (fun c a d v w h => And.intro (put_nil h.1) h.2) hS5 [11, 12, 13, 14, 15, 16, 17] _ _ (by kernel_rfl) ?_
                            iterate 7
                              first
                              | refine take_pure _ rfl (by rfl) (fun W hSW => by (obtain ⟨_, s0, s1, s2, s3, s4⟩ := hSW; go_simp; with_reducible rfl)) ?_
                              | refine take_off _ rfl (by rfl) ?_
                              simp only [Act.put, List.getElem_toArray, List.getElem_cons_succ, List.getElem_cons_zero, List.setIfInBounds_toArray, List.set_cons_zero, List.set_cons_succ, Bool.not_false, Bool.not_true, Bool.or_false, Bool.or_self, Bool.or_true, Bool.true_or]
                            refine take_done ?_
                            refine wpAnyH_done (by kernel_rfl) ?_ _
                            go_wp2
                            go_ret
                            exact ⟨_, rfl, (fun h => by cases h), hS5.1⟩
                          · go_region_held3 (fun W => Below w.heap.size w W ∧ W.cell? ⟨w.heap.size, 0, none⟩ = some (.slice qh j ch) ∧ W.cell? ⟨w.heap.size, 1, none⟩ = some (.slice (some ⟨b, o, none⟩) nr cr) ∧ W.cell? ⟨b, o + r * 2 + 1, none⟩ = some (.slice (some ⟨b2, o2, none⟩) n c) ∧ W.cell? ⟨b2, o2 + t * 2, none⟩ = some (.int .i64 h1) ∧ W.cell? ⟨b2, o2 + t * 2 + 1, none⟩ = some (.int .i64 a1)) (first | assumption | (refine ⟨?_, ?_, ?_, ?_, ?_, ?_⟩ <;> assumption)) (first
                              | (go_at_call 50; refine (HQ.out _ (by assumption)).mono ?_; rintro e w5 ⟨rfl, hB5⟩; obtain ⟨g1, g2, g3, g4, g5, g6⟩ := HK.out _ _ (by (refine ⟨?_, ?_, ?_, ?_, ?_, ?_⟩ <;> assumption)) hB5)
                              | (go_at_call 51; refine (HW.out _ hlt2 _ ⟨by assumption, by assumption, by assumption⟩).mono ?_; rintro e w6 ⟨k, rfl, hB6⟩; obtain ⟨j1, j2, j3, j4, j5, j6⟩ := HK.out _ _ (by (refine ⟨?_, ?_, ?_, ?_, ?_, ?_⟩ <;> assumption)) hB6))
                            go_wp2
                            all_goals
                              first
                              | (go_ret; exact ⟨_, rfl, (fun h => by cases h), j1⟩)
                              | (go_roundw
                                 case rel => exact ⟨t + 1, by omega, by go_num, ⟨j1, j2, j3⟩⟩
                                 case measure => simp [intOf]; omega)
                        · go_wp2
                          go_roundw
                          case rel => exact ⟨r + 1, by omega, by go_num, HC4.out⟩
                          case measure => simp [intOf]; omega
              · obtain rfl : r = nr := by omega
                go_wp2
                go_ret
                exact ⟨_, rfl, (fun _ => ⟨by omega, HL.out⟩), HC2.out.bel⟩
end Go.Proofs.Ytchjjbcmbdmlgaa
