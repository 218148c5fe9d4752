/- Img16, Cnd16, Alu16, Mul16, Evl16. -/
import Derived.Test.YtchjjbcmbdmlgaaK06
import Derived.Test.YtchjjbcmbdmlgaaDcd16
import Derived.WalkSpells
import Derived.Deep.OwnRows
set_option linter.unusedVariables false
set_option linter.unusedSimpArgs false
namespace Go.Proofs.Ytchjjbcmbdmlgaa
open Go Go.RowKit Sim
def Ad (w : World) : Ending → World → Prop := fun e w' => ∃ k : Int, e = .returned (.int .i64 k) ∧ isN k ∧ Below w.heap.size w w'
def Ck8 (n nd ne : Nat) (w : World) : Ending → World → Prop := fun e w' => ∃ k : Int, e = .returned (.int .i64 k) ∧ (k = 0 → n ≤ 262144 ∧ nd ≤ 4096 ∧ ne ≤ 8) ∧ Below w.heap.size w w'
set_option maxHeartbeats 2000000 in
theorem code_w (q : Option Addr) (n c : Nat) (vd ve : Value) (pc : Int) (hn : n ≤ 262144) (w : World) : Calls Try.prog 61 #[.agg #[.slice q n c, vd, ve], .int .i64 pc] w (fun e w' => ∃ k : Int, e = .returned (.int .i64 k) ∧ (0 ≤ k → k < n) ∧ Below w.heap.size w w') := by
  go_enter Try.func61, Try.ntmps61
  have HB := hid ((Below.refl w.heap.size w).alloc (Nat.le_refl _) (.cells #[.slice q n c, vd, ve] 25))
  by_cases h1 : pc < 65536
  · go_wp2
    go_ret
    exact ⟨_, rfl, fun h => by omega, HB.out⟩
  · by_cases h2 : pc > 65536 + 4 * (n : Int) - 4
    · go_wp2
      go_ret
      exact ⟨_, rfl, fun h => by omega, HB.out⟩
    · go_wp2
      all_goals
        go_ret
        exact ⟨_, rfl, fun h => by omega, HB.out⟩
set_option maxHeartbeats 2000000 in
theorem data_w (q : Option Addr) (n c : Nat) (vc ve : Value) (pc : Int) (hn : n ≤ 4096) (w : World) : Calls Try.prog 65 #[.agg #[vc, .slice q n c, ve], .int .i64 pc] w (Ad w) := by
  go_enter Try.func65, Try.ntmps65
  have HB := hid ((Below.refl w.heap.size w).alloc (Nat.le_refl _) (.cells #[vc, .slice q n c, ve] 25))
  by_cases h1 : pc < 16777216
  · go_wp2
    go_ret
    exact ⟨_, rfl, by first | exact isN_k _ | exact isN_w _ | (unfold isN; omega) | (unfold isN; decide), HB.out⟩
  · by_cases h2 : pc > 16777216 + 8 * (n : Int) - 8
    · go_wp2
      go_ret
      exact ⟨_, rfl, by first | exact isN_k _ | exact isN_w _ | (unfold isN; omega) | (unfold isN; decide), HB.out⟩
    · go_wp2
      all_goals
        go_ret
        exact ⟨_, rfl, by first | exact isN_k _ | exact isN_w _ | (unfold isN; omega) | (unfold isN; decide), HB.out⟩
def RdW (w : World) (B : Nat) (k : IntKind) (q : Option Addr) (n : Nat) : Prop := 0 < n → ∃ b o, q = some ⟨b, o, none⟩ ∧ b < B ∧ ∀ i, i < n → ∃ x : Int, w.cell? ⟨b, o + i, none⟩ = some (.int k x)
theorem RdW.below {w w' : World} {B : Nat} {k : IntKind} {q : Option Addr} {n : Nat} (h : RdW w B k q n) (hb : Below B w w') : RdW w' B k q n := fun hp => by
  obtain ⟨b, o, rfl, h1, h2⟩ := h hp
  exact ⟨b, o, rfl, h1, fun i hi => by rw [hb.cell (p := ⟨b, o + i, none⟩) h1]; exact h2 i hi⟩
set_option maxHeartbeats 2000000 in
set_option maxRecDepth 100000 in
theorem fetch_w (q : Option Addr) (n c : Nat) (vd ve : Value) (pc : Int) (hn : n ≤ 262144) (w : World) (hr : RdW w w.heap.size .u32 q n) : Calls Try.prog 52 #[.agg #[.slice q n c, vd, ve], .int .i64 pc] w (fun e w' => ∃ (i : In) (ok : Bool), e = .returned (.tuple #[.agg (inA i), .bool ok]) ∧ DecI i ∧ Below w.heap.size w w') := by
  have HR := hid hr
  clear hr
  have HC := fun W => code_w q n c vd ve pc hn W
  have HB := hid (((Below.refl w.heap.size w).alloc (Nat.le_refl _) (.cells #[.slice q n c, vd, ve] 25)).alloc (by simp) (.cells (inA in0) 41))
  have H0 := hid ((Hb.arr w #[.slice q n c, vd, ve] 25).alloc (.cells (inA in0) 41))
  have H1 := Hb.instr (w.alloc (.cells #[.slice q n c, vd, ve] 25)) in0 41
  rw [show (w.alloc (.cells #[.slice q n c, vd, ve] 25)).heap.size = w.heap.size + 1 from by simp] at H1
  have H1 := hid H1
  go_enter Try.func52, Try.ntmps52
  go_upto_if 11 with (go_at_call 61; refine (HC _).mono ?_; rintro e w1 ⟨k, rfl, hk, hB1⟩; have H2 := hid (H0.out.below hB1 H0.out.lt); have H3 := hid (H1.out.below hB1 H1.out.lt); have HB2 := hid (HB.out.trans (hB1.mono HB.out.size)); clear hB1)
  by_cases hk0 : k < 0
  · go_wp2_with (refine wp_st_of rfl _ _ _ rfl rfl rfl (st_instr H3.out in0) ?_)
    have hS := H3.out.storeI in0
    refine bodyPost_ret (ret_cell2 Try.results52 (by rfl) rfl (load_instr hS in0 (fun k hk => by rw [Nat.zero_add]) (by omega))) rfl ⟨in0, false, rfl, decI_none _ (by unfold isN; decide), ?_⟩
    exact (Fr.sets (T := []) (.inl (by omega)) _ _ (Fr.of_below HB2.out)).to_below
  · obtain ⟨b, o, rfl, hb, hx⟩ := HR.out.below HB2.out (by omega)
    obtain ⟨m, rfl⟩ : ∃ m : Nat, k = (m : Int) := ⟨k.toNat, by omega⟩
    obtain ⟨x, hx⟩ := hx m (by have := hk (by omega); omega)
    have hm : m < n := by have := hk (by omega); omega
    have c0 : w1.cell? ⟨w.heap.size, 0, none⟩ = some (.slice (some ⟨b, o, none⟩) n c) := H2.out.cell (i := 0) (by simp)
    clear hk
    go_wp2_with (first
      | (go_at_call 62; refine (decode_w _ _).mono ?_; rintro e w2 ⟨i, rfl, hi, hB3⟩; have H4 := hid (H3.out.below hB3 H3.out.lt); have HB3 := hid (HB2.out.trans (hB3.mono HB2.out.size)); have Hi := hid hi; clear hB3 hi)
      | (refine wp_st_of rfl _ _ _ rfl rfl rfl (st_instr H4.out i) ?_))
    have hS := H4.out.storeI i
    refine bodyPost_ret (ret_cell2 Try.results52 (by rfl) rfl (load_instr hS i (fun k hk => by rw [Nat.zero_add]) (by omega))) rfl ⟨i, true, rfl, Hi.out, ?_⟩
    exact (Fr.sets (T := []) (.inl (by omega)) _ _ (Fr.of_below HB3.out)).to_below
set_option maxHeartbeats 2000000 in
set_option maxRecDepth 100000 in
theorem check8_w (qc qd qe : Option Addr) (n c nd cd ne ce : Nat) (hn : n ≤ maxLen) (w : World) (hr : RdW w w.heap.size .i64 qe ne) : Calls Try.prog 34 #[.agg #[.slice qc n c, .slice qd nd cd, .slice qe ne ce]] w (Ck8 n nd ne w) := by
  have HB := hid ((Below.refl w.heap.size w).alloc (Nat.le_refl _) (.cells #[.slice qc n c, .slice qd nd cd, .slice qe ne ce] 25))
  have HR := hid (hr.below HB.out)
  have H0 := hid (Hb.arr w #[.slice qc n c, .slice qd nd cd, .slice qe ne ce] 25)
  clear hr
  have hml : maxLen = 9223372036854775807 := rfl
  rw [hml] at hn
  clear hml
  go_enter Try.func34, Try.ntmps34
  by_cases h1 : n ≤ 262144 ∧ nd ≤ 4096 ∧ 1 ≤ n ∧ 1 ≤ ne ∧ ne ≤ 8
  · obtain ⟨h1, h2, h3, h4, h5⟩ := h1
    obtain ⟨b, o, rfl, hb, hx⟩ := HR.out (by omega)
    have HX := hid hx
    clear hx
    have hwn : IntKind.i64.wrap ((n : Int) - 1) = (n : Int) - 1 := by rw [IntKind.wrap_i64]; omega
    go_wp2
    go_loopw [3] (fun k wr => ∃ j m : Nat, j ≤ ne ∧ k = .int .i64 j ∧ wr = (w.alloc (.cells #[.slice qc n c, .slice qd nd cd, .slice (some ⟨b, o, none⟩) ne ce] 25)).drewN m) (fun k _ => ne - (intOf k).toNat)
    case atStart => exact ⟨0, 0, Nat.zero_le _, rfl, rfl⟩
    case round =>
      obtain ⟨j, m, hj, rfl, rfl⟩ := hrel
      by_cases hlt : j < ne
      · obtain ⟨x, hx⟩ := HX.out j hlt
        by_cases hx0 : x < 0
        · go_wp2
          go_quiet (fail)
          go_wp2
          go_ret
          exact ⟨_, rfl, (fun h => by cases h), below_draws (below_draws HB.out _) _⟩
        · by_cases hx1 : x > (n : Int) - 1
          · go_wp2
            go_quiet (fail)
            go_wp2
            go_ret
            exact ⟨_, rfl, (fun h => by cases h), below_draws (below_draws HB.out _) _⟩
          · go_wp2
            go_quiet (fail)
            go_wp2
            go_roundw
            case rel => exact ⟨j + 1, m + nq, by omega, by go_num, by first | rfl | rw [World.drewN_drewN]⟩
            case measure => simp [intOf]; omega
      · go_wp2
        go_ret
        exact ⟨_, rfl, (fun _ => ⟨h1, h2, h5⟩), below_draws HB.out _⟩
  · by_cases h2 : n > 262144
    · go_wp2
      go_ret
      exact ⟨_, rfl, (fun h => by cases h), HB.out⟩
    · by_cases h3 : nd > 4096
      · go_wp2
        go_ret
        exact ⟨_, rfl, (fun h => by cases h), HB.out⟩
      · by_cases h4 : n < 1
        · go_wp2
          go_ret
          exact ⟨_, rfl, (fun h => by cases h), HB.out⟩
        · by_cases h5 : ne < 1
          · go_wp2
            go_ret
            exact ⟨_, rfl, (fun h => by cases h), HB.out⟩
          · have h6 : ne > 8 := by omega
            go_wp2
            go_ret
            exact ⟨_, rfl, (fun h => by cases h), HB.out⟩
end Go.Proofs.Ytchjjbcmbdmlgaa
namespace Go.Proofs.Ytchjjbcmbdmlgaa
open Go Go.RowKit Sim
def RowW (B : Nat) (E : Nat → Nat → Prop) (S : Nat) (q : Option Addr) (n : Nat) : Prop := 0 < n → ∃ b o, q = some ⟨b, o, none⟩ ∧ b < B ∧ ∀ i, i < n → E b (o + i * S)
def RecE (w : World) (b o : Nat) : Prop := ∃ (pc val h a : Int) (wt fl : Bool), w.cell? ⟨b, o, none⟩ = some (.int .i64 pc) ∧ w.cell? ⟨b, o + 1, none⟩ = some (.int .i64 val) ∧ w.cell? ⟨b, o + 2, none⟩ = some (.int .i64 h) ∧ w.cell? ⟨b, o + 3, none⟩ = some (.int .i64 a) ∧ w.cell? ⟨b, o + 4, none⟩ = some (.bool wt) ∧ w.cell? ⟨b, o + 5, none⟩ = some (.bool fl)
def HrtE (w : World) (B : Nat) (b o : Nat) : Prop := ∃ q n c, w.cell? ⟨b, o, none⟩ = some (.slice q n c) ∧ n ≤ maxLen ∧ RowW B (RecE w) 6 q n
def RefE (w : World) (b o : Nat) : Prop := ∃ h a : Int, w.cell? ⟨b, o, none⟩ = some (.int .i64 h) ∧ w.cell? ⟨b, o + 1, none⟩ = some (.int .i64 a)
def StoE (w : World) (B : Nat) (b o : Nat) : Prop := ∃ (x : Int) (q : Option Addr) (n c : Nat), w.cell? ⟨b, o, none⟩ = some (.int .i64 x) ∧ w.cell? ⟨b, o + 1, none⟩ = some (.slice q n c) ∧ n ≤ maxLen ∧ RowW B (RefE w) 2 q n
structure CdW (w : World) (B : Nat) (qh : Option Addr) (nh : Nat) (qr : Option Addr) (nr : Nat) : Prop where
  lh : nh ≤ maxLen
  lr : nr ≤ maxLen
  hs : RowW B (HrtE w B) 1 qh nh
  rs : RowW B (StoE w B) 2 qr nr
section
variable {w w' : World} {B : Nat}
theorem RowW.mono {E E' : Nat → Nat → Prop} {S : Nat} {q : Option Addr} {n : Nat} (h : RowW B E S q n) (hE : ∀ b o, b < B → E b o → E' b o) : RowW B E' S q n := fun hp => by
  obtain ⟨b, o, rfl, h1, h2⟩ := h hp
  exact ⟨b, o, rfl, h1, fun i hi => hE _ _ h1 (h2 i hi)⟩
theorem RecE.below (hb : Below B w w') {b o : Nat} (hl : b < B) (h : RecE w b o) : RecE w' b o := by
  obtain ⟨pc, val, h1, a, wt, fl, e0, e1, e2, e3, e4, e5⟩ := h
  exact ⟨pc, val, h1, a, wt, fl, (hb.cell (p := ⟨b, _, none⟩) hl).trans e0, (hb.cell (p := ⟨b, _, none⟩) hl).trans e1, (hb.cell (p := ⟨b, _, none⟩) hl).trans e2, (hb.cell (p := ⟨b, _, none⟩) hl).trans e3, (hb.cell (p := ⟨b, _, none⟩) hl).trans e4, (hb.cell (p := ⟨b, _, none⟩) hl).trans e5⟩
theorem RefE.below (hb : Below B w w') {b o : Nat} (hl : b < B) (h : RefE w b o) : RefE w' b o := by
  obtain ⟨h1, a, e0, e1⟩ := h
  exact ⟨h1, a, (hb.cell (p := ⟨b, _, none⟩) hl).trans e0, (hb.cell (p := ⟨b, _, none⟩) hl).trans e1⟩
theorem HrtE.below (hb : Below B w w') {b o : Nat} (hl : b < B) (h : HrtE w B b o) : HrtE w' B b o := by
  obtain ⟨q, n, c, e0, hn, hr⟩ := h
  exact ⟨q, n, c, (hb.cell (p := ⟨b, _, none⟩) hl).trans e0, hn, hr.mono fun _ _ => RecE.below hb⟩
theorem StoE.below (hb : Below B w w') {b o : Nat} (hl : b < B) (h : StoE w B b o) : StoE w' B b o := by
  obtain ⟨x, q, n, c, e0, e1, hn, hr⟩ := h
  exact ⟨x, q, n, c, (hb.cell (p := ⟨b, _, none⟩) hl).trans e0, (hb.cell (p := ⟨b, _, none⟩) hl).trans e1, hn, hr.mono fun _ _ => RefE.below hb⟩
theorem CdW.below {qh qr : Option Addr} {nh nr : Nat} (h : CdW w B qh nh qr nr) (hb : Below B w w') : CdW w' B qh nh qr nr :=
  ⟨h.lh, h.lr, h.hs.mono fun _ _ => HrtE.below hb, h.rs.mono fun _ _ => StoE.below hb⟩
end
def Ab (w : World) : Ending → World → Prop := fun e w' => ∃ k : Bool, e = .returned (.bool k) ∧ Below w.heap.size w w'
set_option maxHeartbeats 2000000 in
set_option maxRecDepth 100000 in
theorem there_w (qh qr : Option Addr) (nh ch nr cr : Nat) (h a : Int) (w : World) {B : Nat} (hB : B ≤ w.heap.size) (hc : CdW w B qh nh qr nr) : Calls Try.prog 50 #[.agg #[.slice qh nh ch, .slice qr nr cr], .agg #[.int .i64 h, .int .i64 a]] w (Ab w) := by
  have HB := hid (((Below.refl w.heap.size w).alloc (Nat.le_refl _) (.cells #[.slice qh nh ch, .slice qr nr cr] 29)).alloc (by simp) (.cells #[.int .i64 h, .int .i64 a] 43))
  have HC := hid (hc.below (HB.out.mono hB))
  clear hc
  go_enter Try.func50, Try.ntmps50
  by_cases h1 : h < 0
  · go_wp2
    go_ret
    exact ⟨_, rfl, HB.out⟩
  · by_cases h2 : h ≥ nh
    · go_wp2
      go_ret
      exact ⟨_, rfl, HB.out⟩
    · obtain ⟨m, rfl⟩ : ∃ m : Nat, h = (m : Int) := ⟨h.toNat, by omega⟩
      obtain ⟨b, o, rfl, hb, hx⟩ := HC.out.hs (by omega)
      obtain ⟨q, n, c, hx, hn, _⟩ := hx m (by omega)
      rw [Nat.mul_one] at hx
      by_cases h3 : 0 ≤ a
      · go_wp2
        go_quiet (fail)
        go_wp2
        go_ret
        exact ⟨_, rfl, below_draws HB.out _⟩
      · go_wp2
        have hd : decide (0 ≤ a) = false := by simp; omega
        go_quiet (fail)
        go_wp2
        go_ret
        exact ⟨_, rfl, below_draws HB.out _⟩
set_option maxHeartbeats 4000000 in
set_option maxRecDepth 100000 in
theorem twice_w (qh qr : Option Addr) (nh ch nr cr m k : Nat) (w : World) {B : Nat} (hB : B ≤ w.heap.size) (hc : CdW w B qh nh qr nr) (hm : m < nr) (hk : ∀ b o q n c, qr = some ⟨b, o, none⟩ → w.cell? ⟨b, o + m * 2 + 1, none⟩ = some (.slice q n c) → k < n) : Calls Try.prog 51 #[.agg #[.slice qh nh ch, .slice qr nr cr], .int .i64 m, .int .i64 k] w (Ab w) := by
  have hb0 := (Below.refl w.heap.size w).alloc (Nat.le_refl _) (.cells #[.slice qh nh ch, .slice qr nr cr] 29)
  have HB := hid hb0
  have HC := hid (hc.below (hb0.mono hB))
  have hml : maxLen = 9223372036854775807 := rfl
  have hnr := hc.lr
  obtain ⟨b, o, rfl, hb, hx⟩ := (hc.below (hb0.mono hB)).rs (by omega)
  have HX := hid hx
  obtain ⟨x0, q0, n0, c0, e0, e1, hn0, hr0⟩ := hx m hm
  have hk0 : k < n0 := hk b o q0 n0 c0 rfl (by rw [← e1]; exact (hb0.cell (p := ⟨b, _, none⟩) (Nat.lt_of_lt_of_le hb hB)).symm)
  obtain ⟨b1, o1, rfl, hb1, hx1⟩ := hr0 (by omega)
  obtain ⟨h1, a1, f0, f1⟩ := hx1 k hk0
  rw [hml] at hn0 hnr
  have HW2 := hid (HB.out.alloc (by simp) (.cells #[.int .i64 h1, .int .i64 a1] 43))
  have HCW := hid (hc.below (HW2.out.mono hB))
  clear hk hx hx1 hc hr0 hml hb0
  go_enter Try.func51, Try.ntmps51
  go_wp2
  clear e0 e1 f0 f1
  go_loopw [8] (fun v wr => ∃ j d : Nat, j ≤ m + 1 ∧ v = .int .i64 j ∧ wr = ((w.alloc (.cells #[.slice qh nh ch, .slice (some ⟨b, o, none⟩) nr cr] 29)).alloc (.cells #[.int .i64 h1, .int .i64 a1] 43)).drewN d) (fun v _ => m + 1 - (intOf v).toNat)
  case atStart => exact ⟨0, 0, Nat.zero_le _, rfl, rfl⟩
  case round =>
    obtain ⟨j, d, hj, rfl, rfl⟩ := hrel
    by_cases hlt : j ≤ m
    · obtain ⟨b', o', e, _, hx'⟩ := HCW.out.rs (by omega)
      cases e
      obtain ⟨x2, q2, n2, c2, e0, e1, hn2, hr2⟩ := hx' j (by omega)
      clear hx'
      have HR2 := hid hr2
      have hn2 : n2 ≤ 9223372036854775807 := hn2
      clear hr2
      go_wp2
      go_loopw [9] (fun v wr => ∃ t d2 : Nat, t ≤ n2 ∧ v = .int .i64 t ∧ wr = ((w.alloc (.cells #[.slice qh nh ch, .slice (some ⟨b, o, none⟩) nr cr] 29)).alloc (.cells #[.int .i64 h1, .int .i64 a1] 43)).drewN d2) (fun v _ => n2 - (intOf v).toNat)
      case atStart => exact ⟨0, d, Nat.zero_le _, rfl, rfl⟩
      case round =>
        obtain ⟨t, d2, ht, rfl, rfl⟩ := hrel
        by_cases hlt2 : t < n2
        · obtain ⟨b2, o2, rfl, hb2, hx2⟩ := HR2.out (by omega)
          obtain ⟨h2, a2, f0, f1⟩ := hx2 t hlt2
          clear hx2
          have hjn : j < nr := by omega
          cases hd1 : decide (j < m)
          · cases hd2 : decide (t < k)
            · go_wp2
              go_quiet (fail)
              go_wp2
              go_roundw
              case rel => exact ⟨t + 1, d2 + nq, by omega, by go_num, by first | rfl | rw [World.drewN_drewN]⟩
              case measure => simp [intOf]; omega
            · by_cases q1 : h2 = h1 <;> by_cases q2 : a2 = a1
              all_goals
                go_wp2
                go_quiet (fail)
                go_wp2
                first
                | (go_ret; exact ⟨_, rfl, below_draws (below_draws HW2.out _) _⟩)
                | (go_roundw
                   case rel => exact ⟨t + 1, d2 + nq, by omega, by go_num, by first | rfl | rw [World.drewN_drewN]⟩
                   case measure => simp [intOf]; omega)
          · by_cases q1 : h2 = h1 <;> by_cases q2 : a2 = a1
            all_goals
              go_wp2
              go_quiet (fail)
              go_wp2
              first
              | (go_ret; exact ⟨_, rfl, below_draws (below_draws HW2.out _) _⟩)
              | (go_roundw
                 case rel => exact ⟨t + 1, d2 + nq, by omega, by go_num, by first | rfl | rw [World.drewN_drewN]⟩
                 case measure => simp [intOf]; omega)
        · go_wp2
          go_roundw
          case rel => exact ⟨j + 1, d2, by omega, by go_num, rfl⟩
          case measure => simp [intOf]; omega
    · go_wp2
      go_ret
      exact ⟨_, rfl, below_draws HW2.out _⟩
end Go.Proofs.Ytchjjbcmbdmlgaa
namespace Go.Proofs.Ytchjjbcmbdmlgaa
open Go Go.RowKit Sim
def As (w : World) : Ending → World → Prop := fun e w' => ∃ s : ByteArray, e = .returned (.string s) ∧ 0 < s.size ∧ s.size ≤ 100 ∧ w = w'
theorem one_w (b : Bool) (w : World) : Calls Try.prog 88 #[.bool b] w (Ai .i64 w) := by
  go_enter Try.func88, Try.ntmps88
  cases b
  all_goals
    go_wp2
    go_ret
    exact ⟨⟨_, (fun h => by first | exact hz (by trivial) | exact isN_k _ | exact isN_w _ | assumption | (exact absurd h (by decide)) | (unfold isN; omega) | (exact (show isN _ by unfold isN; decide))), rfl⟩, rfl⟩
theorem half_w (n : Int) (w : World) : Calls Try.prog 100 #[.int .i64 n] w (Ai .i64 w) := by
  go_enter Try.func100, Try.ntmps100
  go_wp2_with (go_at_call 92; refine (sign_i _ _ (by decide) _).mono ?_; rintro e w' ⟨⟨z, hz, rfl⟩, rfl⟩)
  go_ret
  exact ⟨⟨_, (fun h => by first | exact hz (by trivial) | exact isN_k _ | exact isN_w _ | assumption | (exact absurd h (by decide)) | (unfold isN; omega) | (exact (show isN _ by unfold isN; decide))), rfl⟩, rfl⟩
theorem num_w (b o c : Nat) (w : World) (hx : ∀ i, i < 64 → ∃ x : Int, w.cell? ⟨b, o + i, none⟩ = some (.int .i64 x)) : Calls Try.prog 98 #[.slice (some ⟨b, o, none⟩) 64 c] w (Ad w) := by
  have HX := hid hx
  clear hx
  go_enter Try.func98, Try.ntmps98
  go_wp2
  go_loopw [3, 4] (fun o k wr => ∃ (j d : Nat) (x : Int), j ≤ 64 ∧ k = .int .i64 j ∧ o = .int .u64 x ∧ wr = w.drewN d) (fun _ k _ => 64 - (intOf k).toNat)
  case atStart => exact ⟨0, 0, _, Nat.zero_le _, rfl, rfl, rfl⟩
  case round =>
    obtain ⟨j, d, x, hj, rfl, rfl, rfl⟩ := hrel
    by_cases hlt : j < 64
    · obtain ⟨y, hy⟩ := HX.out j hlt
      obtain ⟨P, hP⟩ : ∃ P : Int, ∀ W, Calls Try.prog 93 #[.int .i64 j] W fun e w' => e = .returned (.int .u64 P) ∧ W = w' := ⟨_, fun W => refPower_any j W (by omega)⟩
      go_wp2
      go_quiet ((go_at_call 93; first | exact Qt.at1 (Qt.of_same (hP _)) | exact Qt.at0 (Qt.of_same (hP _))))
      go_wp2
      go_roundw
      case rel => exact ⟨j + 1, d + nq, _, by omega, by go_num, rfl, by first | rfl | rw [World.drewN_drewN]⟩
      case measure => simp [intOf]; omega
    · go_wp2
      go_ret
      exact ⟨_, rfl, by first | exact isN_k _ | exact isN_w _, below_draws (Below.refl _ _) _⟩
def absN (n : Int) : Int := if n < 0 then -n else n
theorem abs_i (n : Int) (h : isN n) (w : World) : Calls Try.prog 105 #[.int .i64 n] w fun e w' => e = .returned (.int .u64 (absN n)) ∧ w = w' := by
  obtain ⟨h1, h2⟩ := h
  by_cases h : n < 0
  · have e0 : absN n = -n := by unfold absN; rw [if_pos h]
    have e1 : IntKind.u64.wrap n = n + 18446744073709551616 := by rw [IntKind.wrap_u64]; omega
    have e2 : IntKind.u64.wrap (-(n + 18446744073709551616)) = -n := by rw [IntKind.wrap_u64]; omega
    rw [e0]
    go_enter Try.func105, Try.ntmps105
    go_wp2
    go_ret
    exact ⟨rfl, rfl⟩
  · have e0 : absN n = n := by unfold absN; rw [if_neg h]
    have e1 : IntKind.u64.wrap n = n := by rw [IntKind.wrap_u64]; omega
    rw [e0]
    go_enter Try.func105, Try.ntmps105
    go_wp2
    go_ret
    exact ⟨rfl, rfl⟩
def Ai2 (w : World) : Ending → World → Prop := fun e w' => (∃ x y : Int, isN x ∧ isN y ∧ e = .returned (.tuple #[.int .i64 x, .int .i64 y])) ∧ ∃ m, w' = w.drewN m
set_option maxRecDepth 100000 in
theorem div_w (a b : Int) (ha : isN a) (hb : isN b) (w : World) : Calls Try.prog 99 #[.int .i64 a, .int .i64 b] w (Ai2 w) := by
  go_enter Try.func99, Try.ntmps99
  by_cases h : b = 0
  · go_wp2
    go_ret2
    exact ⟨⟨_, _, by first | exact isN_k _ | exact isN_w _ | assumption | (unfold isN; omega) | (unfold isN; decide), by first | exact isN_k _ | exact isN_w _ | assumption | (unfold isN; omega) | (unfold isN; decide), rfl⟩, 0, rfl⟩
  · have hne : absN b ≠ 0 := by unfold absN; split <;> omega
    go_wp2
    go_quiet ((go_at_call 105; first | exact Qt.at1 (Qt.of_same (abs_i _ (by assumption) _)) | exact Qt.at0 (Qt.of_same (abs_i _ (by assumption) _))))
    go_wp2
    all_goals
      go_ret2
      exact ⟨⟨_, _, by first | exact isN_k _ | exact isN_w _ | assumption | (unfold isN; omega) | (unfold isN; decide), by first | exact isN_k _ | exact isN_w _ | assumption | (unfold isN; omega) | (unfold isN; decide), rfl⟩, nq, rfl⟩
theorem divu_w (a b : Int) (w : World) : Calls Try.prog 101 #[.int .u64 a, .int .u64 b] w (Ai2 w) := by
  go_enter Try.func101, Try.ntmps101
  by_cases h : b = 0
  · go_wp2
    go_ret2
    exact ⟨⟨_, _, by first | exact isN_k _ | exact isN_w _ | assumption | (unfold isN; omega) | (unfold isN; decide), by first | exact isN_k _ | exact isN_w _ | assumption | (unfold isN; omega) | (unfold isN; decide), rfl⟩, 0, rfl⟩
  · go_wp2
    go_quiet (fail)
    go_wp2
    go_ret2
    exact ⟨⟨_, _, by first | exact isN_k _ | exact isN_w _ | assumption | (unfold isN; omega) | (unfold isN; decide), by first | exact isN_k _ | exact isN_w _ | assumption | (unfold isN; omega) | (unfold isN; decide), rfl⟩, nq, rfl⟩
theorem intInfo16 : (Try.prog.info? 3).map (fun i => (i.zero, i.size, i.bytes)) = some (some (.int .i64 0), 1, 8) := by kernel_rfl
def intF (F : Nat → Int) (i : Nat) : Value := .int .i64 (F i)
structure Mv (w wr : World) : Prop where
  row : ∃ F : Nat → Int, Hb wr w.heap.size 3 64 (intF F)
  bel : Below w.heap.size w wr
theorem Mv.set {w wr : World} (h : Mv w wr) (j : Nat) (x : Int) : Mv w (wr.setCell ⟨w.heap.size, j, none⟩ (.int .i64 x)) := by
  obtain ⟨⟨F, hF⟩, hb⟩ := h
  exact ⟨⟨updF F j x, (hF.set (i := j) _).congr fun i _ => by unfold updF intF; split <;> simp_all⟩, hb.setCell (p := ⟨_, j, none⟩) (Nat.le_refl _) _⟩
set_option maxHeartbeats 2000000 in
set_option maxRecDepth 100000 in
theorem moved_w (a x : Int) (n wd : Nat) (up : Bool) (hn : n ≤ 63) (hw : wd ≤ 64) (w : World) : Calls Try.prog 87 #[.int .i64 a, .int .i64 n, .bool up, .int .i64 x, .int .i64 wd] w (Ad w) := by
  have hmk : ∀ W : World, (Instr.makeSlice 23 (.int .i64 64) (.int .i64 64)).run Try.prog W = .ok (.slice (some ⟨W.heap.size, 0, none⟩) 64 64) (W.alloc (.cells (madeCells #[.int .i64 0] 64) 3)) := fun W => run_make_row' (P := Try.prog) 23 3 (.int .i64 0) 8 Try.underlying23 intInfo16 rfl .i64 .i64 64 (by omega) (by omega) W
  have HM0 : Hid (Mv w (w.alloc (.cells (madeCells #[.int .i64 0] 64) 3))) := by
    have hsz : (madeCells #[Value.int .i64 0] 64).size = 64 := by
      have := congrArg List.length (toList_madeCells_one (Value.int .i64 0) 64)
      simpa using this
    have hh := Hb.new w (madeCells #[.int .i64 0] 64) 3 (f := intF fun _ => 0) (fun i hi => by
      have h := toList_madeCells_one (Value.int .i64 0) 64
      rw [← Array.getElem?_toList, h, List.getElem?_replicate, if_pos (by rw [← hsz]; exact hi)]; rfl)
    rw [hsz] at hh
    exact hid ⟨⟨_, hh⟩, (Below.refl _ w).alloc (Nat.le_refl _) _⟩
  have HBit := hid bit_i
  have HNum := hid num_w
  go_enter Try.func87, Try.ntmps87
  go_wp2
  generalize w.alloc (.cells (madeCells #[.int .i64 0] 64) 3) = W1 at HM0 ⊢
  clear hmk
  go_loopw [12] (fun k wr => ∃ j : Nat, j ≤ wd ∧ k = .int .i64 j ∧ Mv w wr) (fun k _ => wd - (intOf k).toNat)
  case atStart => exact ⟨0, Nat.zero_le _, rfl, HM0.out⟩
  case round =>
    obtain ⟨j, hj, rfl, hM⟩ := hrel
    have HM := hid hM
    clear hM
    obtain ⟨F, hF⟩ := HM.out.row
    by_cases hlt : j < wd
    · have c1 : wr.cell? ⟨w.heap.size, j, none⟩ = some (intF F j) := hF.cell (i := j) (by omega)
      have f1 := hF.free j
      have HF := hid hF
      clear hF
      have h64 : j < 64 := by omega
      have HM2 := hid (HM.out.set j x)
      cases up
      · by_cases hk : j + n < wd
        · go_wp2_with (go_at_call 81; refine (HBit.out _ _ (by omega) _).mono ?_; rintro e w' ⟨⟨z, hz, rfl⟩, rfl⟩)
          go_roundw
          case rel => exact ⟨j + 1, by omega, by go_num, HM2.out.set j z⟩
          case measure => simp [intOf]; omega
        · go_wp2
          go_roundw
          case rel => exact ⟨j + 1, by omega, by go_num, HM2.out⟩
          case measure => simp [intOf]; omega
      · by_cases hk : n ≤ j
        · go_wp2_with (go_at_call 81; refine (HBit.out _ _ (by omega) _).mono ?_; rintro e w' ⟨⟨z, hz, rfl⟩, rfl⟩)
          go_roundw
          case rel => exact ⟨j + 1, by omega, by go_num, HM2.out.set j z⟩
          case measure => simp [intOf]; omega
        · go_wp2
          go_roundw
          case rel => exact ⟨j + 1, by omega, by go_num, HM2.out⟩
          case measure => simp [intOf]; omega
    · have HX : Hid (∀ i, i < 64 → ∃ x : Int, wr.cell? ⟨w.heap.size, 0 + i, none⟩ = some (.int .i64 x)) := hid fun i hi => ⟨F i, by rw [Nat.zero_add]; exact hF.cell hi⟩
      clear hF
      go_wp2_with (go_at_call 98; refine (HNum.out _ _ _ _ HX.out).mono ?_; rintro e w' ⟨z, rfl, hz, hB⟩; have HB2 := hid (HM.out.bel.trans (hB.mono HM.out.bel.size)); clear hB)
      go_ret
      exact ⟨_, rfl, hz, HB2.out⟩
end Go.Proofs.Ytchjjbcmbdmlgaa
namespace Go.Proofs.Ytchjjbcmbdmlgaa
open Go Go.RowKit Sim
def u64F (F : Nat → Int) (i : Nat) : Value := .int .u64 (F i)
def Uw (W : World) (b : Nat) (t : TypeId) (N : Nat) : Prop := ∃ F : Nat → Int, Hb W b t N (u64F F)
section
variable {W W' : World} {b N : Nat} {t : TypeId}
theorem Uw.set (h : Uw W b t N) (j : Nat) (x : Int) : Uw (W.setCell ⟨b, j, none⟩ (.int .u64 x)) b t N := by
  obtain ⟨F, hF⟩ := h
  exact ⟨updF F j x, (hF.set (i := j) _).congr fun i _ => by unfold updF u64F; split <;> simp_all⟩
theorem Uw.other (h : Uw W b t N) {c : Nat} (hc : b ≠ c) (j : Nat) (v : Value) : Uw (W.setCell ⟨c, j, none⟩ v) b t N := by
  obtain ⟨F, hF⟩ := h
  exact ⟨F, hF.other (by exact hc) v⟩
theorem Uw.draws (h : Uw W b t N) (n : Nat) : Uw (W.drewN n) b t N := h
theorem Uw.alloc (h : Uw W b t N) (o : Obj) : Uw (W.alloc o) b t N := by
  obtain ⟨F, hF⟩ := h
  exact ⟨F, hF.alloc o⟩
theorem Uw.at (h : Uw W b t N) {i : Nat} (hi : i < N) : ∃ x : Int, W.cell? ⟨b, i, none⟩ = some (.int .u64 x) := by
  obtain ⟨F, hF⟩ := h
  exact ⟨F i, hF.cell hi⟩
theorem Uw.free (h : Uw W b t N) (i : Nat) : W.frozen? ⟨b, i, none⟩ = false := by
  obtain ⟨F, hF⟩ := h
  exact hF.free i
theorem Uw.new (W : World) (F : Nat → Int) (cs : Array Value) (t : TypeId) (hf : ∀ i, i < cs.size → cs[i]? = some (u64F F i)) : Uw (W.alloc (.cells cs t)) W.heap.size t cs.size := ⟨F, Hb.new W cs t hf⟩
end
structure Ml (w W : World) (B : Nat) : Prop where
  d : Uw W B 146 4
  x : Uw W (B + 1) 146 4
  y : Uw W (B + 2) 146 4
  s : Uw W (B + 3) 70 8
  bel : Below B w W
theorem Ml.draws {w W : World} {B : Nat} (h : Ml w W B) (n : Nat) : Ml w (W.drewN n) B := ⟨h.d, h.x, h.y, h.s, below_draws h.bel n⟩
theorem Ml.set {w W : World} {B : Nat} (h : Ml w W B) (j : Nat) (z : Int) : Ml w (W.setCell ⟨B + 3, j, none⟩ (.int .u64 z)) B :=
  ⟨h.d.other (by omega) _ _, h.x.other (by omega) _ _, h.y.other (by omega) _ _, h.s.set j z, h.bel.setCell (p := ⟨B + 3, j, none⟩) (by show B ≤ B + 3; omega) _⟩
theorem lt4 {P : Nat → Prop} (h : P 0 ∧ P 1 ∧ P 2 ∧ P 3) : ∀ k, k < 4 → P k := fun k hk => by
  obtain ⟨h0, h1, h2, h3⟩ := h
  have : k = 0 ∨ k = 1 ∨ k = 2 ∨ k = 3 := by omega
  rcases this with rfl | rfl | rfl | rfl <;> assumption
theorem new4 (W : World) (a b c d : Int) (t : TypeId) : Uw (W.alloc (.cells #[.int .u64 a, .int .u64 b, .int .u64 c, .int .u64 d] t)) W.heap.size t 4 :=
  Uw.new W (fun i => if i = 0 then a else if i = 1 then b else if i = 2 then c else d) #[.int .u64 a, .int .u64 b, .int .u64 c, .int .u64 d] t (lt4 ⟨rfl, rfl, rfl, rfl⟩)
theorem new8 (W : World) (t : TypeId) : Uw (W.alloc (.cells #[.int .u64 0, .int .u64 0, .int .u64 0, .int .u64 0, .int .u64 0, .int .u64 0, .int .u64 0, .int .u64 0] t)) W.heap.size t 8 :=
  Uw.new W (fun _ => 0) #[.int .u64 0, .int .u64 0, .int .u64 0, .int .u64 0, .int .u64 0, .int .u64 0, .int .u64 0, .int .u64 0] t (fun k hk => by
    have : k = 0 ∨ k = 1 ∨ k = 2 ∨ k = 3 ∨ k = 4 ∨ k = 5 ∨ k = 6 ∨ k = 7 := by simp at hk; omega
    rcases this with rfl | rfl | rfl | rfl | rfl | rfl | rfl | rfl <;> rfl)
theorem ml0 (w : World) (x0 x1 x2 x3 y0 y1 y2 y3 : Int) : Ml w ((((w.alloc (.cells #[.int .u64 0, .int .u64 0, .int .u64 0, .int .u64 0] 146)).alloc (.cells #[.int .u64 x0, .int .u64 x1, .int .u64 x2, .int .u64 x3] 146)).alloc (.cells #[.int .u64 y0, .int .u64 y1, .int .u64 y2, .int .u64 y3] 146)).alloc (.cells #[.int .u64 0, .int .u64 0, .int .u64 0, .int .u64 0, .int .u64 0, .int .u64 0, .int .u64 0, .int .u64 0] 70)) w.heap.size := by
  have s1 : (w.alloc (.cells #[.int .u64 0, .int .u64 0, .int .u64 0, .int .u64 0] 146)).heap.size = w.heap.size + 1 := by simp
  have s2 : ((w.alloc (.cells #[.int .u64 0, .int .u64 0, .int .u64 0, .int .u64 0] 146)).alloc (.cells #[.int .u64 x0, .int .u64 x1, .int .u64 x2, .int .u64 x3] 146)).heap.size = w.heap.size + 2 := by simp
  have s3 : (((w.alloc (.cells #[.int .u64 0, .int .u64 0, .int .u64 0, .int .u64 0] 146)).alloc (.cells #[.int .u64 x0, .int .u64 x1, .int .u64 x2, .int .u64 x3] 146)).alloc (.cells #[.int .u64 y0, .int .u64 y1, .int .u64 y2, .int .u64 y3] 146)).heap.size = w.heap.size + 3 := by simp
  refine ⟨(((new4 w 0 0 0 0 146).alloc _).alloc _).alloc _, ?_, ?_, ?_, ?_⟩
  · have := new4 (w.alloc (.cells #[.int .u64 0, .int .u64 0, .int .u64 0, .int .u64 0] 146)) x0 x1 x2 x3 146
    rw [s1] at this
    exact (this.alloc _).alloc _
  · have := new4 ((w.alloc (.cells #[.int .u64 0, .int .u64 0, .int .u64 0, .int .u64 0] 146)).alloc (.cells #[.int .u64 x0, .int .u64 x1, .int .u64 x2, .int .u64 x3] 146)) y0 y1 y2 y3 146
    rw [s2] at this
    exact this.alloc _
  · have := new8 (((w.alloc (.cells #[.int .u64 0, .int .u64 0, .int .u64 0, .int .u64 0] 146)).alloc (.cells #[.int .u64 x0, .int .u64 x1, .int .u64 x2, .int .u64 x3] 146)).alloc (.cells #[.int .u64 y0, .int .u64 y1, .int .u64 y2, .int .u64 y3] 146)) 70
    rw [s3] at this
    exact this
  · exact ((((Below.refl _ w).alloc (Nat.le_refl _) _).alloc (by simp) _).alloc (by simp; omega) _).alloc (by simp; omega) _
def Ad2 (w : World) : Ending → World → Prop := fun e w' => ∃ x y : Int, e = .returned (.tuple #[.int .u64 x, .int .u64 y]) ∧ Below w.heap.size w w'
set_option maxHeartbeats 4000000 in
set_option maxRecDepth 100000 in
theorem mul_w (a b : Int) (w : World) : Calls Try.prog 102 #[.int .u64 a, .int .u64 b] w (Ad2 w) := by
  go_enter Try.func102, Try.ntmps102
  go_upto_region 5 with (fail)
  have hM0 := ml0 w (a.tmod 65536) ((IntKind.u64.wrap (a.tdiv 65536)).tmod 65536) ((IntKind.u64.wrap (a.tdiv 4294967296)).tmod 65536) (IntKind.u64.wrap (a.tdiv 281474976710656)) (b.tmod 65536) ((IntKind.u64.wrap (b.tdiv 65536)).tmod 65536) ((IntKind.u64.wrap (b.tdiv 4294967296)).tmod 65536) (IntKind.u64.wrap (b.tdiv 281474976710656))
  generalize World.alloc _ _ = W1 at hM0 ⊢
  have HM0 := hid hM0
  clear hM0
  go_wp2
  go_loopw [10] (fun v wr => ∃ i : Nat, i ≤ 4 ∧ v = .int .i64 i ∧ Ml w wr w.heap.size) (fun v _ => 4 - (intOf v).toNat)
  case atStart => exact ⟨0, by omega, rfl, HM0.out⟩
  case round =>
    obtain ⟨i, hi, rfl, hM⟩ := hrel
    have HM := hid hM
    clear hM
    by_cases hlt : i < 4
    · go_wp2
      go_loopw [11] (fun v wr => ∃ k : Nat, k ≤ 4 ∧ v = .int .i64 k ∧ Ml w wr w.heap.size) (fun v _ => 4 - (intOf v).toNat)
      case atStart => exact ⟨0, by omega, rfl, HM.out⟩
      case round =>
        obtain ⟨k, hk, rfl, hM⟩ := hrel
        by_cases hlt2 : k < 4
        · obtain ⟨x, hx⟩ := hM.x.at hlt
          obtain ⟨y, hy⟩ := hM.y.at hlt2
          obtain ⟨s0, hs0⟩ := hM.s.at (i := i + k) (by omega)
          obtain ⟨s1, hs1⟩ := hM.s.at (i := i + k + 1) (by omega)
          have f0 := hM.s.free (i + k)
          have f1 := hM.s.free (i + k + 1)
          have HM2 := hid hM
          have hik : i + k < 8 := by omega
          have hik1 : i + k + 1 < 8 := by omega
          clear hM
          go_wp2
          go_quiet (fail)
          go_wp2
          go_roundw
          case rel => exact ⟨k + 1, by omega, by go_num, ((HM2.out.draws nq).set (i + k) _).set (i + k + 1) _⟩
          case measure => simp [intOf]; omega
        · have HM2 := hid hM
          clear hM
          go_wp2
          go_roundw
          case rel => exact ⟨i + 1, by omega, by go_num, HM2.out⟩
          case measure => simp [intOf]; omega
    · go_upto_region 15 with (fail)
      have hN := new4 wr 0 0 0 0 146
      have hM2 : Ml w (wr.alloc (.cells #[.int .u64 0, .int .u64 0, .int .u64 0, .int .u64 0] 146)) w.heap.size := ⟨HM.out.d.alloc _, HM.out.x.alloc _, HM.out.y.alloc _, HM.out.s.alloc _, HM.out.bel.alloc HM.out.bel.size _⟩
      have hlt4 : w.heap.size + 3 < wr.heap.size := by
        obtain ⟨F, hF⟩ := HM.out.s
        exact hF.lt
      generalize wr.alloc (.cells #[.int .u64 0, .int .u64 0, .int .u64 0, .int .u64 0] 146) = W2 at hN hM2 ⊢
      generalize wr.heap.size = h13 at hN hlt4 ⊢
      have HN := hid hN
      have HM2 := hid hM2
      clear hN hM2 HM
      go_wp2
      go_loopw [14, 15] (fun c v wr => ∃ (i : Nat) (x : Int), i ≤ 8 ∧ v = .int .i64 i ∧ c = .int .u64 x ∧ Ml w wr w.heap.size ∧ Uw wr h13 146 4) (fun _ v _ => 8 - (intOf v).toNat)
      case atStart => exact ⟨0, 0, by omega, rfl, rfl, HM2.out, HN.out⟩
      case round =>
        obtain ⟨i, x, hi, rfl, rfl, hM, hN⟩ := hrel
        by_cases hlt : i < 8
        · obtain ⟨s0, hs0⟩ := hM.s.at (i := i) (by omega)
          by_cases h4 : i < 4
          · obtain ⟨d0, hd0⟩ := hM.d.at (i := i) h4
            have f0 := hM.d.free i
            have HM3 := hid hM
            have HN3 := hid hN
            clear hM hN
            go_wp2
            go_roundw
            case rel => exact ⟨i + 1, _, by omega, by go_num, rfl, ⟨HM3.out.d.set i _, HM3.out.x.other (by omega) _ _, HM3.out.y.other (by omega) _ _, HM3.out.s.other (by omega) _ _, HM3.out.bel.setCell (p := ⟨_, i, none⟩) (Nat.le_refl _) _⟩, HN3.out.other (by omega) _ _⟩
            case measure => simp [intOf]; omega
          · obtain ⟨j, rfl⟩ : ∃ j, i = j + 4 := ⟨i - 4, by omega⟩
            obtain ⟨d0, hd0⟩ := hN.at (i := j) (by omega)
            have f0 := hN.free j
            have HM3 := hid hM
            have HN3 := hid hN
            have hj : j < 4 := by omega
            clear hM hN
            go_wp2
            go_roundw
            case rel => exact ⟨j + 4 + 1, _, by omega, by go_num, rfl, ⟨HM3.out.d.other (by omega) _ _, HM3.out.x.other (by omega) _ _, HM3.out.y.other (by omega) _ _, HM3.out.s.other (by omega) _ _, HM3.out.bel.setCell (p := ⟨h13, j, none⟩) (by show w.heap.size ≤ h13; omega) _⟩, HN3.out.set j _⟩
            case measure => simp [intOf]; omega
        · obtain ⟨d0, hd0⟩ := hM.d.at (i := 0) (by omega)
          obtain ⟨d1, hd1⟩ := hM.d.at (i := 1) (by omega)
          obtain ⟨d2, hd2⟩ := hM.d.at (i := 2) (by omega)
          obtain ⟨d3, hd3⟩ := hM.d.at (i := 3) (by omega)
          obtain ⟨e0, he0⟩ := hN.at (i := 0) (by omega)
          obtain ⟨e1, he1⟩ := hN.at (i := 1) (by omega)
          obtain ⟨e2, he2⟩ := hN.at (i := 2) (by omega)
          obtain ⟨e3, he3⟩ := hN.at (i := 3) (by omega)
          have HM3 := hid hM
          clear hM hN
          go_wp2
          go_quiet (fail)
          go_wp2
          go_ret2
          exact ⟨_, _, rfl, below_draws HM3.out.bel _⟩
set_option maxHeartbeats 4000000 in
set_option maxRecDepth 100000 in
theorem upper_w (a b : Int) (sa sb : Bool) (ha : isN a) (hb : isN b) (w : World) : Calls Try.prog 103 #[.int .i64 a, .int .i64 b, .bool sa, .bool sb] w (Ad w) := by
  have hA := fun W => abs_i a ha W
  have hB := fun W => abs_i b hb W
  have hM := fun x y W => mul_w x y W
  clear ha hb
  by_cases h1 : a < 0 <;> by_cases h2 : b < 0 <;> cases sa <;> cases sb
  all_goals
    go_enter Try.func103, Try.ntmps103
    go_wp2_with (first
      | (go_at_call_of 105 (Value.int .i64 a); refine (hA _).mono ?_; rintro e w' ⟨rfl, rfl⟩)
      | (go_at_call_of 105 (Value.int .i64 b); refine (hB _).mono ?_; rintro e w' ⟨rfl, rfl⟩)
      | (go_at_call 102; refine (hM _ _ _).mono ?_; rintro e w' ⟨x, y, rfl, hB9⟩))
    all_goals
      go_ret
      exact ⟨_, rfl, by first | exact isN_k _ | exact isN_w _ | assumption | (unfold isN; omega) | (unfold isN; decide), hB9⟩
end Go.Proofs.Ytchjjbcmbdmlgaa
namespace Go.Proofs.Ytchjjbcmbdmlgaa
open Go Go.RowKit Sim
set_option maxHeartbeats 4000000 in
set_option maxRecDepth 100000 in
theorem base_w (s : ByteArray) (h0 : 2 ≤ s.size) (h1 : s.size ≤ 50) (w : World) : Calls Try.prog 86 #[.string s] w (As w) := by
  go_enter Try.func86, Try.ntmps86
  go_wp2
  all_goals
    go_ret
    have hwz : (⟨#[119]⟩ : ByteArray).size = 1 := rfl
    exact ⟨_, rfl, by first | omega | decide | (simp only [ByteArray.size_append, ByteArray.size_extract]; (try simp); omega), by first | omega | decide | (simp only [ByteArray.size_append, ByteArray.size_extract]; (try simp); omega), rfl⟩
theorem moved_i (a x n wd : Int) (up : Bool) (hn : 0 ≤ n ∧ n ≤ 63) (hw : 0 ≤ wd ∧ wd ≤ 64) (w : World) : Calls Try.prog 87 #[.int .i64 a, .int .i64 n, .bool up, .int .i64 x, .int .i64 wd] w (Ad w) := by
  have := moved_w a x n.toNat wd.toNat up (by omega) (by omega) w
  rwa [Int.toNat_of_nonneg hn.1, Int.toNat_of_nonneg hw.1] at this
theorem tm_in (x : Int) (n : Int) (h0 : 0 ≤ x) (hn : 0 < n) : 0 ≤ x.tmod n ∧ x.tmod n < n := by
  rw [Int.tmod_eq_emod_of_nonneg h0]
  exact ⟨Int.emod_nonneg _ (by omega), Int.emod_lt_of_pos _ hn⟩
theorem u64_nn (b : Int) : 0 ≤ IntKind.u64.wrap b := by rw [IntKind.wrap_u64]; omega
set_option maxHeartbeats 4000000 in
set_option maxRecDepth 100000 in
theorem shorts_w (s : ByteArray) (a b : Int) (w : World) : Calls Try.prog 89 #[.string s, .int .i64 a, .int .i64 b] w (Ad w) := by
  obtain ⟨n, hn⟩ : ∃ n, n = (IntKind.u64.wrap b).tmod 32 := ⟨_, rfl⟩
  have hn2 := tm_in (IntKind.u64.wrap b) 32 (u64_nn b) (by omega)
  have hwn : IntKind.i64.wrap ((IntKind.u64.wrap b).tmod 32) = (IntKind.u64.wrap b).tmod 32 := by rw [IntKind.wrap_i64]; omega
  have HN : Hid (0 ≤ (IntKind.u64.wrap b).tmod 32 ∧ (IntKind.u64.wrap b).tmod 32 ≤ 63) := hid ⟨hn2.1, by omega⟩
  clear hn hn2
  go_enter Try.func89, Try.ntmps89
  go_upto_region 5 with (first
    | (go_at_call 100; refine (half_w _ _).mono ?_; rintro e w' ⟨⟨z, hz, rfl⟩, rfl⟩; replace hz := hz rfl)
    | (go_at_call 99; refine (div_w _ _ (by assumption) (by assumption) _).mono ?_; rintro e w' ⟨⟨q, r, hq, hr, rfl⟩, m, rfl⟩)
    | (go_at_call 101; refine (divu_w _ _ _).mono ?_; rintro e w' ⟨⟨qu, ru, hqu, hru, rfl⟩, m2, rfl⟩))
  have HB0 := hid (below_draws (Below.refl w.heap.size w) (m + m2))
  go_wp2_with (first
    | (go_at_call 100; refine (half_w _ _).mono ?_; rintro e w' ⟨⟨z3, hz3, rfl⟩, rfl⟩; replace hz3 := hz3 rfl)
    | (go_at_call 81; refine (bit_i _ _ (by decide) _).mono ?_; rintro e w' ⟨⟨z4, hz4, rfl⟩, rfl⟩)
    | (go_at_call 87; refine (moved_i _ _ _ _ _ HN.out (by decide) _).mono ?_; rintro e w' ⟨z5, rfl, hz5, hB9⟩))
  all_goals
    go_ret
    first
    | exact ⟨_, rfl, hz3, HB0.out.trans hB9⟩
    | exact ⟨_, rfl, hz3, HB0.out⟩
set_option maxHeartbeats 4000000 in
set_option maxRecDepth 100000 in
theorem products_w (s : ByteArray) (a b : Int) (ha : isN a) (hb : isN b) (w : World) : Calls Try.prog 90 #[.string s, .int .i64 a, .int .i64 b] w (Ad w) := by
  go_enter Try.func90, Try.ntmps90
  go_upto_region 3 with (first
    | (go_at_call 99; refine (div_w _ _ (by assumption) (by assumption) _).mono ?_; rintro e w' ⟨⟨q, r, hq, hr, rfl⟩, m, rfl⟩)
    | (go_at_call 101; refine (divu_w _ _ _).mono ?_; rintro e w' ⟨⟨qu, ru, hqu, hru, rfl⟩, m2, rfl⟩))
  have HB0 := hid (below_draws (Below.refl w.heap.size w) (m + m2))
  go_wp2_with (first
    | (go_at_call 102; refine (mul_w _ _ _).mono ?_; rintro e w' ⟨z4, z6, rfl, hB9⟩)
    | (go_at_call 103; refine (upper_w _ _ _ _ (by assumption) (by assumption) _).mono ?_; rintro e w' ⟨z5, rfl, hz5, hB9⟩))
  all_goals
    go_ret
    first
    | exact ⟨_, rfl, by first | exact hz5 | exact isN_k _ | exact isN_w _, HB0.out.trans hB9⟩
    | exact ⟨_, rfl, by assumption, HB0.out⟩
set_option maxHeartbeats 8000000 in
set_option maxRecDepth 100000 in
theorem eval_w (op a b : Int) (ho : 1 ≤ op ∧ op ≤ 87) (ha : isN a) (hb : isN b) (w : World) : Calls Try.prog 71 #[.int .i64 op, .int .i64 a, .int .i64 b] w (Ad w) := by
  have hn2 := tm_in (IntKind.u64.wrap b) 64 (u64_nn b) (by omega)
  have hwn : IntKind.i64.wrap ((IntKind.u64.wrap b).tmod 64) = (IntKind.u64.wrap b).tmod 64 := by rw [IntKind.wrap_i64]; omega
  have HN : Hid (0 ≤ (IntKind.u64.wrap b).tmod 64 ∧ (IntKind.u64.wrap b).tmod 64 ≤ 63) := hid ⟨hn2.1, by omega⟩
  clear hn2
  have hsz : 2 ≤ (nameZ op).size ∧ (nameZ op).size ≤ 50 := by
    obtain ⟨n, hn, rfl⟩ : ∃ n : Nat, n < 88 ∧ op = n := ⟨op.toNat, by omega, by omega⟩
    have hall : (List.range 88).all (fun n => Nat.beq n 0 || (Nat.ble 2 (nameZ (n : Nat)).size && Nat.ble (nameZ (n : Nat)).size 50)) = true := by kernel_rfl
    have h1 := List.all_eq_true.mp hall n (List.mem_range.mpr hn)
    rw [Bool.or_eq_true, Bool.and_eq_true] at h1
    rcases h1 with h1 | ⟨h1, h2⟩
    · have := Nat.eq_of_beq_eq_true h1; omega
    · exact ⟨Nat.le_of_ble_eq_true h1, Nat.le_of_ble_eq_true h2⟩
  have HNm := fun W => refName_ret (gl := fun _ => none) op W (GlobOk.none W)
  generalize nameZ op = s at hsz HNm
  obtain ⟨hs1, hs2⟩ := hsz
  go_enter Try.func71, Try.ntmps71
  go_upto_region 3 with (first
    | (go_at_call 85; refine (HNm _).mono ?_; rintro e w1 ⟨rfl, hB1⟩)
    | (go_at_call 86; refine (base_w _ hs1 hs2 _).mono ?_; rintro e w' ⟨s2, rfl, h0, h100, rfl⟩))
  have HB1 := hid hB1
  have HH := hid (And.intro h0 h100)
  have h0' : 1 ≤ s2.size := h0
  go_wp2_with (first
    | (go_at_call 88; refine (one_w _ _).mono ?_; rintro e w' ⟨⟨z, hz, rfl⟩, rfl⟩; replace hz := hz rfl)
    | (go_at_call 81; refine (bit_i _ _ (by decide) _).mono ?_; rintro e w' ⟨⟨z4, hz4, rfl⟩, rfl⟩)
    | (go_at_call 87; refine (moved_i _ _ _ _ _ HN.out (by decide) _).mono ?_; rintro e w' ⟨z, rfl, hz, hB9⟩)
    | (go_at_call 89; refine (shorts_w _ _ _ _).mono ?_; rintro e w' ⟨z, rfl, hz, hB9⟩)
    | (go_at_call 90; refine (products_w _ _ _ (by assumption) (by assumption) _).mono ?_; rintro e w' ⟨z, rfl, hz, hB9⟩))
  all_goals
    go_ret
    first
    | exact ⟨_, rfl, by first | exact hz | exact isN_k _ | exact isN_w _, HB1.out.trans (hB9.mono HB1.out.size)⟩
    | exact ⟨_, rfl, by first | exact isN_k _ | exact isN_w _ | assumption | (unfold isN; omega) | (unfold isN; decide), HB1.out⟩
set_option maxHeartbeats 8000000 in
set_option maxRecDepth 100000 in
theorem taken_w (op a b : Int) (w : World) : Calls Try.prog 70 #[.int .i64 op, .int .i64 a, .int .i64 b] w (Ab w) := by
  have HNm := fun W => refName_ret (gl := fun _ => none) op W (GlobOk.none W)
  generalize nameZ op = s at HNm
  go_enter Try.func70, Try.ntmps70
  go_upto_region 2 with (go_at_call 85; refine (HNm _).mono ?_; rintro e w1 ⟨rfl, hB1⟩)
  have HB1 := hid hB1
  go_wp2
  all_goals
    go_ret
    exact ⟨_, rfl, HB1.out⟩
set_option maxHeartbeats 8000000 in
set_option maxRecDepth 100000 in
theorem amo_w (op a b : Int) (ha : isN a) (hb : isN b) (w : World) : Calls Try.prog 66 #[.int .i64 op, .int .i64 a, .int .i64 b] w (Ad w) := by
  have HNm := fun W => refName_ret (gl := fun _ => none) op W (GlobOk.none W)
  generalize nameZ op = s at HNm
  go_enter Try.func66, Try.ntmps66
  go_upto_region 4 with (go_at_call 85; refine (HNm _).mono ?_; rintro e w1 ⟨rfl, hB1⟩)
  have HB1 := hid hB1
  go_wp2
  all_goals
    go_ret
    exact ⟨_, rfl, by first | exact isN_k _ | exact isN_w _ | assumption | (unfold isN; omega) | (unfold isN; decide), HB1.out⟩
end Go.Proofs.Ytchjjbcmbdmlgaa
