/- Has16, Spn16, One16, Nsp16. -/
import Derived.Test.YtchjjbcmbdmlgaaK02
import Derived.Test.YtchjjbcmbdmlgaaK06
import Derived.Test.YtchjjbcmbdmlgaaPpo16
set_option linter.unusedVariables false
set_option linter.unusedSimpArgs false
namespace Go.Proofs.Ytchjjbcmbdmlgaa
open Go Go.RowKit
def RdL (w : World) (v : Value) (n : Nat) (F : Nat → Int) : Prop := ∃ q c, v = .slice q n c ∧ (0 < n → ∃ b o, q = some ⟨b, o, none⟩ ∧ ∀ i, i < n → w.cell? ⟨b, o + i, none⟩ = some (.int .i64 (F i)))
theorem RdL.draws {w : World} {v : Value} {n : Nat} {F : Nat → Int} (h : RdL w v n F) (k : Nat) : RdL (w.drewN k) v n F := h
open Classical in
noncomputable def inF (F : Nat → Int) (n : Nat) (x : Int) : Bool := decide (∃ i, i < n ∧ F i = x)
theorem inF_yes {F : Nat → Int} {n : Nat} {x : Int} {i : Nat} (hi : i < n) (h : F i = x) : inF F n x = true := by
  unfold inF; simp only [decide_eq_true_eq]; exact ⟨i, hi, h⟩
theorem inF_no {F : Nat → Int} {n : Nat} {x : Int} (h : ∀ i, i < n → F i ≠ x) : inF F n x = false := by
  unfold inF; simp only [decide_eq_false_iff_not]; rintro ⟨i, hi, e⟩; exact h i hi e
theorem index_w {w : World} {v : Value} {n : Nat} {F : Nat → Int} (hv : RdL w v n F) (hn : n ≤ 1000000) (x : Int) : Calls Try.prog 74 #[v, .int .i64 x] w fun e w' => (∃ k : Int, e = .returned (.int .i64 k) ∧ decide (0 ≤ k) = inF F n x) ∧ w = w' := by
  obtain ⟨q, c, rfl, hc⟩ := hv
  have HC := hid hc
  clear hc
  go_enter Try.func74, Try.ntmps74
  go_wp2
  go_loop [8] (fun k => ∃ j : Nat, j ≤ n ∧ k = .int .i64 j ∧ ∀ i, i < j → F i ≠ x) (fun k => n - (intOf k).toNat)
  case atStart => exact ⟨0, Nat.zero_le _, rfl, fun i hi => by omega⟩
  case round =>
    obtain ⟨j, hj, rfl, hno⟩ := hrel
    have HN := hid hno
    clear hno
    by_cases hlt : j < n
    · obtain ⟨b, o, rfl, hx⟩ := HC.out (by omega)
      have hx := hx j hlt
      by_cases he : x = F j
      · have Hy := hid (inF_yes hlt he.symm)
        have hb : (x == F j) = true := by simpa using he
        clear he
        go_wp2
        go_ret
        exact ⟨⟨_, rfl, by rw [Hy.out]; simp⟩, rfl⟩
      · have hb : (x == F j) = false := by simpa using he
        have He := hid he
        clear he
        go_wp2
        go_round
        case rel => exact ⟨j + 1, by omega, by go_num, fun i hi => by
          by_cases e : i = j
          · subst e; exact fun h => He.out h.symm
          · exact HN.out i (by omega)⟩
        case measure => simp [intOf]; omega
    · obtain rfl : n = j := by omega
      go_wp2
      go_ret
      exact ⟨⟨_, rfl, by rw [inF_no HN.out]; rfl⟩, rfl⟩
theorem contains_w {w : World} {v : Value} {n : Nat} {F : Nat → Int} (hv : RdL w v n F) (hn : n ≤ 1000000) (x : Int) : Calls Try.prog 59 #[v, .int .i64 x] w fun e w' => e = .returned (.bool (inF F n x)) ∧ w = w' := by
  have HI := hid (index_w hv hn x)
  obtain ⟨q, c, rfl, _⟩ := hv
  go_enter Try.func59, Try.ntmps59
  go_wp2_with (go_at_call 74; refine HI.out.mono ?_; rintro e w' ⟨⟨k, rfl, hk⟩, rfl⟩)
  go_ret
  exact ⟨by rw [← hk]; rfl, rfl⟩
theorem refHas_w {w : World} {v : Value} {n : Nat} {F : Nat → Int} (hv : RdL w v n F) (hn : n ≤ 1000000) (x : Int) : Calls Try.prog 24 #[v, .int .i64 x] w fun e w' => e = .returned (.bool (inF F n x)) ∧ w = w' := by
  obtain ⟨q, c, rfl, hc⟩ := hv
  have HC := hid hc
  clear hc
  go_enter Try.func24, Try.ntmps24
  go_wp2
  go_loop [5] (fun k => ∃ j : Nat, j ≤ n ∧ k = .int .i64 j ∧ ∀ i, i < j → F i ≠ x) (fun k => n - (intOf k).toNat)
  case atStart => exact ⟨0, Nat.zero_le _, rfl, fun i hi => by omega⟩
  case round =>
    obtain ⟨j, hj, rfl, hno⟩ := hrel
    have HN := hid hno
    clear hno
    by_cases hlt : j < n
    · obtain ⟨b, o, rfl, hx⟩ := HC.out (by omega)
      have hx := hx j hlt
      by_cases he : F j = x
      · have Hy := hid (inF_yes hlt he)
        have hb : (F j == x) = true := by simpa using he
        clear he
        go_wp2
        go_ret
        exact ⟨by rw [Hy.out]; rfl, rfl⟩
      · have hb : (F j == x) = false := by simpa using he
        have He := hid he
        clear he
        go_wp2
        go_round
        case rel => exact ⟨j + 1, by omega, by go_num, fun i hi => by
          by_cases e : i = j
          · subst e; exact He.out
          · exact HN.out i (by omega)⟩
        case measure => simp [intOf]; omega
    · obtain rfl : n = j := by omega
      go_wp2
      go_ret
      exact ⟨by rw [inF_no HN.out]; rfl, rfl⟩
def RdR (w : World) (v : Value) (n : Nat) (F G : Nat → Int) : Prop := ∃ q c, v = .slice q n c ∧ (0 < n → ∃ b o, q = some ⟨b, o, none⟩ ∧ ∀ i, i < n → w.cell? ⟨b, o + i * 2, none⟩ = some (.int .i64 (F i)) ∧ w.cell? ⟨b, o + i * 2 + 1, none⟩ = some (.int .i64 (G i)))
theorem RdR.below {w w' : World} {v : Value} {n : Nat} {F G : Nat → Int} (h : RdR w v n F G) (hb : Below w.heap.size w w') : RdR w' v n F G := by
  obtain ⟨q, c, rfl, hc⟩ := h
  refine ⟨q, c, rfl, fun hp => ?_⟩
  obtain ⟨b, o, e, hx⟩ := hc hp
  have hlt : b < w.heap.size := by
    have := (hx 0 hp).1
    rcases Nat.lt_or_ge b w.heap.size with h | h
    · exact h
    · simp [World.cell?, Array.getElem?_eq_none h] at this
  exact ⟨b, o, e, fun i hi => ⟨(hb.cell (p := ⟨b, _, none⟩) hlt).trans (hx i hi).1, (hb.cell (p := ⟨b, _, none⟩) hlt).trans (hx i hi).2⟩⟩
open Classical in
noncomputable def inR (F G : Nat → Int) (n : Nat) (x y : Int) : Bool := decide (∃ i, i < n ∧ F i = x ∧ G i = y)
theorem inR_yes {F G : Nat → Int} {n : Nat} {x y : Int} {i : Nat} (hi : i < n) (h : F i = x) (h' : G i = y) : inR F G n x y = true := by
  unfold inR; simp only [decide_eq_true_eq]; exact ⟨i, hi, h, h'⟩
theorem inR_no {F G : Nat → Int} {n : Nat} {x y : Int} (h : ∀ i, i < n → ¬ (F i = x ∧ G i = y)) : inR F G n x y = false := by
  unfold inR; simp only [decide_eq_false_iff_not]; rintro ⟨i, hi, e⟩; exact h i hi e
set_option maxHeartbeats 1000000 in
set_option maxRecDepth 100000 in
theorem indexR_w {w : World} {v : Value} {n : Nat} {F G : Nat → Int} (hv : RdR w v n F G) (hn : n ≤ 1000000) (x y : Int) : Calls Try.prog 60 #[v, .agg #[.int .i64 x, .int .i64 y]] w fun e w' => ∃ k : Int, e = .returned (.int .i64 k) ∧ decide (0 ≤ k) = inR F G n x y ∧ Below w.heap.size w w' := by
  have HB := hid ((Below.refl w.heap.size w).alloc (Nat.le_refl _) (.cells #[.int .i64 x, .int .i64 y] 43))
  have hv2 := hv.below HB.out
  obtain ⟨q, c, rfl, hc⟩ := hv2
  clear hv
  have HC := hid hc
  clear hc
  go_enter Try.func60, Try.ntmps60
  have hk := Hb.arr w #[.int .i64 x, .int .i64 y] 43
  have k0 : (w.alloc (.cells #[.int .i64 x, .int .i64 y] 43)).cell? ⟨w.heap.size, 0, none⟩ = some (.int .i64 x) := hk.cell (i := 0) (by simp)
  have k1 : (w.alloc (.cells #[.int .i64 x, .int .i64 y] 43)).cell? ⟨w.heap.size, 1, none⟩ = some (.int .i64 y) := hk.cell (i := 1) (by simp)
  clear hk
  go_wp2
  generalize w.alloc (.cells #[.int .i64 x, .int .i64 y] 43) = W1 at HB HC k0 k1 ⊢
  go_loopw [8] (fun k wr => ∃ j d : Nat, j ≤ n ∧ k = .int .i64 j ∧ (∀ i, i < j → ¬ (F i = x ∧ G i = y)) ∧ wr = W1.drewN d) (fun k _ => n - (intOf k).toNat)
  case atStart => exact ⟨0, 0, Nat.zero_le _, rfl, (fun i hi => by omega), rfl⟩
  case round =>
    obtain ⟨j, d, hj, rfl, hno, rfl⟩ := hrel
    have HN := hid hno
    clear hno
    by_cases hlt : j < n
    · obtain ⟨b, o, rfl, hx⟩ := HC.out (by omega)
      obtain ⟨f1, f2⟩ := hx j hlt
      clear hx
      obtain ⟨u1, hu1⟩ : ∃ u, u = F j := ⟨_, rfl⟩
      obtain ⟨u2, hu2⟩ : ∃ u, u = G j := ⟨_, rfl⟩
      rw [← hu1] at f1
      rw [← hu2] at f2
      have HU := hid (And.intro hu1 hu2)
      clear hu1 hu2
      by_cases q1 : x = u1 <;> by_cases q2 : y = u2
      all_goals
        have HQ := hid (And.intro q1 q2)
        go_wp2
        go_quiet (fail)
        go_wp2
        first
        | (go_ret; exact ⟨_, rfl, by rw [inR_yes hlt (HU.out.1.symm.trans HQ.out.1.symm) (HU.out.2.symm.trans HQ.out.2.symm)]; simp, below_draws (below_draws HB.out _) _⟩)
        | (go_roundw
           case rel => exact ⟨j + 1, d + nq, by omega, by go_num, (fun i hi hc => by
             by_cases e : i = j
             · subst e
               rw [← HU.out.1, ← HU.out.2] at hc
               first | exact HQ.out.1 hc.1.symm | exact HQ.out.2 hc.2.symm
             · exact HN.out i (by omega) hc), by first | rfl | rw [World.drewN_drewN]⟩
           case measure => simp [intOf]; omega)
    · obtain rfl : n = j := by omega
      go_wp2
      go_ret
      exact ⟨_, rfl, by rw [inR_no HN.out]; rfl, below_draws HB.out _⟩
theorem containsR_w {w : World} {v : Value} {n : Nat} {F G : Nat → Int} (hv : RdR w v n F G) (hn : n ≤ 1000000) (x y : Int) : Calls Try.prog 45 #[v, .agg #[.int .i64 x, .int .i64 y]] w fun e w' => e = .returned (.bool (inR F G n x y)) ∧ Below w.heap.size w w' := by
  have HB := hid ((Below.refl w.heap.size w).alloc (Nat.le_refl _) (.cells #[.int .i64 x, .int .i64 y] 43))
  have HI := hid (indexR_w (hv.below HB.out) hn x y)
  obtain ⟨q, c, rfl, _⟩ := hv
  go_enter Try.func45, Try.ntmps45
  go_wp2_with (go_at_call 60; refine HI.out.mono ?_; rintro e w' ⟨k, rfl, hk, hB⟩; have HB2 := hid (HB.out.trans (hB.mono HB.out.size)); clear hB)
  go_ret
  exact ⟨by rw [← hk]; rfl, HB2.out⟩
end Go.Proofs.Ytchjjbcmbdmlgaa
namespace Go.Proofs.Ytchjjbcmbdmlgaa
open Go Go.RowKit Sim
def stoB (e : EvZ) : Bool := wideB e.i.op && formZ e.i.op == 11
section
variable {w : World} {b o : Nat} {e : EvZ} {va vd vc : Value}
theorem isStoring_w (h : EvA w b o e va vd vc) : Calls Try.prog 40 #[.pointer (some ⟨b, o, none⟩)] w fun x w' => x = .returned (.bool (stoB e)) ∧ Below w.heap.size w w' := by
  have hlt := h.lt
  have c1 : w.cell? ⟨b, o + 3, none⟩ = some (.int .i64 e.i.op) := h 3 (by omega)
  unfold stoB
  generalize e.i.op = op at c1 ⊢
  have HW := fun W => wide_ret (gl := fun _ => none) op W (GlobOk.none W)
  have HF := fun W => form_ret (gl := fun _ => none) op W (GlobOk.none W)
  generalize formZ op = f at HF ⊢
  obtain ⟨m, hm⟩ : ∃ m, m = (wideB op && f == 11) := ⟨_, rfl⟩
  rw [← hm]
  have Hm := hid hm
  clear hm h
  obtain ⟨u, hu⟩ : ∃ u, wideB op = u := ⟨_, rfl⟩
  rw [hu] at HW Hm
  clear hu
  go_enter Try.func40, Try.ntmps40
  cases u
  · go_wp2_with (go_at_call 57; refine (HW _).mono ?_; rintro x w1 ⟨rfl, hB⟩; have HB := hid hB; clear hB)
    go_ret
    exact ⟨by rw [Hm.out]; rfl, HB.out⟩
  · go_wp2_with (first
      | (go_at_call 57; refine (HW _).mono ?_; rintro x w1 ⟨rfl, hB⟩; have HB := hid hB; have c2 := (hB.cell (p := ⟨b, o + 3, none⟩) hlt).trans c1; clear hB)
      | (go_at_call 58; refine (HF _).mono ?_; rintro x w2 ⟨rfl, hB⟩; have HB2 := hid (HB.out.trans (hB.mono HB.out.size)); clear hB))
    go_ret
    exact ⟨by rw [Hm.out]; rfl, HB2.out⟩
structure SpZ where
  fb : Nat
  fo : Nat
  ix : Nat
  fen : Nat
  ps : Value
  rew : Bool
  rsv : Bool
  adr : Bool
def spF (s : SpZ) (k : Nat) : Value := ([.pointer (some ⟨s.fb, s.fo, none⟩), .int .i64 s.ix, .int .i64 s.fen, s.ps, .bool s.rew, .bool s.rsv, .bool s.adr] : List Value).getD k undef
theorem isIn_w {sb : Nat} {s : SpZ} (h : Hb w sb 90 7 (spF s)) {v : Value} {n : Nat} {F : Nat → Int} (hv : RdL w v n F) (hn : n ≤ 1000000) : Calls Try.prog 44 #[.pointer (some ⟨sb, 0, none⟩), v] w fun x w' => x = .returned (.bool (inF F n s.ix)) ∧ w = w' := by
  have c1 : w.cell? ⟨sb, 1, none⟩ = some (.int .i64 s.ix) := h.cell (i := 1) (by omega)
  have HC := hid (contains_w hv hn (s.ix : Int))
  obtain ⟨q, c, rfl, _⟩ := hv
  go_enter Try.func44, Try.ntmps44
  go_wp2_with (go_at_call 59; refine HC.out.mono ?_; rintro e w' ⟨rfl, rfl⟩)
  go_ret
  exact ⟨rfl, rfl⟩
def keptN (e m : EvZ) : Nat := if m.i.op = 63 then (if incB (m.i.imm / 16).toNat e then (m.i.imm % 16).toNat else 0) else if m.i.op = 64 then 1 else 0
set_option maxHeartbeats 1000000 in
theorem keptBy_w {sb : Nat} {s : SpZ} (hs : Hb w sb 90 7 (spF s)) (hf : EvA w s.fb s.fo e va vd vc) {m : EvZ} {va' vd' vc' : Value} (hm : EvA w b o m va' vd' vc') (hi : m.i.op = 63 → 0 ≤ m.i.imm ∧ m.i.imm ≤ 255) :
    Calls Try.prog 48 #[.pointer (some ⟨sb, 0, none⟩), .pointer (some ⟨b, o, none⟩)] w (Qt w (.int .i64 (keptN e m : Nat))) := by
  have c1 : w.cell? ⟨sb, 0, none⟩ = some (.pointer (some ⟨s.fb, s.fo, none⟩)) := hs.cell (i := 0) (by omega)
  have c2 : w.cell? ⟨b, o + 3, none⟩ = some (.int .i64 m.i.op) := hm 3 (by omega)
  have c3 : w.cell? ⟨b, o + 3 + 4, none⟩ = some (.int .i64 m.i.imm) := hm 7 (by omega)
  obtain ⟨k, hk⟩ : ∃ k, k = keptN e m := ⟨_, rfl⟩
  rw [← hk]
  have Hk := hid hk
  clear hk
  by_cases h63 : m.i.op = 63
  · obtain ⟨h1, h2⟩ := hi h63
    obtain ⟨p, hp⟩ : ∃ p : Nat, p = (m.i.imm / 16).toNat := ⟨_, rfl⟩
    obtain ⟨q, hq⟩ : ∃ q : Nat, q = (m.i.imm % 16).toNat := ⟨_, rfl⟩
    have HI := hid (fun k => includes_w (w := w.drewN k) (e := e) (va := va) (vd := vd) (vc := vc) hf p (by omega))
    have HK : Hid (k = if incB p e then q else 0) := hid (by rw [Hk.out]; unfold keptN; rw [if_pos h63, ← hp, ← hq])
    have e1 : m.i.imm / 16 = (p : Int) := by omega
    have e2 : m.i.imm % 16 = (q : Int) := by omega
    have e3 : m.i.imm.tdiv 16 = (p : Int) := by rw [Int.tdiv_eq_ediv_of_nonneg (by omega)]; omega
    have e4 : m.i.imm.tmod 16 = (q : Int) := by rw [Int.tmod_eq_emod_of_nonneg (by omega)]; omega
    have e5 : IntKind.i64.wrap (p : Int) = (p : Int) := by rw [IntKind.wrap_i64]; omega
    rw [h63] at c2
    generalize m.i.imm = im at c3 e1 e2 e3 e4
    clear hp hq hi Hk h63 h1 h2
    generalize incB p e = u at HI HK
    go_enter Try.func48, Try.ntmps48
    go_wp2
    go_quiet ((go_at_call 42; first | exact Qt.at1 (Qt.of_same (HI.out _)) | exact Qt.at0 (Qt.of_same (HI.out _))))
    cases u
    · go_wp2
      go_ret
      exact ⟨by rw [HK.out]; rfl, _, rfl⟩
    · go_wp2
      go_ret
      exact ⟨by rw [HK.out]; rfl, _, rfl⟩
  · by_cases h64 : m.i.op = 64
    · have HK : Hid (k = 1) := hid (by rw [Hk.out]; unfold keptN; rw [if_neg h63, if_pos h64])
      rw [h64] at c2
      clear h63 h64 hi Hk
      go_enter Try.func48, Try.ntmps48
      go_wp2
      go_ret
      exact ⟨by rw [HK.out]; rfl, 0, rfl⟩
    · have HK : Hid (k = 0) := hid (by rw [Hk.out]; unfold keptN; rw [if_neg h63, if_neg h64])
      generalize m.i.op = op at c2 h63 h64
      have b1 : (op == 63) = false := by simpa using h63
      have b2 : (op == 64) = false := by simpa using h64
      clear h63 h64 hi Hk
      go_enter Try.func48, Try.ntmps48
      go_wp2
      go_ret
      exact ⟨by rw [HK.out]; rfl, 0, rfl⟩
end
end Go.Proofs.Ytchjjbcmbdmlgaa
namespace Go.Proofs.Ytchjjbcmbdmlgaa
open Go Go.RowKit Sim
structure EvsZ where
  e : Nat → EvZ
  a : Nat → Value
  d : Nat → Value
  c : Nat → Value
def EvsL (w : World) (v : Value) (n : Nat) (E : EvsZ) : Prop := ∃ q c, v = .slice q n c ∧ (0 < n → ∃ b o, q = some ⟨b, o, none⟩ ∧ ∀ i, i < n → EvA w b (o + i * 23) (E.e i) (E.a i) (E.d i) (E.c i))
def oneB (E : EvsZ) (n : Nat) (a b : Int) : Bool := decide (0 ≤ a) && (decide (a < b) && (decide (b < (n : Int)) && (E.e a.toNat).ht == (E.e b.toNat).ht))
set_option maxHeartbeats 1000000 in
theorem oneHart_w {w : World} {v : Value} {n : Nat} {E : EvsZ} (h : EvsL w v n E) (hn : n ≤ 1000000) (a b : Int) : Calls Try.prog 18 #[v, .int .i64 a, .int .i64 b] w (Qt w (.bool (oneB E n a b))) := by
  obtain ⟨q, c, rfl, hc⟩ := h
  obtain ⟨m, hm⟩ : ∃ m, m = oneB E n a b := ⟨_, rfl⟩
  rw [← hm]
  have Hm := hid hm
  clear hm
  by_cases h1 : 0 ≤ a
  · by_cases h2 : a < b
    · by_cases h3 : b < (n : Int)
      · obtain ⟨i, rfl⟩ : ∃ i : Nat, a = (i : Int) := ⟨a.toNat, by omega⟩
        obtain ⟨j, rfl⟩ : ∃ j : Nat, b = (j : Int) := ⟨b.toNat, by omega⟩
        obtain ⟨b0, o0, rfl, hx⟩ := hc (by omega)
        have c1 : w.cell? ⟨b0, o0 + i * 23, none⟩ = some (.int .i64 (E.e i).ht) := hx i (by omega) 0 (by omega)
        have c2 : w.cell? ⟨b0, o0 + j * 23, none⟩ = some (.int .i64 (E.e j).ht) := hx j (by omega) 0 (by omega)
        have Hk : Hid (m = ((E.e i).ht == (E.e j).ht)) := hid (by rw [Hm.out]; unfold oneB; simp only [Int.toNat_natCast]; rw [decide_eq_true h1, decide_eq_true h2, decide_eq_true h3]; rfl)
        have hij : i < j := by omega
        have hjn : j < n := by omega
        have hin : i < n := by omega
        clear Hm hx hc h1 h2 h3
        generalize (E.e i).ht = x at c1 Hk
        generalize (E.e j).ht = y at c2 Hk
        go_enter Try.func18, Try.ntmps18
        go_wp2
        go_quiet (fail)
        go_wp2
        go_ret
        exact ⟨by rw [Hk.out]; rfl, _, rfl⟩
      · have Hk : Hid (m = false) := hid (by rw [Hm.out]; unfold oneB; rw [decide_eq_true h1, decide_eq_true h2, decide_eq_false h3]; rfl)
        clear Hm hc
        go_enter Try.func18, Try.ntmps18
        go_wp2
        have d3 : decide (b < (n : Int)) = false := decide_eq_false (by omega)
        go_quiet (fail)
        go_wp2
        go_ret
        exact ⟨by rw [Hk.out]; rfl, _, rfl⟩
    · have Hk : Hid (m = false) := hid (by rw [Hm.out]; unfold oneB; rw [decide_eq_true h1, decide_eq_false h2]; rfl)
      clear Hm hc
      go_enter Try.func18, Try.ntmps18
      go_wp2
      have d2 : decide (a < b) = false := decide_eq_false (by omega)
      go_quiet (fail)
      go_wp2
      go_ret
      exact ⟨by rw [Hk.out]; rfl, _, rfl⟩
  · have Hk : Hid (m = false) := hid (by rw [Hm.out]; unfold oneB; rw [decide_eq_false h1]; rfl)
    clear Hm hc
    go_enter Try.func18, Try.ntmps18
    go_wp2
    have d1 : decide (0 ≤ a) = false := decide_eq_false (by omega)
    go_quiet (fail)
    go_wp2
    go_ret
    exact ⟨by rw [Hk.out]; rfl, _, rfl⟩
end Go.Proofs.Ytchjjbcmbdmlgaa
namespace Go.Proofs.Ytchjjbcmbdmlgaa
open Go Go.RowKit Sim
def sp0 (b o i : Nat) : SpZ := ⟨b, o + i * 23, i, 0, .slice none 0 0, false, false, false⟩
theorem newSpan_w {w : World} {b o c n i : Nat} (hi : i < n) : Calls Try.prog 27 #[.slice (some ⟨b, o, none⟩) n c, .int .i64 i] w fun x w' => x = .returned (.pointer (some ⟨w.heap.size, 0, none⟩)) ∧ Hb w' w.heap.size 90 7 (spF (sp0 b o i)) ∧ Below w.heap.size w w' := by
  go_enter Try.func27, Try.ntmps27
  go_wp2
  go_ret
  refine ⟨rfl, ?_, (Below.refl _ w).alloc (Nat.le_refl _) _⟩
  have h := Hb.arr w #[.pointer (some ⟨b, o + i * 23, none⟩), .int .i64 i, .int .i64 0, .slice none 0 0, .bool false, .bool false, .bool false] 90
  exact h.congr (lt7 ⟨rfl, rfl, rfl, rfl, rfl, rfl, rfl⟩)
end Go.Proofs.Ytchjjbcmbdmlgaa
