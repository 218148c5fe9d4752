/- Layer 12: what Length answers is what the reference answers. -/
import Derived.Test.YtckgpcpcjhomiaaLen12
import Derived.Test.YtckgpcpcjhomiaaRLen12
namespace Go.Proofs.Ytckgpcpcjhomiaa
open Go.RowKit Sim S2
set_option linter.unusedVariables false
set_option linter.unusedSimpArgs false
theorem skipN_uniq {P : Nat → Bool} {k a x : Nat} (h1 : ∀ i, a ≤ i → i < x → P i = true) (h2 : P x = false) (h3 : a ≤ x) (h4 : x ≤ a + k) : skipN P k a = x := by
  have g1 := skipN_ge P k a
  have g2 := skipN_all P k a
  have g3 := skipN_fin P k a
  generalize skipN P k a = y at *
  rcases Nat.lt_trichotomy y x with h | h | h
  · have := g3 (h1 y g1 h); omega
  · exact h
  · have := g2 x h3 h; rw [h2] at this; cases this
theorem may_rd {i : In} (h : mayB i = true) (h0 : (i.rd == 0) = false) : rdF (formZ i.op) = true := by
  unfold mayB at h
  simp only [Bool.and_eq_true] at h
  have h2 := h.2.1
  cases hr : rdF (formZ i.op)
  · rw [hr] at h2
    unfold regB at h2
    simp only [Bool.false_eq_true, if_false, decide_eq_true_eq] at h2
    rw [h2] at h0; cases h0
  · rfl
theorem wr_keep {i : In} (r : Int) (h : mayB i = true) : (rdF (formZ i.op) && (i.rd != 0 && i.rd == r)) = !keepI r i := by
  unfold keepI wrN
  rw [h]
  cases h0 : (i.rd == 0)
  · rw [may_rd h h0]
    simp [bne, h0]
  · simp [bne, h0]
theorem wide_eq {x l : In} (hx : conI x = true) (hl : resI l = true) : ((x.op == 67) == (l.op == 66)) = (wideB x.op == wideB l.op) := by
  unfold conI at hx
  unfold resI at hl
  simp only [Bool.or_eq_true, beq_iff_eq] at hx hl
  rcases hx with hx | hx <;> rcases hl with hl | hl <;> rw [hx, hl] <;> rfl
theorem con_plain {x : In} (h : conI x = true) : plainI x = false := by
  unfold conI at h
  simp only [Bool.or_eq_true, beq_iff_eq] at h
  unfold plainI leadI
  rcases h with h | h <;> rw [h] <;> rfl
theorem back_plain {x : In} (h : leadI x = true) (hi : ¬ x.imm > 0) : plainI x = false := by
  have h' := h
  unfold leadI at h
  rw [form4] at h
  unfold plainI
  rw [h']
  simp only [Bool.or_eq_true, Bool.and_eq_true, decide_eq_true_eq, beq_iff_eq] at h
  have e1 : (x.op == 1) = false := by rw [beq_eq_false_iff_ne]; omega
  have e2 : (x.op == 2) = false := by rw [beq_eq_false_iff_ne]; omega
  have e3 : (decide (22 ≤ x.op) && decide (x.op ≤ 49)) = false := by simp; omega
  have e4 : decide (x.imm > 0) = false := decide_eq_false hi
  rw [e1, e2, e3, e4]; rfl
section
variable (f : Nat → In) (p c e : Nat)
theorem ok_first (hc : p < c) : okR f p c e p = (mayB (f p) && keepI (f p).a (f p)) := by
  unfold okR
  cases h : mayB (f p)
  · rfl
  · rw [wr_keep _ h]
    simp
theorem ok_seq {i : Nat} (h1 : p < i) (h2 : i < c) : okR f p c e i = (mayB (f i) && (plainI (f i) && keepI (f p).a (f i))) := by
  unfold okR
  have e1 : ((i : Int) == (p : Int)) = false := by rw [beq_eq_false_iff_ne]; omega
  have e2 : decide ((i : Int) < (c : Int)) = true := decide_eq_true (by omega)
  rw [e1, e2, plain_ref]
  cases h : mayB (f i)
  · rfl
  · rw [wr_keep _ h]
    cases plainI (f i) <;> cases keepI (f p).a (f i) <;> rfl
theorem ok_store (h1 : p < c) (hl : resI (f p) = true) : okR f p c e c = (mayB (f c) && (conI (f c) && ((wideB (f c).op == wideB (f p).op) && ((f c).a == (f p).a)))) := by
  unfold okR
  have e1 : ((c : Int) == (p : Int)) = false := by rw [beq_eq_false_iff_ne]; omega
  have e2 : decide ((c : Int) < (c : Int)) = false := decide_eq_false (by omega)
  have e3 : ((c : Int) == (c : Int)) = true := by simp
  rw [e1, e2, e3]
  cases h : mayB (f c)
  · rfl
  · cases hc : conI (f c)
    · rfl
    · rw [wide_eq hc hl]
      cases (wideB (f c).op == wideB (f p).op) <;> cases h5 : ((f c).a == (f p).a) <;> simp [bne, h5]
theorem ok_retry {i : Nat} (h1 : p < c) (h2 : c < i) (h3 : i < e) : okR f p c e i = (mayB (f i) && plainI (f i)) := by
  unfold okR
  have e1 : ((i : Int) == (p : Int)) = false := by rw [beq_eq_false_iff_ne]; omega
  have e2 : decide ((i : Int) < (c : Int)) = false := decide_eq_false (by omega)
  have e3 : ((i : Int) == (c : Int)) = false := by rw [beq_eq_false_iff_ne]; omega
  have e4 : decide ((i : Int) < (e : Int)) = true := decide_eq_true (by omega)
  rw [e1, e2, e3, e4, plain_ref]
  cases mayB (f i) <;> cases plainI (f i) <;> rfl
theorem ok_last (h1 : p < c) (h2 : c < e) : okR f p c e e = (mayB (f e) && (leadI (f e) && ((f e).imm == 4 * ((p : Int) - (e : Int))))) := by
  unfold okR
  have e1 : ((e : Int) == (p : Int)) = false := by rw [beq_eq_false_iff_ne]; omega
  have e2 : decide ((e : Int) < (c : Int)) = false := decide_eq_false (by omega)
  have e3 : ((e : Int) == (c : Int)) = false := by rw [beq_eq_false_iff_ne]; omega
  have e4 : decide ((e : Int) < (e : Int)) = false := decide_eq_false (by omega)
  rw [e1, e2, e3, e4, turn_lead]
  cases mayB (f e) <;> cases leadI (f e) <;> cases h5 : ((f e).imm == 4 * ((p : Int) - (e : Int))) <;> simp [bne, h5]
theorem loop_iff (hp : p ≤ e) : loopZ f p c e = true ↔ ∀ i, p ≤ i → i ≤ e → okR f p c e i = true := by
  rw [loopZ_eq]
  simp only [Int.toNat_natCast]
  have g1 := skipN_ge (okR f p c e) (e + 1 - p) p
  have g4 := skipN_le (okR f p c e) (e + 1 - p) p
  have g2 := skipN_all (okR f p c e) (e + 1 - p) p
  have g3 := skipN_fin (okR f p c e) (e + 1 - p) p
  constructor
  · intro h i h1 h2
    have h : lpN f p c e = e + 1 := Nat.eq_of_beq_eq_true h
    exact g2 i h1 (by show i < lpN f p c e; omega)
  · intro h
    have : lpN f p c e = e + 1 := by
      unfold lpN
      by_cases hy : skipN (okR f p c e) (e + 1 - p) p ≤ e
      · have := g3 (h _ g1 hy); omega
      · omega
    rw [this]; exact Nat.beq_refl _
end
/-- The program finds a loop: what it asks. -/
structure Found (M : Nat) (f : Nat → In) (p s q : Nat) : Prop where
  first : mayB (f p) = true ∧ keepI (f p).a (f p) = true
  s1 : 1 ≤ s
  sM : s < M
  seq : ∀ j, 1 ≤ j → j < s → mayB (f (p + j)) = true ∧ plainI (f (p + j)) = true ∧ keepI (f p).a (f (p + j)) = true
  store : mayB (f (p + s)) = true ∧ conI (f (p + s)) = true ∧ (wideB (f (p + s)).op == wideB (f p).op) = true ∧ ((f (p + s)).a == (f p).a) = true
  q1 : s + 1 ≤ q
  qM : q < M
  retry : ∀ j, s + 1 ≤ j → j < q → mayB (f (p + j)) = true ∧ plainI (f (p + j)) = true
  last : mayB (f (p + q)) = true ∧ leadI (f (p + q)) = true ∧ ((f (p + q)).imm == -4 * (q : Int)) = true
theorem found_loop {M : Nat} {f : Nat → In} {p s q : Nat} (hl : resI (f p) = true) (h : Found M f p s q) : loopZ f p (p + s : Nat) (p + q : Nat) = true := by
  have h1 := h.s1
  have h2 := h.q1
  refine (loop_iff f p (p + s) (p + q) (by omega)).mpr fun i hi1 hi2 => ?_
  obtain ⟨j, rfl⟩ : ∃ j, i = p + j := ⟨i - p, by omega⟩
  by_cases c1 : j = 0
  · subst c1
    rw [Nat.add_zero, ok_first f p (p + s) (p + q) (by omega), h.first.1, h.first.2]; rfl
  · by_cases c2 : j < s
    · obtain ⟨a1, a2, a3⟩ := h.seq j (by omega) c2
      rw [ok_seq f p (p + s) (p + q) (by omega) (by omega), a1, a2, a3]; rfl
    · by_cases c3 : j = s
      · subst c3
        obtain ⟨a1, a2, a3, a4⟩ := h.store
        rw [ok_store f p (p + j) (p + q) (by omega) hl, a1, a2, a3, a4]; rfl
      · by_cases c4 : j < q
        · obtain ⟨a1, a2⟩ := h.retry j (by omega) c4
          rw [ok_retry f p (p + s) (p + q) (by omega) (by omega) (by omega), a1, a2]; rfl
        · obtain rfl : j = q := by omega
          obtain ⟨a1, a2, a3⟩ := h.last
          rw [ok_last f p (p + s) (p + j) (by omega) (by omega), a1, a2]
          have a3 := beq_iff_eq.mp a3
          rw [Bool.true_and, Bool.true_and, beq_iff_eq, a3]; omega
theorem loop_found {M : Nat} {f : Nat → In} {p s q : Nat} (hl : resI (f p) = true) (h1 : 1 ≤ s) (h2 : s + 1 ≤ q) (hq : q < M) (h : loopZ f p (p + s : Nat) (p + q : Nat) = true) : Found M f p s q := by
  have h := (loop_iff f p (p + s) (p + q) (by omega)).mp h
  refine ⟨?_, h1, by omega, fun j hj1 hj2 => ?_, ?_, h2, hq, fun j hj1 hj2 => ?_, ?_⟩
  · have := h p (by omega) (by omega)
    rw [ok_first f p (p + s) (p + q) (by omega)] at this
    simpa using this
  · have := h (p + j) (by omega) (by omega)
    rw [ok_seq f p (p + s) (p + q) (by omega) (by omega)] at this
    simpa using this
  · have := h (p + s) (by omega) (by omega)
    rw [ok_store f p (p + s) (p + q) (by omega) hl] at this
    simpa using this
  · have := h (p + j) (by omega) (by omega)
    rw [ok_retry f p (p + s) (p + q) (by omega) (by omega) (by omega)] at this
    simpa using this
  · have := h (p + q) (by omega) (by omega)
    rw [ok_last f p (p + s) (p + q) (by omega) (by omega)] at this
    simp only [Bool.and_eq_true, beq_iff_eq] at this
    refine ⟨this.1, this.2.1, ?_⟩
    rw [beq_iff_eq, this.2.2]; omega
theorem found_s {M : Nat} {f : Nat → In} {p s q : Nat} (h : Found M f p s q) : sG M (fun j => f (p + j)) = s := by
  have h1 := h.s1
  have h2 := h.sM
  refine skipN_uniq (fun j hj1 hj2 => ?_) ?_ h1 (by omega)
  · obtain ⟨a1, a2, a3⟩ := h.seq j hj1 hj2
    unfold kpB
    show (decide (j < M) && (mayB (f (p + j)) && (plainI (f (p + j)) && keepI (f (p + 0)).a (f (p + j))))) = true
    rw [decide_eq_true (show j < M by omega), a1, a2, Nat.add_zero, a3]; rfl
  · unfold kpB
    show (decide (s < M) && (mayB (f (p + s)) && (plainI (f (p + s)) && keepI (f (p + 0)).a (f (p + s))))) = false
    rw [con_plain h.store.2.1]; simp
theorem found_q {M : Nat} {f : Nat → In} {p s q : Nat} (h : Found M f p s q) : qG M (fun j => f (p + j)) = q := by
  have h1 := h.q1
  have h2 := h.qM
  unfold qG
  rw [found_s h]
  refine skipN_uniq (fun j hj1 hj2 => ?_) ?_ h1 (by omega)
  · obtain ⟨a1, a2⟩ := h.retry j hj1 hj2
    unfold plB
    show (decide (j < M) && (mayB (f (p + j)) && plainI (f (p + j)))) = true
    rw [decide_eq_true (show j < M by omega), a1, a2]; rfl
  · unfold plB
    show (decide (q < M) && (mayB (f (p + q)) && plainI (f (p + q)))) = false
    have a3 := beq_iff_eq.mp h.last.2.2
    rw [back_plain h.last.2.1 (by rw [a3]; omega)]; simp
/-- What Length finds, and what it answers. -/
theorem len_found {M : Nat} {f : Nat → In} {p s q : Nat} (hl : resI (f p) = true) (h : Found M f p s q) : lenG M (fun j => f (p + j)) = (q : Int) + 1 := by
  rw [lenG_eq, found_s h, found_q h]
  obtain ⟨a1, a2, a3, a4⟩ := h.store
  obtain ⟨b1, b2, b3⟩ := h.last
  unfold lenH
  rw [h.first.1, h.first.2, hl, decide_eq_true h.sM, decide_eq_true h.qM, a1, a2, a3, a4, b1, b2, b3]; rfl
theorem len_none {M : Nat} {f : Nat → In} {p : Nat} (h : ∀ s q, ¬ Found M f p s q) : lenG M (fun j => f (p + j)) = 0 := by
  rw [lenG_eq]
  have s1 : 1 ≤ sG M (fun j => f (p + j)) := skipN_ge _ _ _
  have q1 : sG M (fun j => f (p + j)) + 1 ≤ qG M (fun j => f (p + j)) := skipN_ge _ _ _
  have s2 : ∀ j, 1 ≤ j → j < sG M (fun j => f (p + j)) → kpB M (fun j => f (p + j)) (f (p + 0)).a j = true := skipN_all _ _ _
  have q2 : ∀ j, sG M (fun j => f (p + j)) + 1 ≤ j → j < qG M (fun j => f (p + j)) → plB M (fun j => f (p + j)) j = true := skipN_all _ _ _
  generalize sG M (fun j => f (p + j)) = s at *
  generalize qG M (fun j => f (p + j)) = q at *
  unfold lenH
  cases h1 : (mayB (f p) && (resI (f p) && keepI (f p).a (f p)))
  · rfl
  · cases h2 : (decide (s < M) && (mayB (f (p + s)) && (conI (f (p + s)) && ((wideB (f (p + s)).op == wideB (f p).op) && ((f (p + s)).a == (f p).a)))))
    · rfl
    · cases h3 : (decide (q < M) && (mayB (f (p + q)) && (leadI (f (p + q)) && ((f (p + q)).imm == -4 * (q : Int)))))
      · rfl
      · exfalso
        simp only [Bool.and_eq_true, decide_eq_true_eq] at h1 h2 h3
        refine h s q ⟨⟨h1.1, h1.2.2⟩, s1, h2.1, fun j hj1 hj2 => ?_, h2.2, q1, h3.1, fun j hj1 hj2 => ?_, h3.2⟩
        · have := s2 j hj1 hj2
          unfold kpB at this
          simp only [Bool.and_eq_true, Nat.add_zero] at this
          exact this.2
        · have := q2 j hj1 hj2
          unfold plB at this
          simp only [Bool.and_eq_true] at this
          exact this.2
theorem hi_cu {n p : Nat} (hp : p < n) : hiN n p = p + cuN n p := by
  rw [cuN_eq hp]; unfold hiN
  split <;> omega
theorem ro_iff (f : Nat → In) (p e : Nat) (hp : p + 1 ≤ e) : roB f p e = false ↔ ∃ c, p + 1 ≤ c ∧ c < e ∧ loopZ f p c e = true := by
  have g1 := skipN_ge (fun c => !loopZ f p c e) (e - (p + 1)) (p + 1)
  have g2 := skipN_all (fun c => !loopZ f p c e) (e - (p + 1)) (p + 1)
  have g3 := skipN_fin (fun c => !loopZ f p c e) (e - (p + 1)) (p + 1)
  have g4 := skipN_le (fun c => !loopZ f p c e) (e - (p + 1)) (p + 1)
  unfold roB
  constructor
  · intro h
    have hne : inN f p e ≠ e := fun hs => by rw [hs, Nat.beq_refl] at h; cases h
    unfold inN at hne
    refine ⟨_, g1, by omega, ?_⟩
    cases hb : loopZ f p (skipN (fun c => !loopZ f p c e) (e - (p + 1)) (p + 1) : Nat) e
    · have := g3 (by show (!loopZ f p _ e) = true; rw [hb]; rfl); omega
    · rfl
  · rintro ⟨c, h1, h2, h3⟩
    rw [← Bool.not_eq_true]
    intro hb
    have hs : inN f p e = e := Nat.eq_of_beq_eq_true hb
    have := g2 c h1 (by show c < inN f p e; omega)
    simp only [h3] at this
    cases this
/-- Length answers what the reference answers. -/
theorem len_ref (n : Nat) (f : Nat → In) (p : Int) : lenE n f p = refE n f p := by
  rw [lenE_eq, refE_eq]
  by_cases h0 : 0 ≤ p ∧ p < (n : Int)
  · rw [if_pos h0]
    obtain ⟨p, rfl⟩ := Int.eq_ofNat_of_zero_le h0.1
    have hp : p < n := by omega
    simp only [Int.toNat_natCast]
    cases hl : resI (f p)
    · rw [if_neg (fun h => by cases h.2.2), lenG_eq]
      unfold lenH
      rw [hl]; simp
    · rw [if_pos ⟨h0.1, h0.2, rfl⟩]
      have hh := hi_cu hp
      have g1 : p + 2 ≤ roN n f p := skipN_ge (roB f p) (hiN n p - (p + 2)) (p + 2)
      have g2 : ∀ i, p + 2 ≤ i → i < roN n f p → roB f p i = true := skipN_all (roB f p) (hiN n p - (p + 2)) (p + 2)
      have g3 : roB f p (roN n f p) = true → roN n f p = p + 2 + (hiN n p - (p + 2)) := skipN_fin (roB f p) (hiN n p - (p + 2)) (p + 2)
      have g4 : roN n f p ≤ p + 2 + (hiN n p - (p + 2)) := skipN_le (roB f p) (hiN n p - (p + 2)) (p + 2)
      by_cases hf : ∃ s q, Found (cuN n p) f p s q
      · obtain ⟨s, q, hf⟩ := hf
        have a1 := hf.s1
        have a2 := hf.q1
        have a3 := hf.qM
        rw [len_found hl hf]
        have hq : roB f p (p + q) = false := (ro_iff f p (p + q) (by omega)).mpr ⟨p + s, by omega, by omega, found_loop hl hf⟩
        have hr : roN n f p = p + q := by
          refine skipN_uniq (fun i h1 h2 => ?_) hq (by omega) (by omega)
          cases hb : roB f p i
          · obtain ⟨c, c1, c2, c3⟩ := (ro_iff f p i (by omega)).mp hb
            obtain ⟨j, rfl⟩ : ∃ j, i = p + j := ⟨i - p, by omega⟩
            obtain ⟨d, rfl⟩ : ∃ d, c = p + d := ⟨c - p, by omega⟩
            have hg := loop_found (M := cuN n p) hl (by omega) (by omega) (by omega) c3
            have := found_q hf
            have := found_q hg
            omega
          · rfl
        rw [hr, if_pos (by omega)]; omega
      · rw [len_none (fun s q h => hf ⟨s, q, h⟩), if_neg]
        intro hlt
        cases hb : roB f p (roN n f p)
        · obtain ⟨c, c1, c2, c3⟩ := (ro_iff f p (roN n f p) (by omega)).mp hb
          obtain ⟨j, hj⟩ : ∃ j, roN n f p = p + j := ⟨roN n f p - p, by omega⟩
          obtain ⟨d, rfl⟩ : ∃ d, c = p + d := ⟨c - p, by omega⟩
          rw [hj] at c3
          exact hf ⟨d, j, loop_found hl (by omega) (by omega) (by omega) c3⟩
        · have := g3 hb; omega
  · rw [if_neg h0, if_neg (fun h => h0 ⟨h.1, h.2.1⟩)]
end Go.Proofs.Ytckgpcpcjhomiaa
