/- The law RelJoins of layer 14: three more references, and what they hold. -/
import Derived.Test.YthmmmbfjhfocfaaDoorLawN14
import Derived.Test.YthmmmbfjhfocfaaDoorTur14
namespace Go.Proofs.YthmmmbfjhfocfaaDoor
open Go Go.RowKit
set_option linter.unusedVariables false
set_option linter.unusedSimpArgs false

theorem RfC.other {W : World} {c n r b : Nat} {v : Value} {ρ : Nat → Nat} {m : Nat → Nat → Bool} {K : Nat} {g : Nat → Value} (h : RfC W c n v ρ m) (hr : Hb W r 4 K g) (hd : ∀ j, j < n → ρ j ≠ r) (x : Value) : RfC (W.setCell ⟨r, b, none⟩ x) c n v ρ m :=
  ⟨h.hd.other (h.hd.ty hr (by decide)) _, by
    rcases h.sl with h1 | ⟨c1, cap, h1, h2, h3⟩
    · exact .inl h1
    · exact .inr ⟨c1, cap, h1, h2, h3.other (h3.ty hr (by decide)) _⟩, fun j hj => (h.rows j hj).other (hd j hj) _, h.inj, h.n512, h.inn⟩
abbrev ZZ := Nat × Value × (Nat → Nat)
structure JL (Z W : World) (N : Nat) (L : List ZZ) : Prop where
  bel : Below Z.heap.size Z W
  each : ∀ z, z ∈ L → RfC W z.1 N z.2.1 z.2.2 noP ∧ ∀ j, j < N → Z.heap.size ≤ z.2.2 j
  sep : L.Pairwise (fun x y => ∀ i j, i < N → j < N → x.2.2 i ≠ y.2.2 j)
theorem JL.nil (Z : World) (N : Nat) : JL Z Z.drew N [] := ⟨Fr.to_below ((Fr.refl [] Z).drew), (fun z h => by cases h), List.Pairwise.nil⟩
theorem jl_new {Z W : World} {N : Nat} {L : List ZZ} (hN : N ≤ 512) (h : JL Z W N L) : Calls Tryd.prog 18 #[.int .i64 N] W fun e w' => ∃ z : ZZ, e = .returned (.pointer (some ⟨z.1, 0, none⟩)) ∧ JL Z w' N (z :: L) := by
  have h0 := refNew_ret (N : Int) (by omega) W
  rw [clN_self N hN] at h0
  refine h0.mono ?_
  rintro e w' ⟨c0, v, ρ, he, hf, hc, hb⟩
  refine ⟨(c0, v, ρ), he, h.bel.trans (hb.mono h.bel.size), fun z hz => ?_, List.Pairwise.cons (fun y hy i j hi hj => ?_) h.sep⟩
  · rcases List.mem_cons.1 hz with rfl | hz
    · exact ⟨hf.c hN (by simp), fun j hj => Nat.le_trans h.bel.size (hf.rows j hj).2⟩
    · exact ⟨(h.each z hz).1.below hb, (h.each z hz).2⟩
  · have h1 := (hf.rows i hi).2
    have h2 := ((h.each y hy).1.rows j hj).lt
    show ρ i ≠ _
    omega
structure J3 (Z W : World) (N : Nat) (x y z : ZZ) (mx my mz : Nat → Nat → Bool) : Prop where
  bel : Below Z.heap.size Z W
  hx : RfC W x.1 N x.2.1 x.2.2 mx
  hy : RfC W y.1 N y.2.1 y.2.2 my
  hz : RfC W z.1 N z.2.1 z.2.2 mz
  gx : ∀ j, j < N → Z.heap.size ≤ x.2.2 j
  gy : ∀ j, j < N → Z.heap.size ≤ y.2.2 j
  gz : ∀ j, j < N → Z.heap.size ≤ z.2.2 j
  xy : ∀ i j, i < N → j < N → x.2.2 i ≠ y.2.2 j
  xz : ∀ i j, i < N → j < N → x.2.2 i ≠ z.2.2 j
  yz : ∀ i j, i < N → j < N → y.2.2 i ≠ z.2.2 j
section
variable {Z W : World} {N : Nat} {x y z : ZZ} {mx my mz : Nat → Nat → Bool}
theorem JL.j3 (h : JL Z W N [x, y, z]) : J3 Z W N x y z noP noP noP := by
  have h1 := h.sep
  simp only [List.pairwise_cons, List.mem_cons, List.not_mem_nil, or_false] at h1
  exact ⟨h.bel, (h.each x (by simp)).1, (h.each y (by simp)).1, (h.each z (by simp)).1, (h.each x (by simp)).2, (h.each y (by simp)).2, (h.each z (by simp)).2, h1.1 y (.inl rfl), h1.1 z (.inr rfl), h1.2.1 z rfl⟩
theorem J3.rot (h : J3 Z W N x y z mx my mz) : J3 Z W N y z x my mz mx := ⟨h.bel, h.hy, h.hz, h.hx, h.gy, h.gz, h.gx, h.yz, fun i j hi hj e => h.xy j i hj hi e.symm, fun i j hi hj e => h.xz j i hj hi e.symm⟩
theorem J3.swap (h : J3 Z W N x y z mx my mz) : J3 Z W N y x z my mx mz := ⟨h.bel, h.hy, h.hx, h.hz, h.gy, h.gx, h.gz, fun i j hi hj e => h.xy j i hj hi e.symm, h.yz, h.xz⟩
theorem J3.then {W' : World} (h : J3 Z W N x y z mx my mz) (hb : Below W.heap.size W W') : J3 Z W' N x y z mx my mz := ⟨h.bel.trans (hb.mono h.bel.size), h.hx.below hb, h.hy.below hb, h.hz.below hb, h.gx, h.gy, h.gz, h.xy, h.xz, h.yz⟩
theorem J3.add1 (h : J3 Z W N x y z mx my mz) {a b : Nat} (ha : a < N) (hb : b < N) : Calls Tryd.prog 19 #[.pointer (some ⟨x.1, 0, none⟩), .int .i64 a, .int .i64 b] W fun e w' => e = .returned (.bool true) ∧ J3 Z w' N x y z (addP mx a b) my mz := by
  refine (refAddYes_ret h.hx ha hb).mono ?_
  rintro e w' ⟨he, rfl⟩
  have hr := h.hx.rows a ha
  exact ⟨he, Fr.below h.bel (Fr.set (Fr.refl [x.2.2 a] _) (.inr (by simp)) _) h.bel.size (by have := h.gx a ha; simp; omega), h.hx.put ha hb, h.hy.other hr (fun j hj e => h.xy a j ha hj e.symm) _, h.hz.other hr (fun j hj e => h.xz a j ha hj e.symm) _, h.gx, h.gy, h.gz, h.xy, h.xz, h.yz⟩
theorem J3.add2 (h : J3 Z W N x y z mx my mz) {a b : Nat} (ha : a < N) (hb : b < N) : Calls Tryd.prog 19 #[.pointer (some ⟨y.1, 0, none⟩), .int .i64 a, .int .i64 b] W fun e w' => e = .returned (.bool true) ∧ J3 Z w' N x y z mx (addP my a b) mz :=
  (h.rot.add1 ha hb).mono fun e w' h => ⟨h.1, h.2.rot.rot⟩
theorem J3.add3 (h : J3 Z W N x y z mx my mz) {a b : Nat} (ha : a < N) (hb : b < N) : Calls Tryd.prog 19 #[.pointer (some ⟨z.1, 0, none⟩), .int .i64 a, .int .i64 b] W fun e w' => e = .returned (.bool true) ∧ J3 Z w' N x y z mx my (addP mz a b) :=
  (h.rot.rot.add1 ha hb).mono fun e w' h => ⟨h.1, h.2.rot⟩
end
/-- What the loops have filled in. -/
def fillF (P : Nat → Nat → Bool) (N a b : Nat) : Nat → Nat → Bool := fun i j => decide (j < N) && (decide (i < a) || (decide (i = a) && decide (j < b))) && P i j
theorem fillF_0 (P : Nat → Nat → Bool) (N : Nat) : fillF P N 0 0 = noP := by funext i j; simp [fillF, noP]
theorem fillF_next (P : Nat → Nat → Bool) (N a : Nat) : fillF P N a N = fillF P N (a + 1) 0 := by
  funext i j
  unfold fillF
  by_cases h : j < N
  · by_cases h2 : i < a
    · simp [h, h2]; omega
    · by_cases h3 : i = a
      · simp [h, h3]
      · have : ¬ i < a + 1 := by omega
        simp [h, h2, h3, this]
  · simp [h]
theorem fillF_no {P : Nat → Nat → Bool} {N a b : Nat} (h : P a b = false) : fillF P N a (b + 1) = fillF P N a b := by
  funext i j
  unfold fillF
  by_cases h1 : i = a
  · subst h1
    by_cases h2 : j = b
    · subst h2; simp [h]
    · have : decide (j < b + 1) = decide (j < b) := by simp; omega
      rw [this]
  · simp [h1]
theorem fillF_yes {P : Nat → Nat → Bool} {N a b : Nat} (hb : b < N) (h : P a b = true) : addP (fillF P N a b) a b = fillF P N a (b + 1) := by
  funext i j
  unfold addP
  by_cases h1 : i = a
  · subst h1
    rw [updF_same]
    unfold fillF
    by_cases h2 : j = b
    · subst h2; simp [h, hb]
    · have h3 : decide (j < b + 1) = decide (j < b) := by simp; omega
      simp [h2, h3]
  · rw [updF_other _ _ h1]
    unfold fillF
    simp [h1]
theorem addP_in {m : Nat → Nat → Bool} {a b : Nat} (h : m a b = true) : addP m a b = m := by
  funext i j
  unfold addP
  by_cases h1 : i = a
  · subst h1
    rw [updF_same]
    by_cases h2 : j = b
    · subst h2; simp [h]
    · simp [h2]
  · rw [updF_other _ _ h1]
theorem addP_self (m : Nat → Nat → Bool) (a b : Nat) : addP m a b a b = true := by unfold addP; rw [updF_same]; simp
/-- The third: for the things in between, one after the other. -/
def anyT (Q : Nat → Bool) : Nat → Bool
  | 0 => false
  | c + 1 => anyT Q c || Q c
theorem anyT_iff (Q : Nat → Bool) : ∀ n, anyT Q n = true ↔ ∃ c, c < n ∧ Q c = true
  | 0 => by simp [anyT]
  | n + 1 => by
    unfold anyT
    rw [Bool.or_eq_true, anyT_iff Q n]
    constructor
    · rintro (⟨c, h1, h2⟩ | h)
      · exact ⟨c, by omega, h2⟩
      · exact ⟨n, by omega, h⟩
    · rintro ⟨c, h1, h2⟩
      by_cases hc : c = n
      · subst hc; exact .inr h2
      · exact .inl ⟨c, by omega, h2⟩
def midF (m : Nat → Nat → Bool) (a b : Nat) (t : Bool) : Nat → Nat → Bool := if t = true then addP m a b else m
theorem midF_no (m : Nat → Nat → Bool) (a b c : Nat) (Q : Nat → Bool) (h : Q c = false) : midF m a b (anyT Q c) = midF m a b (anyT Q (c + 1)) := by rw [show anyT Q (c + 1) = (anyT Q c || Q c) from rfl, h, Bool.or_false]
theorem midF_yes (m : Nat → Nat → Bool) (a b c : Nat) (Q : Nat → Bool) (h : Q c = true) : addP (midF m a b (anyT Q c)) a b = midF m a b (anyT Q (c + 1)) := by
  rw [show anyT Q (c + 1) = (anyT Q c || Q c) from rfl, h, Bool.or_true]
  unfold midF
  cases anyT Q c
  · simp
  · simp only [if_true]
    rw [addP_in (addP_self _ _ _)]
theorem midF_end {P : Nat → Nat → Bool} {N a b : Nat} (hb : b < N) {t : Bool} (h : P a b = t) : midF (fillF P N a b) a b t = fillF P N a (b + 1) := by
  unfold midF
  cases t
  · simp [fillF_no h]
  · simp [fillF_yes hb h]
theorem hasZ_nat (n : Nat) (m : Nat → Nat → Bool) (hm : ∀ a b, m a b = true → a < n ∧ b < n) (a b : Nat) : hasZ n m (a : Int) (b : Int) = m a b := by
  unfold hasZ inE
  cases h : m a b
  · simp [h]
  · obtain ⟨h1, h2⟩ := hm a b h
    simp [h, h1, h2]
def pU (m k : Nat → Nat → Bool) : Nat → Nat → Bool := fun a b => m a b || k a b
def pT (m : Nat → Nat → Bool) : Nat → Nat → Bool := fun a b => m b a
def pA (N : Nat) (m k : Nat → Nat → Bool) : Nat → Nat → Bool := fun a b => anyT (fun c => m a c && k c b) N
theorem fill_end (P : Nat → Nat → Bool) (N i j : Nat) : fillF P N N 0 i j = (decide (i < N) && decide (j < N) && P i j) := by
  unfold fillF
  by_cases h : i < N <;> by_cases h2 : j < N <;> simp [h, h2]
theorem fin_U {N M : Nat} {m k : Nat → Nat → Bool} (hm : ∀ a b, m a b = true → a < N ∧ b < N) (hk : ∀ a b, k a b = true → a < M ∧ b < M) : incJ N m k (min N M) = fillF (pU m k) N N 0 := by
  funext a b
  rw [fill_end]
  unfold incJ pU
  cases h1 : m a b
  · cases h2 : k a b
    · simp
    · have := hk a b h2
      by_cases ha : a < N <;> by_cases hb : b < N <;> simp [ha, hb] <;> omega
  · have := hm a b h1
    simp [this.1, this.2]
theorem fin_T {N : Nat} {m : Nat → Nat → Bool} (hm : ∀ a b, m a b = true → a < N ∧ b < N) : (fun a b => m b a) = fillF (pT m) N N 0 := by
  funext a b
  rw [fill_end]
  unfold pT
  cases h : m b a
  · simp
  · have := hm b a h
    simp [this.1, this.2]
theorem fin_A {N : Nat} {m k : Nat → Nat → Bool} (hN : N ≤ 512) (hm : ∀ a b, m a b = true → a < N ∧ b < N) : afL N k (prs N m) = fillF (pA N m k) N N 0 := by
  funext a b
  rw [fill_end]
  unfold afL pA
  rw [Bool.eq_iff_iff]
  simp only [Bool.and_eq_true, decide_eq_true_eq, List.any_eq_true, beq_iff_eq, anyT_iff]
  constructor
  · rintro ⟨hb, ⟨i, c⟩, hx, rfl, hk⟩
    obtain ⟨h1, h2⟩ := prs_mem hx
    exact ⟨⟨h2, hb⟩, c, (hm _ _ h1).2, h1, hk⟩
  · rintro ⟨⟨ha, hb⟩, c, hc, h1, h2⟩
    exact ⟨hb, (a, c), mem_prs h1 ha (by omega), rfl, h2⟩
structure Fx (Z : World) (b0 b1 c0 N : Nat) (v : Value) (ρ : Nat → Nat) (m : Nat → Nat → Bool) (e0 e1 f0 M : Nat) (v' : Value) (ρ' : Nat → Nat) (k : Nat → Nat → Bool) : Prop where
  r : RelC Z b0 b1 N m
  x : RfC Z c0 N v ρ m
  s : RelC Z e0 e1 M k
  y : RfC Z f0 M v' ρ' k
  tz : TzOk Z
theorem Fx.then {Z W : World} {b0 b1 c0 N : Nat} {v : Value} {ρ : Nat → Nat} {m : Nat → Nat → Bool} {e0 e1 f0 M : Nat} {v' : Value} {ρ' : Nat → Nat} {k : Nat → Nat → Bool} (h : Fx Z b0 b1 c0 N v ρ m e0 e1 f0 M v' ρ' k) (hb : Below Z.heap.size Z W) : Fx W b0 b1 c0 N v ρ m e0 e1 f0 M v' ρ' k := ⟨h.r.below hb, h.x.below hb, h.s.below hb, h.y.below hb, h.tz.below hb⟩
theorem RfC.reads {W : World} {c0 c1 cap N : Nat} {ρ : Nat → Nat} {m : Nat → Nat → Bool} (h : RfC W c0 N (.slice (some ⟨c1, 0, none⟩) N cap) ρ m) {a b : Nat} (ha : a < N) (hb : b < N) : W.cell? ⟨c1, a, none⟩ = some (.slice (some ⟨ρ a, 0, none⟩) N N) ∧ W.cell? ⟨ρ a, b, none⟩ = some (.bool (m a b)) := by
  refine ⟨?_, (h.rows a ha).cell hb⟩
  rcases h.sl with ⟨h1, _⟩ | ⟨c1', cap', h1, h2, h3⟩
  · cases h1
  · cases h1
    exact h3.cell ha
abbrev Q3 (Z : World) (N : Nat) (F : ZZ → ZZ → ZZ → Act) : Exit → Act → World → Prop := fun e A' W' => e = .normal ∧ ∃ z1 z2 z3 : ZZ, A' = F z1 z2 z3 ∧ J3 Z W' N z1 z2 z3 noP noP noP
theorem ref_has_nat {W : World} {f0 M : Nat} {v' : Value} {ρ' : Nat → Nat} {k : Nat → Nat → Bool} (h : RfC W f0 M v' ρ' k) (i j : Nat) : Calls Tryd.prog 17 #[.pointer (some ⟨f0, 0, none⟩), .int .i64 i, .int .i64 j] W fun en w' => en = .returned (.bool (k i j)) ∧ w' = W := by
  have := refHas_ret h i j
  rw [hasZ_nat M k h.inn] at this
  exact this
section
variable {Z W : World} {N : Nat} {x y z : ZZ} {mx my mz : Nat → Nat → Bool}
/-- The value is a list of one's own of these pairs. -/
def RowP (W : World) (N : Nat) (g : Nat → Nat → Bool) (u : Value) : Prop := ∃ base, W.ownsRow base 23 2 u (prs N g).length (cellsP (prs N g))
theorem RowP.below {W W' : World} {N : Nat} {g : Nat → Nat → Bool} {u : Value} (h : RowP W N g u) (hb : Below W.heap.size W W') : RowP W' N g u := h.elim fun base h1 => ⟨base, RdP.below h1 hb⟩
theorem e_pairs (hz : TzOk Z) (h : J3 Z W N x y z mx my mz) {d0 d1 : Nat} {g : Nat → Nat → Bool} (hr : RelC W d0 d1 N g) : Calls Tryd.prog 14 #[.pointer (some ⟨d0, 0, none⟩)] W fun e w' => ∃ u, e = .returned u ∧ RowP w' N g u ∧ J3 Z w' N x y z mx my mz := by
  refine (pairs_ret (some ⟨d0, 0, none⟩) d0 d1 N g W (.inr ⟨rfl, hr⟩) (hz.below h.bel)).mono ?_
  rintro e w' ⟨u, he, hrow, hb⟩
  exact ⟨u, he, ⟨_, hrow⟩, h.then hb⟩
theorem e_refPairs (h : J3 Z W N x y z mx my mz) {c : Nat} {v : Value} {ρ : Nat → Nat} {g : Nat → Nat → Bool} (hr : RfC W c N v ρ g) {u : Value} (hu : RowP W N g u) : Calls Tryd.prog 15 #[.pointer (some ⟨c, 0, none⟩)] W fun e w' => ∃ u', e = .returned u' ∧ RowP w' N g u ∧ RowP w' N g u' ∧ J3 Z w' N x y z mx my mz := by
  refine (refPairs_ret hr).mono ?_
  rintro e w' ⟨u', he, hrow, hb⟩
  exact ⟨u', he, hu.below hb, ⟨_, hrow⟩, h.then hb⟩
theorem e_same (hN : N ≤ 512) (h : J3 Z W N x y z mx my mz) {g : Nat → Nat → Bool} {u u' : Value} (hu : RowP W N g u) (hu' : RowP W N g u') : Calls Tryd.prog 13 #[u, u'] W fun e w' => e = .returned (.bool true) ∧ J3 Z w' N x y z mx my mz := by
  obtain ⟨_, h1⟩ := hu
  obtain ⟨_, h2⟩ := hu'
  refine (same_yes (prs_le N hN g) (own_rdP h1) (own_rdP h2)).mono ?_
  rintro e w' ⟨he, k, rfl⟩
  exact ⟨he, h.then (Fr.to_below ((Fr.refl _ W).draws k))⟩
variable {b0 b1 c0 : Nat} {v : Value} {ρ : Nat → Nat} {m : Nat → Nat → Bool} {e0 e1 f0 M : Nat} {v' : Value} {ρ' : Nat → Nat} {k : Nat → Nat → Bool}
theorem e_union (hF : Fx Z b0 b1 c0 N v ρ m e0 e1 f0 M v' ρ' k) (h : J3 Z W N x y z mx my mz) : Calls Tryd.prog 20 #[.pointer (some ⟨b0, 0, none⟩), .slice (some ⟨W.heap.size, 0, none⟩) 1 1] (W.alloc (.cells #[.pointer (some ⟨e0, 0, none⟩)] 25)) fun e w' => ∃ d0 d1, e = .returned (.pointer (some ⟨d0, 0, none⟩)) ∧ RelC w' d0 d1 N (fillF (pU m k) N N 0) ∧ J3 Z w' N x y z mx my mz := by
  have h2 := h.then (al_below W (.cells #[.pointer (some ⟨e0, 0, none⟩)] 25))
  have hf := hF.then h2.bel
  refine (union1_ret (p := some ⟨b0, 0, none⟩) (q := some ⟨e0, 0, none⟩) (.inr ⟨rfl, hf.r⟩) (.inr ⟨rfl, hf.s⟩) (Hb.new W #[.pointer (some ⟨e0, 0, none⟩)] 25 (one_at _))).mono ?_
  rintro e w' ⟨d0, d1, he, hr, _, _, hb⟩
  rw [fin_U hf.r.inn hf.s.inn] at hr
  exact ⟨d0, d1, he, hr, h2.then hb⟩
theorem e_turned (hF : Fx Z b0 b1 c0 N v ρ m e0 e1 f0 M v' ρ' k) (h : J3 Z W N x y z mx my mz) : Calls Tryd.prog 21 #[.pointer (some ⟨b0, 0, none⟩)] W fun e w' => ∃ d0 d1, e = .returned (.pointer (some ⟨d0, 0, none⟩)) ∧ RelC w' d0 d1 N (fillF (pT m) N N 0) ∧ J3 Z w' N x y z mx my mz := by
  have hf := hF.then h.bel
  refine (turned_ret (p := some ⟨b0, 0, none⟩) (.inr ⟨rfl, hf.r⟩) hf.tz).mono ?_
  rintro e w' ⟨d0, d1, he, hr, _, _, hb⟩
  rw [fin_T hf.r.inn] at hr
  exact ⟨d0, d1, he, hr, h.then hb⟩
theorem e_after (hF : Fx Z b0 b1 c0 N v ρ m e0 e1 f0 M v' ρ' k) (h : J3 Z W N x y z mx my mz) : Calls Tryd.prog 22 #[.pointer (some ⟨b0, 0, none⟩), .pointer (some ⟨e0, 0, none⟩)] W fun e w' => ∃ d0 d1, e = .returned (.pointer (some ⟨d0, 0, none⟩)) ∧ RelC w' d0 d1 N (fillF (pA N m k) N N 0) ∧ J3 Z w' N x y z mx my mz := by
  have hf := hF.then h.bel
  refine (after_ret (p := some ⟨b0, 0, none⟩) (q := some ⟨e0, 0, none⟩) (.inr ⟨rfl, hf.r⟩) (.inr ⟨rfl, hf.s⟩) hf.tz).mono ?_
  rintro e w' ⟨d0, d1, he, hr, _, _, hb⟩
  rw [fin_A hf.r.n512 hf.r.inn] at hr
  exact ⟨d0, d1, he, hr, h.then hb⟩
end
end Go.Proofs.YthmmmbfjhfocfaaDoor
