/- The laws of layer 14: both. -/
import Derived.Test.YthmmmbfjhfocfaaDoorBoth14
namespace Go.Proofs.YthmmmbfjhfocfaaDoor
open Go Go.RowKit
set_option linter.unusedVariables false
set_option linter.unusedSimpArgs false

/-- A slice of pairs that came in. -/
def PIn (w : World) (a : Option Addr) (len cap : Nat) (p q : Nat → Int) : Prop :=
  len ≤ cap ∧ cap ≤ maxLen ∧ (0 < len → ∃ b off, a = some ⟨b, off, none⟩ ∧ b < w.heap.size ∧ ∀ i, i < len → w.cell? ⟨b, off + i * 2, none⟩ = some (.int .i64 (p i)) ∧ w.cell? ⟨b, off + i * 2 + 1, none⟩ = some (.int .i64 (q i)))
theorem PIn.below {w w' : World} {a : Option Addr} {len cap : Nat} {p q : Nat → Int} (h : PIn w a len cap p q) (hb : Below w.heap.size w w') : PIn w' a len cap p q := ⟨h.1, h.2.1, fun hp => by
  obtain ⟨b, off, h1, h2, h3⟩ := h.2.2 hp
  refine ⟨b, off, h1, by have := hb.size; omega, fun i hi => ?_⟩
  have := h3 i hi
  simpa [World.cell?, hb.block b h2] using this⟩
/-- The two relations of the law: both made after w. -/
structure Bo (w W : World) (b0 b1 c0 N : Nat) (v : Value) (ρ : Nat → Nat) (ma mb : Nat → Nat → Bool) : Prop where
  a : RelC W b0 b1 N ma
  b : RfC W c0 N v ρ mb
  h0 : w.heap.size ≤ b0
  h1 : w.heap.size ≤ b1
  h2 : w.heap.size ≤ c0
  h3 : ∀ j, j < N → w.heap.size ≤ ρ j
  below : Below w.heap.size w W
theorem Bo.then {w W W' : World} {b0 b1 c0 N : Nat} {v : Value} {ρ : Nat → Nat} {ma mb : Nat → Nat → Bool} (h : Bo w W b0 b1 c0 N v ρ ma mb) (hb : Below W.heap.size W W') : Bo w W' b0 b1 c0 N v ρ ma mb := ⟨h.a.below hb, h.b.below hb, h.h0, h.h1, h.h2, h.h3, h.below.trans (hb.mono h.below.size)⟩
theorem Bo.dr {w W : World} {b0 b1 c0 N : Nat} {v : Value} {ρ : Nat → Nat} {ma mb : Nat → Nat → Bool} (h : Bo w W b0 b1 c0 N v ρ ma mb) : Bo w W.drew b0 b1 c0 N v ρ ma mb := h.then (Fr.to_below ((Fr.refl _ _).drew))
theorem bo_addR {w W : World} {b0 b1 c0 N : Nat} {v : Value} {ρ : Nat → Nat} {ma mb : Nat → Nat → Bool} (h : Bo w W b0 b1 c0 N v ρ ma mb) {x y : Nat} (hx : x < N) (hy : y < N) :
    Calls Tryd.prog 30 #[.pointer (some ⟨b0, 0, none⟩), .int .i64 x, .int .i64 y] W fun e w' => e = .returned (.bool true) ∧ Bo w w' b0 b1 c0 N v ρ (addP ma x y) mb := by
  refine (addYes_ret h.a hx hy).mono ?_
  rintro e w' ⟨he, hr, hf⟩
  obtain ⟨cs, fz, ho⟩ := h.a.rows.obj
  have hk : Kc (fun _ t => t = 55) W w' := Kc.of_fr hf fun k hk _ => by
    rw [List.mem_singleton.1 hk]
    exact ⟨cs, _, fz, ho, rfl⟩
  exact ⟨he, hr, h.b.kc hk (by decide) (fun _ => by decide) (fun _ => by decide), h.h0, h.h1, h.h2, h.h3, Fr.below h.below hf h.below.size (by have := h.h1; simp; omega)⟩
theorem bo_addX {w W : World} {b0 b1 c0 N : Nat} {v : Value} {ρ : Nat → Nat} {ma mb : Nat → Nat → Bool} (h : Bo w W b0 b1 c0 N v ρ ma mb) {x y : Nat} (hx : x < N) (hy : y < N) :
    Calls Tryd.prog 19 #[.pointer (some ⟨c0, 0, none⟩), .int .i64 x, .int .i64 y] W fun e w' => e = .returned (.bool true) ∧ Bo w w' b0 b1 c0 N v ρ ma (addP mb x y) := by
  refine (refAddYes_ret h.b hx hy).mono ?_
  rintro e w' ⟨he, rfl⟩
  have hro := h.b.rows x hx
  exact ⟨he, ⟨h.a.hd.other (h.a.hd.ty hro (by decide)) _, h.a.rows.other (h.a.rows.ty hro (by decide)) _, h.a.ne, h.a.n512, h.a.inn⟩, h.b.put hx hy, h.h0, h.h1, h.h2, h.h3, Fr.below h.below (Fr.set (Fr.refl [ρ x] _) (.inr (by simp)) _) h.below.size (by have := h.h3 x hx; simp; omega)⟩
/-- What both returns. -/
def BothR (w : World) (N : Nat) : Ending → World → Prop := fun e w' => ∃ b0 b1 c0 v ρ m, e = .returned (.tuple #[.pointer (some ⟨b0, 0, none⟩), .pointer (some ⟨c0, 0, none⟩), .bool true]) ∧ Bo w w' b0 b1 c0 N v ρ m m
set_option maxRecDepth 100000 in
set_option maxHeartbeats 4000000 in
theorem both_ret (n : Int) (hn : n ≤ 80) (w : World) (a : Option Addr) (len cap : Nat) (p q : Nat → Int) (hP : PIn w a len cap p q) : Calls Tryd.prog 12 #[.int .i64 n, .slice a len cap] w (BothR w (clN n)) := by
  have hm : (len : Int) ≤ 9223372036854775807 := by have := hP.1; have := hP.2.1; unfold maxLen at this; omega
  have HN : ∀ w, Calls Tryd.prog 9 #[.int .i64 n] w (NewR w (clN n)) := fun w => new_ret n w
  have HX : ∀ w, Calls Tryd.prog 18 #[.int .i64 n] w (RNew w (clN n)) := fun w => refNew_ret n (by omega) w
  have hN5 := clN_le n
  obtain ⟨N, hN⟩ : ∃ N, clN n = N := ⟨_, rfl⟩
  rw [hN] at HN HX hN5 ⊢
  clear hN
  have HN := hid HN
  have HX := hid HX
  have HP := hid hP
  clear hP
  unfold BothR
  go_enter Tryd.func12, Tryd.ntmps12
  go_wp2_with (go_at_call 9; refine (HN.out _).mono ?_; rintro e' w2 ⟨b0, b1, rfl, hr2, h0, h1, hb2⟩; refine Hid.out ?_)
  have HX2 := hid (HX.out w2)
  clear HN HX
  refine hid ?_
  go_wp2_with (go_at_call 18; refine HX2.out.mono ?_; clear HX2; rintro e' w3 ⟨c0, v, ρ, rfl, hf3, h2, hb3⟩; refine Hid.out ?_)
  have hB : Bo w w3 b0 b1 c0 N v ρ (fun _ _ => false) (fun _ _ => false) := ⟨hr2.below hb3, hf3.c hN5 (by simp), h0, h1, Nat.le_trans hb2.size h2, fun j hj => Nat.le_trans hb2.size (hf3.rows j hj).2, hb2.trans (hb3.mono hb2.size)⟩
  have HL := hid (fun k => len_ret (hB.then (Fr.to_below ((Fr.refl _ w3).draws k))).a.v)
  have hc := hB.b.ncell
  have HB := hid hB
  clear hB hr2 hf3 h0 h1 h2 hb2 hb3
  refine hid ?_
  go_wp2
  go_quiet ((go_at_call 10; first | exact Qt.at1 ((HL.out _).mono fun _ _ h => ⟨h.1, 0, h.2⟩) | exact Qt.at0 ((HL.out _).mono fun _ _ h => ⟨h.1, 0, h.2⟩)))
  clear HL hc
  go_wp2
  go_loopw [9, 10] (fun o k wr => ∃ (i : Nat) (m : Nat → Nat → Bool), i ≤ len ∧ o = .bool true ∧ k = .int .i64 i ∧ Bo w wr b0 b1 c0 N v ρ m m) (fun _ k _ => len - (intOf k).toNat)
  case atStart => exact ⟨0, _, Nat.zero_le _, rfl, rfl, HB.out.then (Fr.to_below ((Fr.refl _ w3).draws _))⟩
  case round =>
    obtain ⟨i, m, hi, rfl, rfl, hb⟩ := hrel
    by_cases hlt : i < len
    · obtain ⟨b, off, rfl, hbl, hce⟩ := HP.out.2.2 (by omega)
      obtain ⟨c1, c2⟩ := hce i hlt
      have hcl : ∀ (W : World) (ma mb : Nat → Nat → Bool), Bo w W b0 b1 c0 N v ρ ma mb → W.cell? ⟨b, off + i * 2, none⟩ = some (.int .i64 (p i)) ∧ W.cell? ⟨b, off + i * 2 + 1, none⟩ = some (.int .i64 (q i)) := fun W ma mb h => by
        have := h.below.block b hbl
        simpa [World.cell?, this] using hce i hlt
      have hi' : ((i : Int)).toNat = i := by omega
      obtain ⟨d1, d2⟩ := hcl _ _ _ hb
      cases hin : (inE N (p i) && inE N (q i))
      · have HA := hid (fun k => addNo_ret (hb.then (Fr.to_below ((Fr.refl _ wr).draws k))).a.v (p i) (q i) hin)
        have HA2 := hid (fun k => refAddNo_ret (hb.then (Fr.to_below ((Fr.refl _ wr).draws k))).b (p i) (q i) hin)
        have HBr := hid (fun k => hb.then (Fr.to_below ((Fr.refl _ wr).draws k)))
        clear hcl hce c1 c2 hin hb
        go_wp2
        go_quiet (first | ((go_at_call 30; first | exact Qt.at1 ((HA.out _).mono fun _ _ h => ⟨h.1, 0, h.2⟩) | exact Qt.at0 ((HA.out _).mono fun _ _ h => ⟨h.1, 0, h.2⟩))) | ((go_at_call 19; first | exact Qt.at1 ((HA2.out _).mono fun _ _ h => ⟨h.1, 0, h.2⟩) | exact Qt.at0 ((HA2.out _).mono fun _ _ h => ⟨h.1, 0, h.2⟩))))
        clear HA HA2 d1 d2
        go_wp2
        go_roundw
        case rel => exact ⟨i + 1, m, by omega, rfl, by go_num, HBr.out _⟩
        case measure => simp [intOf]; omega
      · rw [Bool.and_eq_true] at hin
        obtain ⟨hp1, hp2⟩ := inE_iff.1 hin.1
        obtain ⟨hq1, hq2⟩ := inE_iff.1 hin.2
        obtain ⟨x, hx⟩ : ∃ x : Nat, p i = x := ⟨(p i).toNat, by omega⟩
        obtain ⟨y, hy⟩ : ∃ y : Nat, q i = y := ⟨(q i).toNat, by omega⟩
        rw [hx] at hp2 d1
        rw [hy] at hq2 d2
        simp only [hx, hy] at hcl
        have HCL := hid hcl
        have HAR := hid (fun (W : World) (ma mb : Nat → Nat → Bool) (h : Bo w W b0 b1 c0 N v ρ ma mb) => bo_addR h (x := x) (y := y) (by omega) (by omega))
        have HAX := hid (fun (W : World) (ma mb : Nat → Nat → Bool) (h : Bo w W b0 b1 c0 N v ρ ma mb) => bo_addX h (x := x) (y := y) (by omega) (by omega))
        have hbd := hb.dr
        have hk0 := hcl _ _ _ hbd
        clear hcl hce c1 c2 hin hb hp1 hp2 hq1 hq2 hx hy
        go_wp2
        go_region_held3 (fun W => W.cell? ⟨b, off + i * 2, none⟩ = some (.int .i64 x) ∧ W.cell? ⟨b, off + i * 2 + 1, none⟩ = some (.int .i64 y)) (first | assumption | (refine ⟨?_, ?_⟩ <;> assumption)) (first | (go_at_call 30; refine (HAR.out _ _ _ (by assumption)).mono ?_; rintro e' w5 ⟨rfl, hb5⟩; obtain ⟨k1, k2⟩ := HCL.out _ _ _ hb5) | (go_at_call 19; refine (HAX.out _ _ _ (by assumption)).mono ?_; rintro e' w5 ⟨rfl, hb5⟩; obtain ⟨k1, k2⟩ := HCL.out _ _ _ hb5))
        all_goals
          have Hend := hid hb5
          clear hb5 d1 d2
          go_wp2
          go_roundw
          case rel => exact ⟨i + 1, addP m x y, by omega, rfl, by go_num, Hend.out⟩
          case measure => simp [intOf]; omega
    · obtain rfl : i = len := by omega
      have HBr := hid hb
      clear hb
      go_wp2
      go_ret3
      exact ⟨b0, b1, c0, v, ρ, m, rfl, HBr.out⟩
end Go.Proofs.YthmmmbfjhfocfaaDoor
