/- Layer 13: the reference: how long the rows of a candidate are that is well made. -/
import Derived.Test.YtmaffamhjmlonaaK05
import Derived.Test.YtmaffamhjmlonaaK06
set_option linter.unusedVariables false
set_option linter.unusedSimpArgs false
namespace Go.Proofs.Ytmaffamhjmlonaa
open Go.RowKit Sim S2
theorem pigeon : ∀ (m n : Nat) (f : Nat -> Nat), (∀ i, i < n -> f i < m) -> (∀ i j, i < j -> j < n -> f i ≠ f j) -> n <= m
 | 0, n, f, h, _ => by
   rcases Nat.eq_zero_or_pos n with h0 | h0
   . omega
   . exact absurd (h 0 h0) (by omega)
 | m + 1, n, f, h, hi => by
   by_cases hx : ∃ i, i < n /\ f i = m
   . obtain ⟨i, h1, h2⟩ := hx
     have := pigeon m (n - 1) (fun j => if j = i then f (n - 1) else f j) (fun j hj => by
       show (if j = i then f (n - 1) else f j) < m
       by_cases hj1 : j = i
       . rw [if_pos hj1]
         have h3 := h (n - 1) (by omega)
         have h4 := hi i (n - 1) (by omega) (by omega)
         omega
       . rw [if_neg hj1]
         have h3 := h j (by omega)
         rcases Nat.lt_or_gt_of_ne hj1 with h5 | h5
         . have h4 := hi j i h5 h1
           omega
         . have h4 := hi i j h5 (by omega)
           omega) (fun j k hjk hk => by
       show (if j = i then f (n - 1) else f j) ≠ (if k = i then f (n - 1) else f k)
       by_cases hj1 : j = i
       . rw [if_pos hj1, if_neg (by omega)]
         exact fun hc => hi k (n - 1) (by omega) (by omega) hc.symm
       . rw [if_neg hj1]
         by_cases hk1 : k = i
         . rw [if_pos hk1]
           exact hi j (n - 1) (by omega) (by omega)
         . rw [if_neg hk1]
           exact hi j k hjk (by omega))
     omega
   . have := pigeon m n f (fun i hj => by
       have h3 := h i hj
       have h4 : f i ≠ m := fun hc => hx ⟨i, hj, hc⟩
       omega) hi
     omega
theorem skipN_full {P : Nat -> Bool} {n : Nat} (h : Nat.beq (skipN P n 0) n = true) : ∀ i, i < n -> P i = true := by
 have h1 := qB h
 exact fun i hi => skipN_all P n 0 i (by omega) (by omega)
theorem thZ_in {gl : Gl} {c : Cn} {h a : Int} (ht : thZ gl c h a = true) : 0 <= h /\ h < c.hn /\ 0 <= a /\ a < (lenV (c.hv gl h.toNat) : Nat) := by
 rw [thZ_eq] at ht
 unfold thB at ht
 cases h1 : decide (h < 0)
 . rw [h1] at ht
   cases h2 : decide (h >= (c.hn : Int))
   . rw [h2] at ht
     cases h3 : decide (a >= 0)
     . rw [h3] at ht; cases ht
     . rw [h3] at ht
       have h4 := of_decide_eq_false h1
       have h5 := of_decide_eq_false h2
       have h6 := of_decide_eq_true h3
       have h7 : a < (lenV (c.hv gl h.toNat) : Int) := of_decide_eq_true ht
       exact ⟨by omega, by omega, by omega, h7⟩
   . rw [h2] at ht; cases ht
 . rw [h1] at ht; cases ht
structure WellC (gl : Gl) (c : Cn) : Prop where
 hn : c.hn <= 8
 hv : ∀ i, i < c.hn -> lenV (c.hv gl i) <= 1024
 rc : ∀ i k, i < c.hn -> k < lenV (c.hv gl i) -> ck3B gl c i k = true
 some : ∀ i, i < c.rn -> 0 < lenV (c.rv gl i)
 st : ∀ i k, i < c.rn -> k < lenV (c.rv gl i) -> thZ gl c (rfG gl (c.rv gl i) k).h (rfG gl (c.rv gl i) k).a = true /\ twiZ gl c (i : Int) (k : Int) = false
theorem wellC_of {gl : Gl} {c : Cn} (h : chkZ gl c = 0) : WellC gl c := by
 rw [chkZ_eq] at h
 unfold chkB at h
 by_cases h0 : 8 < c.hn
 . rw [if_pos h0] at h; cases h
 rw [if_neg h0] at h
 by_cases h1 : skipN (ck1 gl c) c.hn 0 = c.hn
 . rw [if_pos h1] at h
   by_cases h2 : skipN (ck2B gl c) c.hn 0 = c.hn
   . rw [if_pos h2] at h
     by_cases h3 : skipN (ck4B gl c) c.rn 0 = c.rn
     . have g1 : ∀ i, i < c.hn -> ck1 gl c i = true := fun i hi => skipN_all _ c.hn 0 i (by omega) (by omega)
       have g2 : ∀ i, i < c.hn -> ck2B gl c i = true := fun i hi => skipN_all _ c.hn 0 i (by omega) (by omega)
       have g3 : ∀ i, i < c.rn -> ck4B gl c i = true := fun i hi => skipN_all _ c.rn 0 i (by omega) (by omega)
       have g4 : ∀ i, i < c.rn -> 0 < lenV (c.rv gl i) /\ Nat.beq (skipN (ck5B gl c i) (lenV (c.rv gl i)) 0) (lenV (c.rv gl i)) = true := fun i hi => by
         have h5 := g3 i hi
         unfold ck4B at h5
         cases h6 : (((lenV (c.rv gl i) : Nat) : Int) == 0)
         . rw [h6] at h5
           have h8 : ((lenV (c.rv gl i) : Nat) : Int) ≠ 0 := by simpa using h6
           refine ⟨by omega, ?_⟩
           cases h7 : decide ((i : Int) > 0)
           . rw [h7] at h5; exact h5
           . rw [h7] at h5
             cases h9 : decide (raG gl c.r i <= raG gl c.r ((i : Int) - 1).toNat)
             . rw [h9] at h5; exact h5
             . rw [h9] at h5; cases h5
         . rw [h6] at h5; cases h5
       refine ⟨by omega, fun i hi => ?_, fun i k hi hk => ?_, fun i hi => (g4 i hi).1, fun i k hi hk => ?_⟩
       . have h5 := g1 i hi
         unfold ck1 at h5
         cases h6 : decide (((lenV (c.hv gl i) : Nat) : Int) > 1024)
         . have := of_decide_eq_false h6; omega
         . rw [h6] at h5; cases h5
       . exact skipN_full (g2 i hi) k hk
       . have h5 := skipN_full (g4 i hi).2 k hk
         unfold ck5B at h5
         cases h6 : thZ gl c (rfG gl (c.rv gl i) k).h (rfG gl (c.rv gl i) k).a
         . rw [h6] at h5; cases h5
         . rw [h6] at h5
           cases h7 : twiZ gl c (i : Int) (k : Int)
           . exact ⟨rfl, rfl⟩
           . rw [h7] at h5; cases h5
     . rw [if_neg h3] at h; cases h
   . rw [if_neg h2] at h; cases h
 . rw [if_neg h1] at h; cases h
theorem twi_apart {gl : Gl} {c : Cn} {w a i k : Nat} (h : twiZ gl c (w : Int) (a : Int) = false) (hi : i <= w) (hk : k < lenV (c.rv gl i)) (hb : i < w \/ k < a) : (rfG gl (c.rv gl i) k).h ≠ (rfG gl (c.rv gl w) a).h \/ (rfG gl (c.rv gl i) k).a ≠ (rfG gl (c.rv gl w) a).a := by
 rw [twiZ_eq] at h
 rw [qN, qN] at h
 unfold twB at h
 have h1 : Nat.beq (skipN (tw2 gl c (rfG gl (c.rv gl w) a) w a) (w + 1) 0) (w + 1) = true := by simpa using h
 have h2 := skipN_full h1 i (by omega)
 unfold tw2 at h2
 have h3 := skipN_full h2 k hk
 unfold tw1 at h3
 have h4 : (decide ((i : Int) < (w : Int)) || decide ((k : Int) < (a : Int))) = true := by
   rcases hb with hb | hb
   . rw [decide_eq_true (show (i : Int) < (w : Int) by omega)]; rfl
   . rw [decide_eq_true (show (k : Int) < (a : Int) by omega), Bool.or_true]
 rw [h4] at h3
 by_cases h5 : (rfG gl (c.rv gl i) k).h = (rfG gl (c.rv gl w) a).h
 . refine .inr fun h6 => ?_
   rw [h5, h6] at h3
   simp at h3
 . exact .inl h5
theorem code_apart {a b x y : Nat} (hb : b < 1024) (hy : y < 1024) (h : a * 1024 + b = x * 1024 + y) : a = x /\ b = y := by omega
theorem row_most {gl : Gl} {c : Cn} (h : WellC gl c) (i : Nat) (hi : i < c.rn) : lenV (c.rv gl i) <= 8192 := by
 refine pigeon 8192 _ (fun k => (rfG gl (c.rv gl i) k).h.toNat * 1024 + (rfG gl (c.rv gl i) k).a.toNat) (fun k hk => ?_) (fun j k hj hk hc => ?_)
 . obtain ⟨h1, h2, h3, h4⟩ := thZ_in (h.st i k hi hk).1
   have h5 := h.hv (rfG gl (c.rv gl i) k).h.toNat (by have := h.hn; omega)
   have h6 := h.hn
   show (rfG gl (c.rv gl i) k).h.toNat * 1024 + (rfG gl (c.rv gl i) k).a.toNat < 8192
   omega
 . obtain ⟨h1, h2, h3, h4⟩ := thZ_in (h.st i k hi hk).1
   obtain ⟨g1, g2, g3, g4⟩ := thZ_in (h.st i j hi (by omega)).1
   have h5 := h.hv (rfG gl (c.rv gl i) k).h.toNat (by have := h.hn; omega)
   have g5 := h.hv (rfG gl (c.rv gl i) j).h.toNat (by have := h.hn; omega)
   obtain ⟨e1, e2⟩ := code_apart (by omega) (by omega) hc
   rcases twi_apart (h.st i k hi hk).2 (Nat.le_refl i) (by omega : j < lenV (c.rv gl i)) (.inr hj) with hx | hx
   . exact hx (by omega)
   . exact hx (by omega)
theorem rows_most {gl : Gl} {c : Cn} (h : WellC gl c) : c.rn <= 8192 := by
 refine pigeon 8192 _ (fun i => (rfG gl (c.rv gl i) 0).h.toNat * 1024 + (rfG gl (c.rv gl i) 0).a.toNat) (fun i hi => ?_) (fun j i hj hi hc => ?_)
 . obtain ⟨h1, h2, h3, h4⟩ := thZ_in (h.st i 0 hi (h.some i hi)).1
   have h5 := h.hv (rfG gl (c.rv gl i) 0).h.toNat (by have := h.hn; omega)
   have h6 := h.hn
   show (rfG gl (c.rv gl i) 0).h.toNat * 1024 + (rfG gl (c.rv gl i) 0).a.toNat < 8192
   omega
 . obtain ⟨h1, h2, h3, h4⟩ := thZ_in (h.st i 0 hi (h.some i hi)).1
   obtain ⟨g1, g2, g3, g4⟩ := thZ_in (h.st j 0 (by omega) (h.some j (by omega))).1
   have h5 := h.hv (rfG gl (c.rv gl i) 0).h.toNat (by have := h.hn; omega)
   have g5 := h.hv (rfG gl (c.rv gl j) 0).h.toNat (by have := h.hn; omega)
   obtain ⟨e1, e2⟩ := code_apart (by omega) (by omega) hc
   rcases twi_apart (h.st i 0 hi (h.some i hi)).2 (Nat.le_of_lt hj) (h.some j (by omega)) (.inl hj) with hx | hx
   . exact hx (by omega)
   . exact hx (by omega)
theorem cnBd_of {gl : Gl} {c : Cn} (h : chkZ gl c = 0) : CnBd gl c := by
 have hw := wellC_of h
 exact ⟨by have := hw.hn; omega, by have := rows_most hw; omega, fun i hi => by have := hw.hv i hi; omega, fun i hi => by have := row_most hw i hi; omega⟩
end Go.Proofs.Ytmaffamhjmlonaa
