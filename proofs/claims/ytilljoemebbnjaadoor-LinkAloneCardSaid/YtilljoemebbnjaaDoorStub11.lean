/- Layer 11: a unit with an entry stub ahead of it: it is valid where the unit is; what its constants become may be laid out; all its words are instructions that may be. -/
import Derived.Test.YtilljoemebbnjaaDoorRlx10
import Derived.Test.YtilljoemebbnjaaDoorK09
set_option linter.unusedVariables false
set_option linter.unusedSimpArgs false
namespace Go.Proofs.YtilljoemebbnjaaDoor
open Go.RowKit Sim S2
def stbI (rd n : Int) : It := ⟨4, ⟨0, rd, 0, 0, 0, false, false⟩, n, 0⟩
def stbF (d : Int) (f : Nat → It) : Nat → It
  | 0 => stbI 4 16777216
  | 1 => stbI 2 (16777216 + 8 * d)
  | k + 2 => f k
theorem stb_stands (d : Int) (f : Nat → It) (x : Int) : ∀ k, standsB (stbF d f) x (k + 2) = standsB f x k
  | 0 => by
    show standsB (stbF d f) x (0 + 1 + 1) = _
    rw [stands_succ, stands_succ]
    rfl
  | k + 1 => by
    show standsB (stbF d f) x ((k + 2) + 1) = _
    rw [stands_succ, stb_stands d f x k, stands_succ f x k]
    rfl
theorem stb_unit {n : Nat} {f : Nat → It} (d : Int) (h : (unitR n f).2 = 0) : (unitR (n + 2) (stbF d f)).2 = 0 := by
  obtain ⟨h1, h2, h3⟩ := unitR_ok h
  have e : unitR (n + 2) (stbF d f) = (0, 0) := unitR_zero (fun j hj => by
    match j with
    | 0 => rfl
    | 1 => rfl
    | k + 2 => exact h1 k (by omega)) (fun j hj => by
    match j with
    | 0 => rfl
    | 1 => rfl
    | k + 2 =>
      show ((f k).kind == 1 && standsB (stbF d f) (f k).n (k + 2)) = false
      rw [stb_stands]; exact h2 k (by omega)) fun j hj => by
    match j with
    | 0 => rfl
    | 1 => rfl
    | k + 2 =>
      show (((f k).kind == 2 || (f k).kind == 3) && !standsB (stbF d f) (f k).n (n + 2)) = false
      rw [stb_stands]; exact h3 k (by omega)
  rw [e]
theorem stb_wf {n : Nat} {f : Nat → It} {d : Int} (h : ∀ j, j < n → wfIt (f j)) (h0 : 0 ≤ d) (h1 : d ≤ 1000000000000) : ∀ j, j < n + 2 → wfIt (stbF d f j) := fun j hj => by
  match j with
  | 0 => exact ⟨by show _ ≤ (16777216 : Int); decide, by show (16777216 : Int) ≤ _; decide⟩
  | 1 => exact ⟨by show _ ≤ 16777216 + 8 * d; omega, by show 16777216 + 8 * d ≤ _; omega⟩
  | k + 2 => exact h k (by omega)
theorem cst_of {n : Nat} {f : Nat → It} (h : (unitR n f).2 = 0) (hw : ∀ j, j < n → wfIt (f j)) : cstOk n f := fun j hj h4 => by
  have h1 := (unitR_ok h).1 j hj
  unfold bad1 at h1
  have hk : ((f j).kind == 4) = true := by
    cases e : (f j).kind == 4
    · unfold bne at h4; rw [e] at h4; cases h4
    · rfl
  exact ⟨(const_right hk (by simpa using h1)).1, (hw j hj).1, (hw j hj).2⟩
theorem xp_kind (f : Nat → It) : ∀ j, ∀ i ∈ xpL f j, (i.kind == 4) = false
  | 0, i, hi => by cases hi
  | j + 1, i, hi => by
    have hi : i ∈ xpL f j ++ xpd (f j) := hi
    rcases List.mem_append.mp hi with hi | hi
    · exact xp_kind f j i hi
    · unfold xpd at hi
      cases e : (f j).kind == 4
      · rw [e] at hi
        have : i = f j := List.mem_singleton.mp hi
        rw [this]; exact e
      · rw [e] at hi
        obtain ⟨a, _, rfl⟩ := List.mem_map.mp hi
        rfl
theorem elI_mem {L : List It} {p : Nat} (h : p < L.length) : elI L p ∈ L := by
  unfold elI; rw [List.getElem?_eq_getElem h]; exact List.getElem_mem h
theorem xp_may {n : Nat} {f : Nat → It} (h : (unitR n f).2 = 0) (hw : ∀ j, j < n → wfIt (f j)) : mayU (xpL f n).length (elI (xpL f n)) = true := by
  unfold mayU
  rw [fst_all fun j hj => xp_kind f n _ (elI_mem hj)]
  show ((unitR _ _).2 == 0) = true
  rw [expand_unit h hw]; rfl
theorem words_may {n : Nat} {f : Nat → It} (hy : mayU n f = true) {i : Nat} (hi : i < n) (hb : badJ f (lgG n f) n i = false) : ∀ x ∈ layW f (lgG n f) n i, mayB x = true := fun x hx => by
  obtain ⟨hk, hgk⟩ := may_kind hy i hi
  have hno : (f i).kind ≠ 3 → lgG n f i = false := fun hc => by
    cases e : lgG n f i
    · rfl
    · exact absurd (hgk e) hc
  rcases hk with hk | hk | hk | hk
  · have e : layW f (lgG n f) n i = [(f i).ins] := by unfold layW; rw [hk]; rfl
    rw [e] at hx
    rw [List.mem_singleton.mp hx]
    exact may_ins hy hi hk
  · have e : layW f (lgG n f) n i = [] := by unfold layW; rw [hk, hno (by omega)]; rfl
    rw [e] at hx; cases hx
  · have e : layW f (lgG n f) n i = [jalI (disN f (lgG n f) n i)] := by unfold layW; rw [hk]; rfl
    rw [e] at hx
    rw [List.mem_singleton.mp hx]
    obtain ⟨z, hz⟩ := dis4 (g := lgG n f) hy hi (.inl hk)
    rw [hz, may_jal]
    unfold badJ at hb
    rw [hk, hz] at hb
    have hb : ((true && farJ (4 * z)) || (lgG n f i && farJ (4 * z - 4))) = false := hb
    rw [Bool.true_and, Bool.or_eq_false_iff] at hb
    rw [hb.1]; rfl
  · obtain ⟨ho, hra, hrb⟩ := may_br hy hi hk
    obtain ⟨z, hz⟩ := dis4 (g := lgG n f) hy hi (.inr hk)
    cases hg : lgG n f i
    · have e : layW f (lgG n f) n i = [ifI (f i).ins.op (f i).ins.a (f i).ins.b (disN f (lgG n f) n i)] := by unfold layW; rw [hk, hg]; rfl
      rw [e] at hx
      rw [List.mem_singleton.mp hx]
      have hc := lgG_closed n f i hi
      unfold lgB at hc
      rw [hk, hg, hz] at hc
      have hc : (decide (4 * z < -4096) || decide (4 * z > 4094)) = false := hc
      rw [← fit13] at hc
      refine may_if ho hra hrb ?_
      rw [hz, even4, Bool.true_and]
      simpa using hc
    · have e : layW f (lgG n f) n i = [ifI (oppZ (f i).ins.op) (f i).ins.a (f i).ins.b 8, jalI (disN f (lgG n f) n i - 4)] := by unfold layW; rw [hk, hg]; rfl
      rw [e] at hx
      rcases List.mem_cons.mp hx with rfl | hx
      · exact may_if (opp4 ho) hra hrb (by decide)
      · rw [List.mem_singleton.mp hx, hz, show 4 * z - 4 = 4 * (z - 1) by omega, may_jal]
        unfold badJ at hb
        rw [hk, hg, hz, show 4 * z - 4 = 4 * (z - 1) by omega] at hb
        have hb : ((false && farJ (4 * z)) || (true && farJ (4 * (z - 1)))) = false := hb
        simp at hb
        rw [hb]; rfl
theorem layA_may {n : Nat} {f : Nat → It} (hy : mayU n f = true) (hb : fstN (badJ f (lgG n f) n) n = none) : ∀ i, i ≤ n → ∀ x ∈ layA f (lgG n f) n i, mayB x = true
  | 0, _, x, hx => by cases hx
  | i + 1, hi, x, hx => by
    have hx : x ∈ layA f (lgG n f) n i ++ layW f (lgG n f) n i := hx
    rcases List.mem_append.mp hx with hx | hx
    · exact layA_may hy hb i (by omega) x hx
    · exact words_may hy (show i < n by omega) (fst_none hb i (by omega)) x hx
theorem base_pos (rd n : Int) : 0 < (baseL rd n).length := by
  unfold baseL
  cases fitZ n 12
  · exact Nat.succ_pos _
  · exact Nat.succ_pos _
theorem ldL_pos : ∀ (d : Nat) (rd n : Int), 0 < (ldL d rd n).length
  | 0, rd, n => base_pos rd n
  | d + 1, rd, n => by
    show 0 < (bif fitZ n 12 || fitZ n 32 then baseL rd n else ldL d rd (oddH n) ++ _).length
    cases fitZ n 12 || fitZ n 32
    · show 0 < (ldL d rd (oddH n) ++ _).length
      rw [List.length_append]
      have := ldL_pos d rd (oddH n)
      omega
    · exact base_pos rd n
theorem xp_first (d : Int) (f : Nat → It) : ∀ j, ∃ i r, xpL (stbF d f) (j + 1) = i :: r ∧ i.kind = 0
  | 0 => by
    have hp := ldL_pos 3 4 16777216
    have e : xpL (stbF d f) (0 + 1) = (LD 4 16777216).map (mkI 0) := rfl
    cases h : LD 4 16777216 with
    | nil => unfold LD at h; rw [h] at hp; cases hp
    | cons a l => exact ⟨_, _, by rw [e, h, List.map_cons], rfl⟩
  | j + 1 => by
    obtain ⟨i, r, h, hk⟩ := xp_first d f j
    exact ⟨i, r ++ xpd (stbF d f (j + 1)), by show xpL (stbF d f) (j + 1) ++ _ = _; rw [h]; rfl, hk⟩
theorem layA_grow (f : Nat → It) (g : Nat → Bool) (n : Nat) : ∀ i, (layA f g n 1).length ≤ (layA f g n (i + 1)).length
  | 0 => Nat.le_refl _
  | i + 1 => by
    have := layA_grow f g n i
    show _ ≤ (layA f g n (i + 1) ++ layW f g n (i + 1)).length
    rw [List.length_append]; omega
theorem stb_pos (d : Int) (f : Nat → It) (n : Nat) (g : Nat → Bool) (m : Nat) : 0 < (layA (elI (xpL (stbF d f) (n + 2))) g m (xpL (stbF d f) (n + 2)).length).length := by
  obtain ⟨i, r, h, hk⟩ := xp_first d f (n + 1)
  rw [h]
  have h1 : (layA (elI (i :: r)) g m 1).length = 1 := by
    show ([] ++ layW (elI (i :: r)) g m 0).length = 1
    unfold layW
    have : (elI (i :: r) 0).kind = 0 := hk
    rw [this]; rfl
  have := layA_grow (elI (i :: r)) g m r.length
  rw [h1] at this
  rw [List.length_cons]; omega
end Go.Proofs.YtilljoemebbnjaaDoor
