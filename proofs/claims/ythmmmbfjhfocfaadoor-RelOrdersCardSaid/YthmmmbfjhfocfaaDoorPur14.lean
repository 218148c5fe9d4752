/- Orders of a relation, one element after the other. No word of the program. -/
import Derived.Test.YthmmmbfjhfocfaaDoorTur14
namespace Go.Proofs.YthmmmbfjhfocfaaDoor
open Go Go.RowKit
set_option linter.unusedVariables false
set_option linter.unusedSimpArgs false

def inL (L : List Nat) (x : Nat) : Bool := decide (x ∈ L)
theorem inL_iff {L : List Nat} {x : Nat} : inL L x = true ↔ x ∈ L := by simp [inL]
theorem inL_snoc (L : List Nat) (e x : Nat) : inL (L ++ [e]) x = (inL L x || x == e) := by
  unfold inL
  by_cases h : x ∈ L <;> by_cases h2 : x = e <;> simp [h, h2]
/-- How many pairs lead to b from elements that are not in L. -/
def deg (n : Nat) (m : Nat → Nat → Bool) (L : List Nat) (b : Nat) : Nat := (List.range n).countP (fun a => m a b && !inL L a)
theorem deg_zero {n : Nat} {m : Nat → Nat → Bool} {L : List Nat} {b : Nat} : deg n m L b = 0 ↔ ∀ a, a < n → m a b = true → a ∈ L := by
  unfold deg
  rw [List.countP_eq_zero]
  constructor
  · intro h a ha hm
    have := h a (List.mem_range.2 ha)
    simp [hm] at this
    exact inL_iff.1 this
  · intro h a ha
    have ha := List.mem_range.1 ha
    cases hm : m a b
    · simp
    · have := inL_iff.2 (h a ha hm)
      simp [this]
theorem deg_le (n : Nat) (m : Nat → Nat → Bool) (L : List Nat) (b : Nat) : deg n m L b ≤ n := by
  unfold deg
  exact Nat.le_trans List.countP_le_length (by simp)
theorem deg_snoc {m : Nat → Nat → Bool} {L : List Nat} {e b : Nat} (he : e ∉ L) : ∀ n, deg n m L b = deg n m (L ++ [e]) b + (if e < n ∧ m e b = true then 1 else 0)
  | 0 => by simp [deg]
  | n + 1 => by
    have ih := deg_snoc (m := m) (b := b) he n
    unfold deg at ih ⊢
    rw [List.range_succ, List.countP_append, List.countP_append, ih]
    by_cases hn : n = e
    · subst hn
      rw [if_neg (by omega)]
      have h1 : inL L n = false := by unfold inL; exact decide_eq_false he
      have h2 : inL (L ++ [n]) n = true := inL_iff.2 (by simp)
      cases hm : m n b
      · simp [hm]
      · simp [hm, h1, h2]
    · have h2 : inL (L ++ [e]) n = inL L n := by rw [inL_snoc]; simp [hn]
      have h3 : List.countP (fun a => m a b && !inL (L ++ [e]) a) [n] = List.countP (fun a => m a b && !inL L a) [n] := by simp [h2]
      rw [h3]
      by_cases h : e < n ∧ m e b = true
      · rw [if_pos h, if_pos ⟨by omega, h.2⟩]; omega
      · rw [if_neg h, if_neg (fun hc => h ⟨by omega, hc.2⟩)]; omega
/-- What may come next. -/
def rdF (n : Nat) (m : Nat → Nat → Bool) (L : List Nat) : Nat → Bool := fun x => decide (x < n) && !inL L x && decide (deg n m L x = 0)
theorem rdF_iff {n : Nat} {m : Nat → Nat → Bool} {L : List Nat} {x : Nat} : rdF n m L x = true ↔ x < n ∧ x ∉ L ∧ deg n m L x = 0 := by
  unfold rdF inL
  simp [and_assoc]
/-- A list of elements to each of which no pair leads from elsewhere. -/
structure Gd (n : Nat) (m : Nat → Nat → Bool) (L : List Nat) : Prop where
  nd : L.Nodup
  lt : ∀ x, x ∈ L → x < n
  dz : ∀ x, x ∈ L → deg n m L x = 0
theorem Gd.nil (n : Nat) (m : Nat → Nat → Bool) : Gd n m [] := ⟨List.nodup_nil, (fun x h => by cases h), (fun x h => by cases h)⟩
theorem Gd.snoc {n : Nat} {m : Nat → Nat → Bool} {L : List Nat} {e : Nat} (h : Gd n m L) (he : rdF n m L e = true) : Gd n m (L ++ [e]) := by
  obtain ⟨h1, h2, h3⟩ := rdF_iff.1 he
  refine ⟨?_, fun x hx => ?_, fun x hx => ?_⟩
  · rw [List.nodup_append]
    exact ⟨h.nd, by simp, fun a ha b hb => by rw [List.mem_singleton.1 hb]; rintro rfl; exact h2 ha⟩
  · rcases List.mem_append.1 hx with hx | hx
    · exact h.lt x hx
    · rw [List.mem_singleton.1 hx]; exact h1
  · have := deg_snoc (m := m) (b := x) h2 n
    have h4 : deg n m L x = 0 := by
      rcases List.mem_append.1 hx with hx | hx
      · exact h.dz x hx
      · rw [List.mem_singleton.1 hx]; exact h3
    omega
theorem nodup_len : ∀ (n : Nat) {L : List Nat}, L.Nodup → (∀ x, x ∈ L → x < n) → L.length ≤ n
  | 0, L, _, hl => by
    cases L with
    | nil => simp
    | cons x l => exact absurd (hl x List.mem_cons_self) (by omega)
  | n + 1, L, hn, hl => by
    by_cases hx : n ∈ L
    · have := nodup_len n (L := L.erase n) (hn.erase n) fun x h => by
        have h1 := (List.Nodup.mem_erase_iff hn).1 h
        have := hl x h1.2
        omega
      rw [List.length_erase_of_mem hx] at this
      omega
    · have := nodup_len n hn fun x h => by
        have h1 := hl x h
        have h2 : x ≠ n := fun hc => hx (hc ▸ h)
        omega
      omega
theorem Gd.len {n : Nat} {m : Nat → Nat → Bool} {L : List Nat} (h : Gd n m L) : L.length ≤ n := nodup_len n h.nd h.lt
theorem els_mem' {f : Nat → Bool} {e : Nat} : e ∈ els f ↔ f e = true ∧ e < 512 := by
  unfold els
  rw [List.mem_filter, List.mem_range]
  exact ⟨fun h => ⟨h.2, h.1⟩, fun h => ⟨h.2, h.1⟩⟩
theorem nodup_fr (f : Nat → Bool) (n : Nat) : ((List.range n).filter f).Nodup := List.Nodup.sublist List.filter_sublist List.nodup_range
theorem els_nodup (f : Nat → Bool) : (els f).Nodup := by unfold els; exact nodup_fr f _
/-- The least element, if there is one. -/
def nxL (l : List Nat) : Option Nat := l.head?
def nx (f : Nat → Bool) : Option Nat := nxL (els f)
theorem nx_some {f : Nat → Bool} {e : Nat} (h : nx f = some e) : f e = true ∧ e < 512 := els_mem'.1 (List.mem_of_mem_head? h)
theorem nx_none {f : Nat → Bool} (h : nx f = none) : ∀ x, x < 512 → f x = false := fun x hx => by
  have h1 : els f = [] := List.head?_eq_none_iff.1 h
  cases hf : f x
  · rfl
  · have := els_mem'.2 ⟨hf, hx⟩
    rw [h1] at this; cases this
/-- One more element. -/
def grS (n : Nat) (m : Nat → Nat → Bool) (L : List Nat) : Option Nat → List Nat
  | some e => L ++ [e]
  | none => L
/-- The order as far as it goes. -/
def gr (n : Nat) (m : Nat → Nat → Bool) : Nat → List Nat
  | 0 => []
  | k + 1 => grS n m (gr n m k) (nx (rdF n m (gr n m k)))
theorem gr_succ (n : Nat) (m : Nat → Nat → Bool) (k : Nat) : gr n m (k + 1) = grS n m (gr n m k) (nx (rdF n m (gr n m k))) := rfl
theorem gr_some {n : Nat} {m : Nat → Nat → Bool} {k e : Nat} (h : nx (rdF n m (gr n m k)) = some e) : gr n m (k + 1) = gr n m k ++ [e] := by rw [gr_succ, h]; rfl
theorem gr_none {n : Nat} {m : Nat → Nat → Bool} {k : Nat} (h : nx (rdF n m (gr n m k)) = none) : ∀ j, gr n m (k + j) = gr n m k
  | 0 => rfl
  | j + 1 => by
    have ih := gr_none h j
    rw [← Nat.add_assoc, gr_succ, ih, h]; rfl
theorem gr_gd (n : Nat) (m : Nat → Nat → Bool) : ∀ k, Gd n m (gr n m k)
  | 0 => Gd.nil n m
  | k + 1 => by
    rw [gr_succ]
    cases h : nx (rdF n m (gr n m k)) with
    | none => exact gr_gd n m k
    | some e => exact (gr_gd n m k).snoc (nx_some h).1
/-- The inner loop: the pairs from e to the first k elements are taken away. -/
def oK (n : Nat) (m : Nat → Nat → Bool) (L : List Nat) (e k : Nat) : Nat → Int := fun b => (deg n m L b : Int) - (if b ∈ (els (m e)).take k then 1 else 0)
def rK (n : Nat) (m : Nat → Nat → Bool) (L : List Nat) (e k : Nat) : Nat → Bool := fun x => decide (x < n) && !inL (L ++ [e]) x && decide (oK n m L e k x = 0)
theorem take_succ_of {l : List Nat} {k b : Nat} (h : l[k]? = some b) : l.take (k + 1) = l.take k ++ [b] := by
  obtain ⟨h1, h2⟩ := List.getElem?_eq_some_iff.1 h
  rw [List.take_succ_eq_append_getElem h1, h2]
theorem nodup_ne {l : List Nat} (hn : l.Nodup) (i k : Nat) (hik : i < k) (hk : k < l.length) : l[i]'(by omega) ≠ l[k] := by
  have := List.pairwise_iff_getElem.1 hn i k (by omega) hk hik
  exact this
theorem not_in_take {l : List Nat} (hn : l.Nodup) {k b : Nat} (h : l[k]? = some b) : b ∉ l.take k := fun hc => by
  obtain ⟨h1, h2⟩ := List.getElem?_eq_some_iff.1 h
  obtain ⟨i, hi, h3⟩ := List.mem_iff_getElem.1 hc
  have hi' : i < k := by rw [List.length_take] at hi; omega
  rw [List.getElem_take, ← h2] at h3
  exact absurd h3 (nodup_ne hn i k hi' h1)
theorem oK_step {n : Nat} {m : Nat → Nat → Bool} {L : List Nat} {e k b : Nat} (h : (els (m e))[k]? = some b) : updF (oK n m L e k) b (oK n m L e k b - 1) = oK n m L e (k + 1) := by
  have hnt := not_in_take (els_nodup (m e)) h
  have ht := take_succ_of h
  funext x
  unfold oK
  rw [ht]
  by_cases hx : x = b
  · subst hx
    rw [updF_same, if_neg hnt, if_pos (by simp)]; omega
  · rw [updF_other _ _ hx]
    by_cases hm : x ∈ (els (m e)).take k
    · rw [if_pos hm, if_pos (by simp [hm])]
    · rw [if_neg hm, if_neg (by simp [hm, hx])]
theorem rK_step {n : Nat} {m : Nat → Nat → Bool} {L : List Nat} {e k b : Nat} (hL : Gd n m L) (he : rdF n m L e = true) (hm : ∀ a b, m a b = true → a < n ∧ b < n) (h : (els (m e))[k]? = some b) :
    rK n m L e (k + 1) = if oK n m L e (k + 1) b = 0 then (fun x => x == b || rK n m L e k x) else rK n m L e k := by
  obtain ⟨h1, h2, h3⟩ := rdF_iff.1 he
  obtain ⟨hmb, _⟩ := els_mem h
  have hbn := (hm _ _ hmb).2
  have hbL : b ∉ L := fun hc => h2 (deg_zero.1 (hL.dz b hc) e h1 hmb)
  have hbe : b ≠ e := by rintro rfl; exact h2 (deg_zero.1 h3 b h1 hmb)
  have hin : inL (L ++ [e]) b = false := by rw [inL_snoc]; unfold inL; simp [hbL, hbe]
  have hst := oK_step (n := n) (L := L) h
  have hoth : ∀ x, x ≠ b → oK n m L e (k + 1) x = oK n m L e k x := fun x hx => by rw [← hst, updF_other _ _ hx]
  have hdeg : 1 ≤ deg n m L b := by
    rcases Nat.eq_zero_or_pos (deg n m L b) with h0 | h0
    · exact absurd (deg_zero.1 h0 e h1 hmb) h2
    · exact h0
  have hkb : oK n m L e k b = deg n m L b := by unfold oK; rw [if_neg (not_in_take (els_nodup _) h)]; omega
  funext x
  by_cases hx : x = b
  · subst hx
    have hr0 : rK n m L e k x = false := by unfold rK; rw [hkb, decide_eq_false (p := (((deg n m L x : Nat) : Int) = 0)) (by omega)]; simp
    have hr1 : rK n m L e (k + 1) x = decide (oK n m L e (k + 1) x = 0) := by unfold rK; rw [hin, decide_eq_true hbn]; simp
    by_cases hz : oK n m L e (k + 1) x = 0
    · rw [if_pos hz, hr1, decide_eq_true hz]; simp
    · rw [if_neg hz, hr1, hr0, decide_eq_false hz]
  · have hr : rK n m L e (k + 1) x = rK n m L e k x := by unfold rK; rw [hoth x hx]
    rw [hr]
    split
    · show _ = (x == b || _)
      rw [show (x == b) = false by simpa using hx]; rfl
    · rfl
theorem rK_zero {n : Nat} {m : Nat → Nat → Bool} {L : List Nat} {e : Nat} : rK n m L e 0 = fun x => !(x == e) && rdF n m L x := by
  funext x
  unfold rK rdF oK
  rw [inL_snoc]
  simp
  cases decide (x < n) <;> cases inL L x <;> cases hx : (x == e) <;> simp_all
theorem oK_zero {n : Nat} {m : Nat → Nat → Bool} {L : List Nat} {e : Nat} : oK n m L e 0 = fun b => (deg n m L b : Int) := by
  funext b; unfold oK; simp
theorem oK_all {n : Nat} {m : Nat → Nat → Bool} {L : List Nat} {e : Nat} (he : rdF n m L e = true) {b : Nat} (hb : b < 512) : oK n m L e (els (m e)).length b = (deg n m (L ++ [e]) b : Int) := by
  obtain ⟨h1, h2, h3⟩ := rdF_iff.1 he
  have := deg_snoc (m := m) (b := b) h2 n
  unfold oK
  rw [List.take_of_length_le (Nat.le_refl _)]
  by_cases hm : m e b = true
  · rw [if_pos (els_mem'.2 ⟨hm, hb⟩)]
    rw [if_pos ⟨h1, hm⟩] at this
    omega
  · rw [if_neg (fun hc => hm (els_mem'.1 hc).1)]
    rw [if_neg (fun hc => hm hc.2)] at this
    omega
theorem rK_all {n : Nat} {m : Nat → Nat → Bool} {L : List Nat} {e : Nat} (he : rdF n m L e = true) (hn : n ≤ 512) : rK n m L e (els (m e)).length = rdF n m (L ++ [e]) := by
  funext x
  unfold rK rdF
  by_cases hx : x < n
  · rw [oK_all he (by omega)]
    congr 1
    by_cases h : deg n m (L ++ [e]) x = 0
    · rw [decide_eq_true h, decide_eq_true (by omega)]
    · rw [decide_eq_false h, decide_eq_false (by omega)]
  · rw [decide_eq_false hx]; simp
/-- How many pairs of a list lead to b. -/
def cP (l : List (Nat × Nat)) (b : Nat) : Nat := l.countP (fun x => x.2 == b)
theorem cP_snoc (l : List (Nat × Nat)) (x : Nat × Nat) : updF (fun b => ((cP l b : Nat) : Int)) x.2 (((cP l x.2 : Nat) : Int) + 1) = fun b => ((cP (l ++ [x]) b : Nat) : Int) := by
  funext b
  unfold cP
  rw [List.countP_append]
  by_cases hb : b = x.2
  · subst hb; rw [updF_same]; simp
  · rw [updF_other _ _ hb]
    have : (x.2 == b) = false := by simpa using fun h => hb h.symm
    simp [this]
theorem cP_le (l : List (Nat × Nat)) (b : Nat) : cP l b ≤ l.length := List.countP_le_length
theorem countP_snd (l : List Nat) (n b : Nat) : (l.map fun y => (n, y)).countP (fun x : Nat × Nat => x.2 == b) = l.count b := by
  induction l with
  | nil => rfl
  | cons y l ih => rw [List.map_cons, List.countP_cons, List.count_cons, ih]
theorem deg_succ (n : Nat) (m : Nat → Nat → Bool) (b : Nat) : deg (n + 1) m [] b = deg n m [] b + (if m n b = true then 1 else 0) := by
  unfold deg
  rw [List.range_succ, List.countP_append]
  congr 1
  cases hm : m n b <;> simp [hm, inL]
theorem cP_all (m : Nat → Nat → Bool) {b : Nat} (hb : b < 512) : ∀ n, cP (prs n m) b = deg n m [] b
  | 0 => rfl
  | n + 1 => by
    have ih := cP_all m hb n
    have hnd := els_nodup (m n)
    have hmem := @els_mem' (m n) b
    rw [prs_succ, deg_succ, ← ih]
    generalize els (m n) = E at hnd hmem
    unfold cP
    rw [List.countP_append, countP_snd]
    congr 1
    cases hm : m n b
    · rw [List.count_eq_zero_of_not_mem (fun hc => by rw [(hmem.1 hc).1] at hm; cases hm)]; rfl
    · rw [hnd.count, if_pos (hmem.2 ⟨hm, hb⟩)]; rfl
end Go.Proofs.YthmmmbfjhfocfaaDoor
