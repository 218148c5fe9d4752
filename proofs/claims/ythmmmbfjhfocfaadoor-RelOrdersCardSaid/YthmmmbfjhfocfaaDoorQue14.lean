/- A queue of elements; the search for all to which an element leads. -/
import Derived.Test.YthmmmbfjhfocfaaDoorTc14
import Derived.Test.YthmmmbfjhfocfaaDoorAcy14
import Derived.Test.YthmmmbfjhfocfaaDoorBoth14
import Derived.ArgAppend
namespace Go.Proofs.YthmmmbfjhfocfaaDoor
open Go Go.RowKit
set_option linter.unusedVariables false
set_option linter.unusedSimpArgs false

def QI (w : World) (base : Nat) (v : Value) (l : List Nat) : Prop :=
  ∃ g o cap f, v = .slice (some ⟨g, o, none⟩) l.length cap ∧ base ≤ g ∧ l.length ≤ cap ∧ cap ≤ maxLen ∧ Hb w g 3 (o + cap) f ∧ ∀ i x, l[i]? = some x → f (o + i) = .int .i64 (x : Nat)
theorem QI.kc {ok : Nat → TypeId → Prop} {w w' : World} {base : Nat} {v : Value} {l : List Nat} (h : QI w base v l) (hk : Kc ok w w') (hn : ∀ k, ¬ ok k 3) : QI w' base v l := by
  obtain ⟨g, o, cap, f, h1, h2, h3, h4, h5, h6⟩ := h
  exact ⟨g, o, cap, f, h1, h2, h3, h4, h5.kc hk (hn g), h6⟩
theorem QI.set {w : World} {base r b K : Nat} {t : TypeId} {F : Nat → Value} {v : Value} {l : List Nat} (h : QI w base v l) (hr : Hb w r t K F) (ht : 3 ≠ t) (x : Value) : QI (w.setCell ⟨r, b, none⟩ x) base v l := by
  obtain ⟨g, o, cap, f, h1, h2, h3, h4, h5, h6⟩ := h
  exact ⟨g, o, cap, f, h1, h2, h3, h4, h5.other (h5.ty hr ht) _, h6⟩
theorem QI.one (w : World) (base a : Nat) (hb : base ≤ w.heap.size) : QI (w.alloc (.cells #[.int .i64 (a : Nat)] 3)) base (.slice (some ⟨w.heap.size, 0, none⟩) 1 1) [a] :=
  ⟨w.heap.size, 0, 1, fun _ => .int .i64 (a : Nat), rfl, hb, by simp, by decide, Hb.new w #[.int .i64 (a : Nat)] 3 (one_at _), fun i x hx => by
    cases i with
    | zero => simp at hx; rw [hx]
    | succ i => simp at hx⟩
theorem QI.len {w : World} {base : Nat} {v : Value} {l : List Nat} (h : QI w base v l) : slLen v = l.length := by
  obtain ⟨g, o, cap, f, rfl, _⟩ := h
  rfl
theorem wpList_append_q {ops : Array Oper} {rest : List Oper} {o : Oper} {a : Act} {Q : Exit → Act → World → Prop} (W : World) (hgd : o.guard = none) (s x : Operand) (t : TypeId)
    (ho : o.op = .call { callee := .builtin .append, args := #[s, x], argTypes := #[t, t] }) (ht : t = 46) (base : Nat) (v : Value) (l : List Nat) (hs : a.eval s = v) (hq : QI W base v l)
    (ad : Addr) (y c : Nat) (hx : a.eval x = .slice (some ad) 1 c) (hc : W.cell? ad = some (.int .i64 (y : Nat))) (hb : base ≤ W.heap.size) (hlen : l.length ≤ 1000)
    (h : ∀ v' w' T, QI w' base v' (l ++ [y]) → Kc (fun _ t => t = 3) W w' → Fr T W w' → (∀ i, i ∈ T → base ≤ i) → wpList Tryd.prog ops Q rest (a.put o.dst v') w') : wpList Tryd.prog ops Q (o :: rest) a W := by
  subst ht
  obtain ⟨i0, hi0, hz0, hz1, hz2⟩ := info_parts intInfo
  obtain ⟨g, off, cap, f, rfl, hg, hl, hm, hh, hf⟩ := hq
  have hcells : ∀ (j : Nat) u, [Value.int .i64 (y : Nat)][j]? = some u → W.cell? (ad.add j) = some u := fun j u hu => by
    cases j with
    | zero =>
      simp at hu
      subst hu
      have : ad.add 0 = ad := by unfold Addr.add; split <;> simp_all
      rw [this]; exact hc
    | succ j => simp at hu
  refine wpList_append_arg W hgd s x 46 ho 3 i0 (.int .i64 0) 1 8 Tryd.underlying46 hi0 hz0 hz1 hz2 rfl (by decide) g off l.length cap (l.map fun (x : Nat) => Value.int .i64 x) hs (by simp) (fun j u hu => ?_) ad 1 c [.int .i64 (y : Nat)] hx rfl hcells (by simp [Value.oneCell']) (fun hr j hj => ?_) (by unfold maxLen; omega) (by omega) (fun hr => ?_) (fun hr v' w' hown hgrow => ?_)
  · rw [List.getElem?_map] at hu
    cases hx2 : l[j]? with
    | none => rw [hx2] at hu; cases hu
    | some z =>
      rw [hx2] at hu
      have hj := (List.getElem?_eq_some_iff.1 hx2).1
      rw [hh.cell (i := off + j) (by omega), hf j z hx2]
      exact hu
  · simp at hj
    subst hj
    rw [Nat.mul_one, Nat.add_zero]
    exact ⟨by rw [hh.cell (i := off + l.length) (by omega)]; rfl, hh.free _⟩
  · rw [Nat.mul_one]
    show wpList _ _ _ _ _ ((W.setCell ⟨g, off + l.length, none⟩ (.int .i64 (y : Nat))).setCells g (off + l.length + 1) [])
    rw [show ∀ w b o, World.setCells w b o [] = w from fun _ _ _ => rfl]
    obtain ⟨cs, fz, hob⟩ := hh.obj
    refine h _ _ [g] ⟨g, off, cap, updF f (off + l.length) (.int .i64 (y : Nat)), by rw [List.length_append]; rfl, hg, by rw [List.length_append]; exact hr, hm, hh.set _, fun i z hz => ?_⟩ (Kc.set (ok := fun _ t => t = 3) (p := ⟨g, off + l.length, none⟩) (Kc.refl _ W) (.inl ⟨cs, 3, fz, hob, rfl⟩) _) (Fr.set (Fr.refl [g] W) (.inr (by simp)) _) (fun i hi => by rw [List.mem_singleton.1 hi]; exact hg)
    by_cases hi : i < l.length
    · rw [updF_other _ _ (by omega)]
      rw [List.getElem?_append_left hi] at hz
      exact hf i z hz
    · rw [List.getElem?_append_right (by omega)] at hz
      have : i = l.length := by
        have := (List.getElem?_eq_some_iff.1 hz).1
        simp at this; omega
      subst this
      simp at hz
      rw [updF_same, hz]
  · have hkc : Kc (fun _ t => t = 3) W w' := Kc.of_grown hgrow (fun k hk => by cases hk)
    rcases hown.2 with ⟨_, h0⟩ | ⟨g', cap', cur, hv, hb', hg', hc', hm', hs', ht'⟩
    · omega
    · refine h v' w' [] ⟨g', 0, cap', fun i => (cur[i]?).getD default, by rw [hv, List.length_append]; rfl, Nat.le_trans hb hb', by rw [List.length_append]; exact hc', hm', ⟨cur, hg', by omega, fun i hi => ?_⟩, fun i z hz => ?_⟩ hkc ⟨hgrow.os, hgrow.tape, hgrow.output, hgrow.size, fun k hk _ => hgrow.block k hk (by simp)⟩ (fun i hi => by cases hi)
      · have : i < cur.size := by omega
        simp [this]
      · have hi := (List.getElem?_eq_some_iff.1 hz).1
        rw [List.length_append] at hi
        have h2 : ((l.map fun (x : Nat) => Value.int .i64 x) ++ [.int .i64 (y : Nat)])[i]? = some (.int .i64 (z : Nat)) := by
          rw [show ((l.map fun (x : Nat) => Value.int .i64 x) ++ [Value.int .i64 (y : Nat)]) = (l ++ [y]).map (fun (x : Nat) => Value.int .i64 x) by simp, List.getElem?_map, hz]; rfl
        rw [← ht', List.getElem?_take_of_lt (by simp at hi; omega)] at h2
        rw [Nat.zero_add]
        show (cur[i]?).getD default = _
        rw [← Array.getElem?_toList, h2]; rfl
/-- How many are not found yet. -/
def unP (V : Nat → Bool) (n : Nat) : Nat := (List.range n).countP (fun y => !V y)
theorem unP_le (V : Nat → Bool) (n : Nat) : unP V n ≤ n := Nat.le_trans List.countP_le_length (by simp)
theorem unP_put {V : Nat → Bool} {b : Nat} (hV : V b = false) : ∀ n, unP V n = unP (fun y => y == b || V y) n + (if b < n then 1 else 0)
  | 0 => by simp [unP]
  | n + 1 => by
    have ih := unP_put hV n
    unfold unP at ih ⊢
    rw [List.range_succ, List.countP_append, List.countP_append, ih]
    by_cases hb : b = n
    · subst hb
      simp [hV]
    · have h1 : (n == b) = false := by simpa using fun h => hb h.symm
      by_cases h2 : b < n
      · rw [if_pos h2, if_pos (by omega)]
        simp [h1]; omega
      · rw [if_neg h2, if_neg (by omega)]
        simp [h1]
noncomputable def pcs (m : Nat → Nat → Bool) (a : Nat) (V : Nat → Bool) : Nat → Nat → Bool := fun p y => if p < a then tcB m p y else if p = a then V y else false
theorem pcs_0 (m : Nat → Nat → Bool) : pcs m 0 (fun _ => false) = fun _ _ => false := by funext p y; simp [pcs]
theorem pcs_put (m : Nat → Nat → Bool) (a b : Nat) (V : Nat → Bool) : addP (pcs m a V) a b = pcs m a (fun y => y == b || V y) := by
  funext p y
  unfold addP
  by_cases h : p = a
  · subst h
    rw [updF_same]; simp [pcs]
  · rw [updF_other _ _ h]; simp [pcs, h]
theorem pcs_next {m : Nat → Nat → Bool} {a : Nat} {V : Nat → Bool} (hV : ∀ y, V y = tcB m a y) : pcs m a V = pcs m (a + 1) (fun _ => false) := by
  funext p y
  unfold pcs
  by_cases h : p < a
  · rw [if_pos h, if_pos (by omega)]
  · by_cases h2 : p = a
    · subst h2
      rw [if_neg (by omega), if_pos rfl, if_pos (by omega), hV]
    · rw [if_neg h, if_neg h2, if_neg (by omega)]; simp
theorem pcs_end {m : Nat → Nat → Bool} {n : Nat} (hm : ∀ a b, m a b = true → a < n ∧ b < n) : pcs m n (fun _ => false) = tcB m := by
  funext p y
  unfold pcs
  by_cases h : p < n
  · rw [if_pos h]
  · rw [if_neg h]
    cases ht : tcB m p y
    · simp
    · exact absurd (tcB_in hm _ _ ht).1 h
/-- The search from a: what is found, and the queue. -/
structure BI (m : Nat → Nat → Bool) (a n : Nat) (V : Nat → Bool) (l : List Nat) : Prop where
  sound : ∀ y, V y = true → TG m a y
  qs : ∀ x, x ∈ l → x < n ∧ (x = a ∨ V x = true)
  closed : ∀ y, (y = a ∨ V y = true) → y ∉ l → ∀ z, m y z = true → V z = true
  bound : l.length + unP V n ≤ n + 1
structure BJ (m : Nat → Nat → Bool) (a n : Nat) (V : Nat → Bool) (l : List Nat) (x b K : Nat) : Prop where
  sound : ∀ y, V y = true → TG m a y
  qs : ∀ x, x ∈ l → x < n ∧ (x = a ∨ V x = true)
  xin : x < n ∧ (x = a ∨ V x = true)
  closed : ∀ y, (y = a ∨ V y = true) → y ∉ l → y ≠ x → ∀ z, m y z = true → V z = true
  xs : ∀ z, z < b → m x z = true → V z = true
  bound : l.length + unP V n = K
theorem BI.start {m : Nat → Nat → Bool} {a n : Nat} (ha : a < n) : BI m a n (fun _ => false) [a] :=
  ⟨(fun y h => by cases h), (fun x hx => by rw [List.mem_singleton.1 hx]; exact ⟨ha, .inl rfl⟩), (fun y hy hn => by
    rcases hy with hy | hy
    · exact absurd (by simp [hy]) hn
    · cases hy), (by have := unP_le (fun _ => false) n; simp; omega)⟩
theorem BI.pop {m : Nat → Nat → Bool} {a n x : Nat} {V : Nat → Bool} {l : List Nat} (h : BI m a n V (x :: l)) : BJ m a n V l x 0 (l.length + unP V n) :=
  ⟨h.sound, fun y hy => h.qs y (by simp [hy]), h.qs x (by simp), fun y hy hn hx => h.closed y hy (by simp [hn, hx]), fun z hz => by omega, rfl⟩
theorem BJ.skip {m : Nat → Nat → Bool} {a n x b K : Nat} {V : Nat → Bool} {l : List Nat} (h : BJ m a n V l x b K) (hs : m x b = true → V b = true) : BJ m a n V l x (b + 1) K :=
  ⟨h.sound, h.qs, h.xin, h.closed, fun z hz hm => by
    by_cases hzb : z = b
    · subst hzb; exact hs hm
    · exact h.xs z (by omega) hm, h.bound⟩
theorem BJ.push {m : Nat → Nat → Bool} {a n x b K : Nat} {V : Nat → Bool} {l : List Nat} (h : BJ m a n V l x b K) (hb : b < n) (hm : m x b = true) (hV : V b = false) : BJ m a n (fun y => y == b || V y) (l ++ [b]) x (b + 1) K := by
  have hmo : ∀ y, V y = true → (y == b || V y) = true := fun y hy => by simp [hy]
  refine ⟨fun y hy => ?_, fun y hy => ?_, ⟨h.xin.1, h.xin.2.imp_right (hmo x)⟩, fun y hy hn hx z hz => ?_, fun z hz hmz => ?_, ?_⟩
  · rcases Bool.or_eq_true_iff.1 hy with h1 | h1
    · have : y = b := by simpa using h1
      subst this
      rcases h.xin.2 with rfl | h2
      · exact .one hm
      · exact .snoc (h.sound x h2) hm
    · exact h.sound y h1
  · rcases List.mem_append.1 hy with h1 | h1
    · exact ⟨(h.qs y h1).1, (h.qs y h1).2.imp_right (hmo y)⟩
    · rw [List.mem_singleton.1 h1]; exact ⟨hb, .inr (by simp)⟩
  · have hnl : y ∉ l := fun hc => hn (by simp [hc])
    have hnb : y ≠ b := fun hc => hn (by simp [hc])
    have hy' : y = a ∨ V y = true := hy.imp_right fun h1 => by simpa [hnb] using h1
    exact hmo z (h.closed y hy' hnl hx z hz)
  · by_cases hzb : z = b
    · subst hzb; simp
    · exact hmo z (h.xs z (by omega) hmz)
  · have h1 := unP_put hV n
    rw [if_pos hb] at h1
    have h2 := h.bound
    rw [List.length_append]
    simp only [List.length_cons, List.length_nil]
    omega
theorem BJ.done {m : Nat → Nat → Bool} {a n x K : Nat} {V : Nat → Bool} {l : List Nat} (hm : ∀ a b, m a b = true → a < n ∧ b < n) (h : BJ m a n V l x n K) (hK : K ≤ n + 1) : BI m a n V l :=
  ⟨h.sound, h.qs, fun y hy hn z hz => by
    by_cases hx : y = x
    · subst hx; exact h.xs z (hm _ _ hz).2 hz
    · exact h.closed y hy hn hx z hz, by have := h.bound; omega⟩
theorem BI.fin {m : Nat → Nat → Bool} {a n : Nat} {V : Nat → Bool} (h : BI m a n V []) : ∀ y, V y = tcB m a y := fun y => by
  rw [Bool.eq_iff_iff, tcB_iff]
  refine ⟨h.sound y, fun ht => ?_⟩
  induction ht with
  | one h1 => exact h.closed a (.inl rfl) (by simp) _ h1
  | snoc _ h2 ih => exact h.closed _ (.inr ih) (by simp) _ h2
end Go.Proofs.YthmmmbfjhfocfaaDoor
