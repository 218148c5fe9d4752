/- The reference's relations: May, Add, Has. -/
import Derived.Test.YthmmmbfjhfocfaaDoorRefN14
namespace Go.Proofs.YthmmmbfjhfocfaaDoor
open Go Go.RowKit
set_option linter.unusedVariables false
set_option linter.unusedSimpArgs false

/-- A relation of the reference's: n elements, the pairs m. -/
structure RfC (w : World) (c0 n : Nat) (v : Value) (ρ : Nat → Nat) (m : Nat → Nat → Bool) : Prop where
  hd : Hb w c0 39 2 (refV n v)
  sl : (v = .slice none 0 0 ∧ n = 0) ∨ ∃ c1 cap, v = .slice (some ⟨c1, 0, none⟩) n cap ∧ n ≤ cap ∧ Hb w c1 40 n (rhoV ρ n)
  rows : ∀ j, j < n → Hb w (ρ j) 4 n (bitV (m j))
  inj : ∀ j k, j < n → k < n → ρ j = ρ k → j = k
  n512 : n ≤ 512
  inn : ∀ a b, m a b = true → a < n ∧ b < n
theorem RfN.c {w : World} {c0 n base : Nat} {v : Value} {ρ : Nat → Nat} {m : Nat → Nat → Bool} (h : RfN w c0 n v base n ρ m) (h5 : n ≤ 512) (hi : ∀ a b, m a b = true → a < n ∧ b < n) : RfC w c0 n v ρ m := by
  refine ⟨h.hd, ?_, fun j hj => (h.rows j hj).1, h.inj, h5, hi⟩
  rcases h.row.2 with ⟨hv, hn⟩ | ⟨g, cap, cur, hv, _, hg, hc, _, hs, ht⟩
  · exact .inl ⟨hv, hn⟩
  · refine .inr ⟨g, cap, hv, hc, cur, hg, by omega, fun i hi => ?_⟩
    rw [Nat.mul_one] at ht
    have h1 : (cur.toList.take n)[i]? = some (rhoV ρ n i) := by rw [ht, List.getElem?_map, List.getElem?_range hi]; rfl
    rw [List.getElem?_take_of_lt hi] at h1
    rw [← Array.getElem?_toList]; exact h1
section
variable {w w' : World} {c0 n : Nat} {v : Value} {ρ : Nat → Nat} {m : Nat → Nat → Bool}
theorem RfC.ncell (h : RfC w c0 n v ρ m) : w.cell? ⟨c0, 0, none⟩ = some (.int .i64 n) := h.hd.cell (i := 0) (by omega)
theorem RfC.vcell (h : RfC w c0 n v ρ m) : w.cell? ⟨c0, 1, none⟩ = some v := h.hd.cell (i := 1) (by omega)
theorem RfC.at1 (h : RfC w c0 n v ρ m) (hn : 0 < n) : ∃ c1 cap, v = .slice (some ⟨c1, 0, none⟩) n cap ∧ n ≤ cap ∧ Hb w c1 40 n (rhoV ρ n) := by
  rcases h.sl with ⟨_, h0⟩ | h1
  · omega
  · exact h1
theorem RfC.kc {ok : Nat → TypeId → Prop} (h : RfC w c0 n v ρ m) (hk : Kc ok w w') (h0 : ¬ ok c0 39) (h1 : ∀ k, ¬ ok k 40) (h2 : ∀ k, ¬ ok k 4) : RfC w' c0 n v ρ m :=
  ⟨h.hd.kc hk h0, h.sl.imp_right fun ⟨c1, cap, hv, hc, hb⟩ => ⟨c1, cap, hv, hc, hb.kc hk (h1 _)⟩, fun j hj => (h.rows j hj).kc hk (h2 _), h.inj, h.n512, h.inn⟩
theorem RfC.below (h : RfC w c0 n v ρ m) (hb : Below w.heap.size w w') : RfC w' c0 n v ρ m := h.kc (ok := fun _ _ => False) (Kc.of_below hb) (fun h => h) (fun _ h => h) (fun _ h => h)
/-- Blocks of other types are other blocks. -/
theorem Hb.ty {b b' N N' : Nat} {t t' : TypeId} {f f' : Nat → Value} (h : Hb w b t N f) (h' : Hb w b' t' N' f') (ht : t ≠ t') : b ≠ b' := by
  rintro rfl
  obtain ⟨cs, fz, h1⟩ := h.obj
  obtain ⟨cs', fz', h2⟩ := h'.obj
  rw [h1] at h2; cases h2; exact ht rfl
end
theorem may_ret {w : World} {c0 n : Nat} {v : Value} {ρ : Nat → Nat} {m : Nat → Nat → Bool} (h : RfC w c0 n v ρ m) (e : Int) : Calls Tryd.prog 35 #[.pointer (some ⟨c0, 0, none⟩), .int .i64 e] w fun en w' => en = .returned (.bool (inE n e)) ∧ w' = w := by
  have hc := h.ncell
  clear h
  unfold inE
  by_cases h0 : 0 ≤ e
  · rw [decide_eq_true h0, Bool.true_and]
    go_enter Tryd.func35, Tryd.ntmps35
    go_wp2
    go_ret
    exact ⟨rfl, rfl⟩
  · rw [decide_eq_false h0, Bool.false_and]
    go_enter Tryd.func35, Tryd.ntmps35
    go_wp2
    go_ret
    exact ⟨rfl, rfl⟩
theorem refAddNo_ret {w : World} {c0 n : Nat} {v : Value} {ρ : Nat → Nat} {m : Nat → Nat → Bool} (h : RfC w c0 n v ρ m) (a b : Int) (hn : (inE n a && inE n b) = false) : Calls Tryd.prog 19 #[.pointer (some ⟨c0, 0, none⟩), .int .i64 a, .int .i64 b] w fun en w' => en = .returned (.bool false) ∧ w' = w := by
  have HC := hid (may_ret h a)
  have HC2 := hid (may_ret h b)
  clear h
  cases ha : inE n a
  · rw [ha] at HC
    clear HC2 hn
    go_enter Tryd.func19, Tryd.ntmps19
    go_wp2_with (go_at_call 35; refine HC.out.mono ?_; clear HC; rintro e' w2 ⟨rfl, rfl⟩)
    go_ret
    exact ⟨rfl, rfl⟩
  · rw [ha] at HC hn
    rw [Bool.true_and] at hn
    rw [hn] at HC2
    clear ha hn
    go_enter Tryd.func19, Tryd.ntmps19
    go_wp2_with (first | (go_at_call 35; refine HC.out.mono ?_; clear HC; rintro e' w2 ⟨rfl, rfl⟩) | (go_at_call 35; refine HC2.out.mono ?_; clear HC2; rintro e' w2 ⟨rfl, rfl⟩))
    go_ret
    exact ⟨rfl, rfl⟩
theorem bitV_set (f : Nat → Bool) (b : Nat) : updF (bitV f) b (.bool true) = bitV (fun x => x == b || f x) := by
  funext x
  unfold bitV updF
  by_cases hx : x = b
  · subst hx; simp
  · rw [if_neg hx]
    show Value.bool (f x) = Value.bool (x == b || f x)
    rw [show (x == b) = false by simpa using hx]; rfl
theorem RfC.put {w : World} {c0 n a b : Nat} {v : Value} {ρ : Nat → Nat} {m : Nat → Nat → Bool} (h : RfC w c0 n v ρ m) (ha : a < n) (hb : b < n) : RfC (w.setCell ⟨ρ a, b, none⟩ (.bool true)) c0 n v ρ (addP m a b) := by
  have hra := h.rows a ha
  refine ⟨h.hd.other (hra.ty h.hd (by decide)).symm _, h.sl.imp_right fun ⟨c1, cap, hv, hc, hb'⟩ => ⟨c1, cap, hv, hc, hb'.other (hra.ty hb' (by decide)).symm _⟩, fun j hj => ?_, h.inj, h.n512, fun x y hxy => ?_⟩
  · unfold addP
    by_cases hja : j = a
    · subst hja
      rw [updF_same, ← bitV_set]
      exact hra.set _
    · rw [updF_other _ _ hja]
      exact (h.rows j hj).other (fun hc => hja (h.inj j a hj ha hc)) _
  · unfold addP at hxy
    by_cases hx : x = a
    · subst hx
      rw [updF_same] at hxy
      rcases Bool.or_eq_true_iff.1 hxy with h1 | h1
      · have : y = b := by simpa using h1
        omega
      · exact h.inn _ _ h1
    · rw [updF_other _ _ hx] at hxy; exact h.inn _ _ hxy
theorem refAddYes_ret {w : World} {c0 n a b : Nat} {v : Value} {ρ : Nat → Nat} {m : Nat → Nat → Bool} (h : RfC w c0 n v ρ m) (ha : a < n) (hb : b < n) : Calls Tryd.prog 19 #[.pointer (some ⟨c0, 0, none⟩), .int .i64 a, .int .i64 b] w fun en w' => en = .returned (.bool true) ∧ w' = w.setCell ⟨ρ a, b, none⟩ (.bool true) := by
  have e1 : inE n (a : Int) = true := inE_iff.2 ⟨by omega, by omega⟩
  have e2 : inE n (b : Int) = true := inE_iff.2 ⟨by omega, by omega⟩
  have HC := hid (may_ret h (a : Int))
  have HC2 := hid (may_ret h (b : Int))
  rw [e1] at HC
  rw [e2] at HC2
  have h5 := h.n512
  have cv := h.vcell
  obtain ⟨c1, cap, rfl, hcap, h1⟩ := h.at1 (by omega)
  have cr : w.cell? ⟨c1, a, none⟩ = some (.slice (some ⟨ρ a, 0, none⟩) n n) := h1.cell ha
  have cb := (h.rows a ha).cell hb
  have fb := (h.rows a ha).free b
  clear h h1 e1 e2
  go_enter Tryd.func19, Tryd.ntmps19
  go_wp2_with (first | (go_at_call 35; refine HC.out.mono ?_; clear HC; rintro e' w2 ⟨rfl, rfl⟩) | (go_at_call 35; refine HC2.out.mono ?_; clear HC2; rintro e' w2 ⟨rfl, rfl⟩))
  go_ret
  exact ⟨rfl, rfl⟩
theorem refHas_ret {w : World} {c0 n : Nat} {v : Value} {ρ : Nat → Nat} {m : Nat → Nat → Bool} (h : RfC w c0 n v ρ m) (a b : Int) : Calls Tryd.prog 17 #[.pointer (some ⟨c0, 0, none⟩), .int .i64 a, .int .i64 b] w fun en w' => en = .returned (.bool (hasZ n m a b)) ∧ w' = w := by
  have HC := hid (may_ret h a)
  have HC2 := hid (may_ret h b)
  unfold hasZ
  cases ha : inE n a
  · rw [ha] at HC
    clear HC2 h
    go_enter Tryd.func17, Tryd.ntmps17
    go_wp2_with (go_at_call 35; refine HC.out.mono ?_; clear HC; rintro e' w2 ⟨rfl, rfl⟩)
    go_ret
    exact ⟨rfl, rfl⟩
  · rw [ha] at HC
    cases hb : inE n b
    · rw [hb] at HC2
      clear h
      go_enter Tryd.func17, Tryd.ntmps17
      go_wp2_with (first | (go_at_call 35; refine HC.out.mono ?_; clear HC; rintro e' w2 ⟨rfl, rfl⟩) | (go_at_call 35; refine HC2.out.mono ?_; clear HC2; rintro e' w2 ⟨rfl, rfl⟩))
      go_ret
      exact ⟨rfl, rfl⟩
    · rw [hb] at HC2
      obtain ⟨a0, a1⟩ := inE_iff.1 ha
      obtain ⟨b0', b1'⟩ := inE_iff.1 hb
      obtain ⟨a, rfl⟩ := Int.eq_ofNat_of_zero_le a0
      obtain ⟨b, rfl⟩ := Int.eq_ofNat_of_zero_le b0'
      have h5 := h.n512
      have cv := h.vcell
      obtain ⟨c1, cap, rfl, hcap, h1⟩ := h.at1 (by omega)
      have cr : w.cell? ⟨c1, a, none⟩ = some (.slice (some ⟨ρ a, 0, none⟩) n n) := h1.cell (by omega)
      have cb : w.cell? ⟨ρ a, b, none⟩ = some (.bool (m a b)) := (h.rows a (by omega)).cell (i := b) (by omega)
      clear h h1 ha hb
      go_enter Tryd.func17, Tryd.ntmps17
      go_wp2_with (first | (go_at_call 35; refine HC.out.mono ?_; clear HC; rintro e' w2 ⟨rfl, rfl⟩) | (go_at_call 35; refine HC2.out.mono ?_; clear HC2; rintro e' w2 ⟨rfl, rfl⟩))
      go_ret
      exact ⟨rfl, rfl⟩
end Go.Proofs.YthmmmbfjhfocfaaDoor
