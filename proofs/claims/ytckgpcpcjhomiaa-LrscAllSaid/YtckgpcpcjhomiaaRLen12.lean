/- Layer 12: the reference: Length, All. -/
import Derived.Test.YtckgpcpcjhomiaaRef12
namespace Go.Proofs.Ytckgpcpcjhomiaa
open Go.RowKit Sim S2
set_option linter.unusedVariables false
set_option linter.unusedSimpArgs false
noncomputable def enN (gl : Gl) (n : Nat) (f : Nat → In) : S2.Env := envk Try.prog gl true tabR noP (lLoop n f)
theorem enN_ok (gl : Gl) (n : Nat) (f : Nat → In) : CallOk (enN gl n f) := envk_ok (nw := true) tabR_ok (.none _ _) (lLoop_ok n f)
def roP : List Nat := [0, 1, 0, 1, 1]
def riP : List Nat := [0, 1, 0, 0, 1]
noncomputable def roC : Code := codeAt (codeOf Try.prog 8) (0 :: roP)
noncomputable def riC : Code := codeAt (codeOf Try.prog 8) (0 :: (riP ++ (0 :: roP)))
def roS (n : Nat) (f : Nat → In) (p e : Nat) : S2.St := { tmps := [(0, .c 0), (1, .inl ([true], .int .i64 p)), (5, .inl ([true], .int .i64 e))], own := ⟨[], [insE n f]⟩, lo := 0, llo := 0, mem := true, orc := [], obl := [] }
def riS (n : Nat) (f : Nat → In) (p e c : Nat) : S2.St := { tmps := [(0, .c 0), (1, .inl ([true], .int .i64 p)), (5, .inl ([true], .int .i64 e)), (6, .inl ([true], .int .i64 c))], own := ⟨[], [insE n f]⟩, lo := 0, llo := 0, mem := true, orc := [], obl := [] }
def roQ : Pick := { ts := [0, 1, 5], bs := [], ls := [0], opn := [1, 5] }
def riQ : Pick := { ts := [0, 1, 5, 6], bs := [], ls := [0], opn := [1, 5, 6] }
def rlZ : Pick := { ts := [4], bs := [], ls := [], opn := [4] }
def rlF (v : Int) : S2.St := { tmps := [(4, .inl ([true], .int .i64 v))], own := ⟨[], []⟩, lo := 0, llo := 0, mem := true, orc := [], obl := [] }
noncomputable def inN (f : Nat → In) (p e : Nat) : Nat := skipN (fun c => !loopZ f p c e) (e - (p + 1)) (p + 1)
/-- No store of a loop that ends at e. -/
noncomputable def roB (f : Nat → In) (p e : Nat) : Bool := Nat.beq (inN f p e) e
def hiN (n p : Nat) : Nat := if p + 16 ≤ n then p + 16 else n
noncomputable def roN (n : Nat) (f : Nat → In) (p : Nat) : Nat := skipN (roB f p) (hiN n p - (p + 2)) (p + 2)
theorem refE_ex : ∃ h : Nat → (Nat → In) → Int → Int, ∀ n f p, h n f p = if 0 ≤ p ∧ p < (n : Int) ∧ resI (f p.toNat) = true then (if roN n f p.toNat < hiN n p.toNat then (roN n f p.toNat : Int) - p + 1 else 0) else 0 := ⟨_, fun _ _ _ => rfl⟩
/-- What the reference's Length answers. -/
noncomputable def refE : Nat → (Nat → In) → Int → Int := Classical.choose refE_ex
theorem refE_eq (n : Nat) (f : Nat → In) (p : Int) : refE n f p = if 0 ≤ p ∧ p < (n : Int) ∧ resI (f p.toNat) = true then (if roN n f p.toNat < hiN n p.toNat then (roN n f p.toNat : Int) - p + 1 else 0) else 0 := Classical.choose_spec refE_ex n f p
theorem ri_step (gl : Gl) (n : Nat) (f : Nat → In) (p e c : Nat) (hn : n ≤ 1000000000000) (hp : p ≤ e) (he : e < n) (hc : c < e) (h : (!loopZ f p c e) = true) (w : World) (hG : GlobOk gl w) : S2.Sem (enN gl n f) w 53 riC (riS n f p e c) none (riS n f p e (c + 1)) := by
  refine sem_iter (enN_ok gl n f) hG (p := riQ) (fuel := 1000) [true, false] [(pre (inI ((c : Int) + 1)), true), (loopZ f p c e, false), (pre (propB (isIn (insE n f) n f ∧ 0 ≤ (p : Int) ∧ 0 ≤ (c : Int) ∧ (p : Int) ≤ (e : Int) ∧ (e : Int) < (n : Int))), true), (decide ((c : Int) < (e : Int)), true)] (by kernel_rfl) (by kernel_rfl) ?_
  exact all_cons (ob_inI (by omega)) <| all_cons (by simpa using h) <| all_cons (propB_ok.mpr ⟨isIn_self n f hn, by omega, by omega, by omega, by omega⟩) <| all_cons (ob_yes (by omega)) all_nil
theorem ri_out (gl : Gl) (n : Nat) (f : Nat → In) (p e c : Nat) (hn : n ≤ 1000000000000) (hp : p ≤ e) (he : e < n) (hc : c < e) (h : (!loopZ f p c e) = false) (w : World) (hG : GlobOk gl w) : S2.Sem (enN gl n f) w 53 riC (riS n f p e c) (some none) (rlF ((e : Int) - p + 1)) := by
  refine sem_iter (enN_ok gl n f) hG (p := rlZ) (fuel := 1000) [true, true] [(pre (inI ((e : Int) - p + 1)), true), (pre (inI ((e : Int) - p)), true), (loopZ f p c e, true), (pre (propB (isIn (insE n f) n f ∧ 0 ≤ (p : Int) ∧ 0 ≤ (c : Int) ∧ (p : Int) ≤ (e : Int) ∧ (e : Int) < (n : Int))), true), (decide ((c : Int) < (e : Int)), true)] (by kernel_rfl) (by kernel_rfl) ?_
  exact all_cons (ob_inI (by omega)) <| all_cons (ob_inI (by omega)) <| all_cons (by simpa using h) <| all_cons (propB_ok.mpr ⟨isIn_self n f hn, by omega, by omega, by omega, by omega⟩) <| all_cons (ob_yes (by omega)) all_nil
theorem ri_end (gl : Gl) (n : Nat) (f : Nat → In) (p e : Nat) (w : World) (hG : GlobOk gl w) : S2.Sem (enN gl n f) w 53 riC (riS n f p e e) (some (some 2)) (riS n f p e e) := by
  refine sem_iter (enN_ok gl n f) hG (p := riQ) (fuel := 1000) [false] [(decide ((e : Int) < (e : Int)), false)] (by kernel_rfl) (by kernel_rfl) ?_
  exact all_cons (ob_no (by omega)) all_nil
theorem ri_no (gl : Gl) (n : Nat) (f : Nat → In) (p e : Nat) (hn : n ≤ 1000000000000) (hp : p + 1 ≤ e) (he : e < n) (h : roB f p e = true) (w : World) (hG : GlobOk gl w) : S2.Sem (enN gl n f) w 53 (.loop riC) (riS n f p e (p + 1)) (some (some 2)) (riS n f p e e) := by
  have hs : inN f p e = e := Nat.eq_of_beq_eq_true h
  have h3 := skipN_all (fun c => !loopZ f p c e) (e - (p + 1)) (p + 1)
  have hl := sem_loop (E := enN gl n f) (w0 := base0 w) (nb := 0) (nl := 0) (n := 53) (c := riC) (x := some (some 2)) (s' := riS n f p e e) (fun j => riS n f p e (p + 1 + j)) (e - (p + 1)) (by simp) (fun j hj => ri_step gl n f p e (p + 1 + j) hn (by omega) he (by omega) (h3 (p + 1 + j) (by omega) (by show _ < inN f p e; omega)) w hG) (by show S2.Sem (enN gl n f) w 53 riC (riS n f p e (p + 1 + (e - (p + 1)))) _ _; rw [Nat.add_sub_cancel' hp]; exact ri_end gl n f p e w hG)
  exact hl
theorem ri_yes (gl : Gl) (n : Nat) (f : Nat → In) (p e : Nat) (hn : n ≤ 1000000000000) (hp : p + 1 ≤ e) (he : e < n) (h : roB f p e = false) (w : World) (hG : GlobOk gl w) : S2.Sem (enN gl n f) w 53 (.loop riC) (riS n f p e (p + 1)) (some none) (rlF ((e : Int) - p + 1)) := by
  have h1 : p + 1 ≤ inN f p e := skipN_ge (fun c => !loopZ f p c e) (e - (p + 1)) (p + 1)
  have h2 : inN f p e ≤ p + 1 + (e - (p + 1)) := skipN_le (fun c => !loopZ f p c e) (e - (p + 1)) (p + 1)
  have h3 := skipN_all (fun c => !loopZ f p c e) (e - (p + 1)) (p + 1)
  have hne : inN f p e ≠ e := fun hs => by unfold roB at h; rw [hs, Nat.beq_refl] at h; cases h
  have hf : (!loopZ f p (inN f p e) e) = false := by
    cases ho : (!loopZ f p (inN f p e) e)
    · rfl
    · have h4 : inN f p e = p + 1 + (e - (p + 1)) := skipN_fin (fun c => !loopZ f p c e) (e - (p + 1)) (p + 1) ho
      omega
  have hl := sem_loop (E := enN gl n f) (w0 := base0 w) (nb := 0) (nl := 0) (n := 53) (c := riC) (x := some none) (s' := rlF ((e : Int) - p + 1)) (fun j => riS n f p e (p + 1 + j)) (inN f p e - (p + 1)) (by simp) (fun j hj => ri_step gl n f p e (p + 1 + j) hn (by omega) he (by omega) (h3 (p + 1 + j) (by omega) (by show _ < inN f p e; omega)) w hG) (by show S2.Sem (enN gl n f) w 53 riC (riS n f p e (p + 1 + (inN f p e - (p + 1)))) _ _; rw [Nat.add_sub_cancel' h1]; exact ri_out gl n f p e (inN f p e) hn (by omega) he (by omega) hf w hG)
  exact hl
theorem hiN_eq {n p : Nat} : hiN n p ≤ p + 16 ∧ hiN n p ≤ n ∧ (hiN n p = p + 16 ∨ hiN n p = n) := by unfold hiN; split <;> omega
theorem ro_step (gl : Gl) (n : Nat) (f : Nat → In) (p e : Nat) (hn : n ≤ 1000000000000) (hp : p + 2 ≤ e) (he : e < hiN n p) (h : roB f p e = true) (w : World) (hG : GlobOk gl w) : S2.Sem (enN gl n f) w 53 roC (roS n f p e) none (roS n f p (e + 1)) := by
  have hh := @hiN_eq n p
  refine sem_iterP (enN_ok gl n f) hG (fuel := 1000) (d := 30) (p := roQ) [⟨riP, riQ, some (some 2), riS n f p e e⟩] [true, true] [(pre (inI ((e : Int) + 1)), true), (pre (inI ((p : Int) + 1)), true), (decide ((e : Int) < (n : Int)), true), (decide ((e : Int) < (p : Int) + 16), true), (pre (inI ((p : Int) + 16)), true)] [⟨.loop riC, riS n f p e (p + 1), some (some 2), riS n f p e e⟩] (by kernel_rfl) (by kernel_rfl) ?_ (fun t ht => by obtain rfl := List.mem_singleton.mp ht; exact ri_no gl n f p e hn (by omega) (by omega) h w hG)
  exact all_cons (ob_inI (by omega)) <| all_cons (ob_inI (by omega)) <| all_cons (ob_yes (by omega)) <| all_cons (ob_yes (by omega)) <| all_cons (ob_inI (by omega)) all_nil
theorem ro_out (gl : Gl) (n : Nat) (f : Nat → In) (p e : Nat) (hn : n ≤ 1000000000000) (hp : p + 2 ≤ e) (he : e < hiN n p) (h : roB f p e = false) (w : World) (hG : GlobOk gl w) : S2.Sem (enN gl n f) w 53 roC (roS n f p e) (some none) (rlF ((e : Int) - p + 1)) := by
  have hh := @hiN_eq n p
  refine sem_iterP (enN_ok gl n f) hG (fuel := 1000) (d := 30) (p := rlZ) [⟨riP, riQ, some none, rlF ((e : Int) - p + 1)⟩] [true, true] [(pre (inI ((p : Int) + 1)), true), (decide ((e : Int) < (n : Int)), true), (decide ((e : Int) < (p : Int) + 16), true), (pre (inI ((p : Int) + 16)), true)] [⟨.loop riC, riS n f p e (p + 1), some none, rlF ((e : Int) - p + 1)⟩] (by kernel_rfl) (by kernel_rfl) ?_ (fun t ht => by obtain rfl := List.mem_singleton.mp ht; exact ri_yes gl n f p e hn (by omega) (by omega) h w hG)
  exact all_cons (ob_inI (by omega)) <| all_cons (ob_yes (by omega)) <| all_cons (ob_yes (by omega)) <| all_cons (ob_inI (by omega)) all_nil
theorem ro_end (gl : Gl) (n : Nat) (f : Nat → In) (p e : Nat) (hn : n ≤ 1000000000000) (hp : p < n) (he : hiN n p ≤ e) (w : World) (hG : GlobOk gl w) : S2.Sem (enN gl n f) w 53 roC (roS n f p e) (some (some 0)) (roS n f p e) := by
  have hh := @hiN_eq n p
  by_cases h : e < p + 16
  · refine sem_iter (enN_ok gl n f) hG (p := roQ) (fuel := 1000) [true, false] [(decide ((e : Int) < (n : Int)), false), (decide ((e : Int) < (p : Int) + 16), true), (pre (inI ((p : Int) + 16)), true)] (by kernel_rfl) (by kernel_rfl) ?_
    exact all_cons (ob_no (by omega)) <| all_cons (ob_yes (by omega)) <| all_cons (ob_inI (by omega)) all_nil
  · refine sem_iter (enN_ok gl n f) hG (p := roQ) (fuel := 1000) [false] [(decide ((e : Int) < (p : Int) + 16), false), (pre (inI ((p : Int) + 16)), true)] (by kernel_rfl) (by kernel_rfl) ?_
    exact all_cons (ob_no (by omega)) <| all_cons (ob_inI (by omega)) all_nil
theorem refLength_in {gl : Gl} (n : Nat) (f : Nat → In) (p : Nat) (hn : n ≤ 1000000000000) (hp : p < n) (hr : resI (f p) = true) (w : World) (vals : List Value) (hG : GlobOk gl w) (ha : ArgsOk w [.inr (insE n f), .inl (.int .i64 p)] vals) :
    LRet Try.prog 8 vals false [.inl (.int .i64 (if roN n f p < hiN n p then (roN n f p : Int) - p + 1 else 0))] w := by
  have h1 : p + 2 ≤ roN n f p := skipN_ge (roB f p) (hiN n p - (p + 2)) (p + 2)
  have h2 : roN n f p ≤ p + 2 + (hiN n p - (p + 2)) := skipN_le (roB f p) (hiN n p - (p + 2)) (p + 2)
  have h3 := skipN_all (roB f p) (hiN n p - (p + 2)) (p + 2)
  by_cases h : roN n f p < hiN n p
  · rw [if_pos h]
    have hf : roB f p (roN n f p) = false := by
      cases ho : roB f p (roN n f p)
      · rfl
      · have h4 : roN n f p = p + 2 + (hiN n p - (p + 2)) := skipN_fin (roB f p) (hiN n p - (p + 2)) (p + 2) ho
        omega
    have hl := sem_loop (E := enN gl n f) (w0 := base0 w) (nb := 0) (nl := 0) (n := 53) (c := roC) (x := some none) (s' := rlF ((roN n f p : Int) - p + 1)) (fun j => roS n f p (p + 2 + j)) (roN n f p - (p + 2)) (by simp) (fun j hj => ro_step gl n f p (p + 2 + j) hn (by omega) (by omega) (h3 (p + 2 + j) (by omega) (by show _ < roN n f p; omega)) w hG) (by show S2.Sem (enN gl n f) w 53 roC (roS n f p (p + 2 + (roN n f p - (p + 2)))) _ _; rw [Nat.add_sub_cancel' h1]; exact ro_out gl n f p (roN n f p) hn h1 h hf w hG)
    refine fn_ok (enN_ok gl n f) (fuel := 1000) (d := 30) (plan := [⟨roP, roQ, some none, rlF ((roN n f p : Int) - p + 1)⟩]) (orc := [false, false, false]) (fls := [[], [true]]) (l := [(pre (inI ((p : Int) + 2)), true), (!resI (f (p : Int).toNat), false), (pre (decide ((p : Int).toNat < n)), true), (pre (idxB (p : Int) n), true), (decide ((p : Int) ≥ (n : Int)), false), (decide ((p : Int) < 0), false)]) (tr := [⟨.loop roC, roS n f p (p + 2), some none, rlF ((roN n f p : Int) - p + 1)⟩]) (by kernel_rfl) ?_ Try.func8 w vals hG ha fun t ht => ?_
    · simp only [Int.toNat_natCast]
      exact all_cons (ob_inI (by omega)) <| all_cons (by rw [hr]; rfl) <| all_cons (ob_lt (by omega)) <| all_cons (ob_idx (by omega)) <| all_cons (ob_no (by omega)) <| all_cons (ob_no (by omega)) all_nil
    · obtain rfl := List.mem_singleton.mp ht
      exact hl
  · rw [if_neg h]
    have hl := sem_loop (E := enN gl n f) (w0 := base0 w) (nb := 0) (nl := 0) (n := 53) (c := roC) (x := some (some 0)) (s' := roS n f p (roN n f p)) (fun j => roS n f p (p + 2 + j)) (roN n f p - (p + 2)) (by simp) (fun j hj => ro_step gl n f p (p + 2 + j) hn (by omega) (by omega) (h3 (p + 2 + j) (by omega) (by show _ < roN n f p; omega)) w hG) (by show S2.Sem (enN gl n f) w 53 roC (roS n f p (p + 2 + (roN n f p - (p + 2)))) _ _; rw [Nat.add_sub_cancel' h1]; exact ro_end gl n f p (roN n f p) hn hp (by omega) w hG)
    refine fn_ok (enN_ok gl n f) (fuel := 1000) (d := 30) (plan := [⟨roP, roQ, some (some 0), roS n f p (roN n f p)⟩]) (orc := [false, false, false]) (fls := [[], [true]]) (l := [(pre (inI ((p : Int) + 2)), true), (!resI (f (p : Int).toNat), false), (pre (decide ((p : Int).toNat < n)), true), (pre (idxB (p : Int) n), true), (decide ((p : Int) ≥ (n : Int)), false), (decide ((p : Int) < 0), false)]) (tr := [⟨.loop roC, roS n f p (p + 2), some (some 0), roS n f p (roN n f p)⟩]) (by kernel_rfl) ?_ Try.func8 w vals hG ha fun t ht => ?_
    · simp only [Int.toNat_natCast]
      exact all_cons (ob_inI (by omega)) <| all_cons (by rw [hr]; rfl) <| all_cons (ob_lt (by omega)) <| all_cons (ob_idx (by omega)) <| all_cons (ob_no (by omega)) <| all_cons (ob_no (by omega)) all_nil
    · obtain rfl := List.mem_singleton.mp ht
      exact hl
theorem refLength_ret {gl : Gl} (n : Nat) (f : Nat → In) (p : Int) (hn : n ≤ 1000000000000) (w : World) (vals : List Value) (hG : GlobOk gl w) (ha : ArgsOk w [.inr (insE n f), .inl (.int .i64 p)] vals) :
    LRet Try.prog 8 vals false [.inl (.int .i64 (refE n f p))] w := by
  rw [refE_eq]
  by_cases h0 : p < 0
  · rw [if_neg (by omega)]
    refine fn_ok (enN_ok gl n f) (fuel := 1000) (d := 30) (plan := []) (orc := [true]) (fls := [[], [true]]) (l := [(decide (p < 0), true)]) (tr := []) (by kernel_rfl) ?_ Try.func8 w vals hG ha (fun t ht => by cases ht)
    exact all_cons (ob_yes h0) all_nil
  · by_cases h1 : p < (n : Int)
    · obtain ⟨p, rfl⟩ := Int.eq_ofNat_of_zero_le (show 0 ≤ p by omega)
      simp only [Int.toNat_natCast]
      cases hr : resI (f p)
      · rw [if_neg (fun h => by cases h.2.2)]
        refine fn_ok (enN_ok gl n f) (fuel := 1000) (d := 30) (plan := []) (orc := [false, false, true]) (fls := [[], [true]]) (l := [(!resI (f (p : Int).toNat), true), (pre (decide ((p : Int).toNat < n)), true), (pre (idxB (p : Int) n), true), (decide ((p : Int) ≥ (n : Int)), false), (decide ((p : Int) < 0), false)]) (tr := []) (by kernel_rfl) ?_ Try.func8 w vals hG ha (fun t ht => by cases ht)
        simp only [Int.toNat_natCast]
        exact all_cons (by rw [hr]; rfl) <| all_cons (ob_lt (by omega)) <| all_cons (ob_idx (by omega)) <| all_cons (ob_no (by omega)) <| all_cons (ob_no (by omega)) all_nil
      · rw [if_pos ⟨by omega, by omega, rfl⟩]
        exact refLength_in n f p hn (by omega) hr w vals hG ha
    · rw [if_neg (by omega)]
      refine fn_ok (enN_ok gl n f) (fuel := 1000) (d := 30) (plan := []) (orc := [false, true]) (fls := [[], [true]]) (l := [(decide (p ≥ (n : Int)), true), (decide (p < 0), false)]) (tr := []) (by kernel_rfl) ?_ Try.func8 w vals hG ha (fun t ht => by cases ht)
      exact all_cons (ob_yes (by omega)) <| all_cons (ob_no h0) all_nil
noncomputable def lRefLen (n : Nat) (f : Nat → In) : LTab := lrow 8 fun args => match args with
  | [.inr e, .inl (.int .i64 p)] => some (false, [.inl (.int .i64 (refE n f p))], pre (propB (isIn e n f)))
  | _ => none
theorem lRefLen_ok {gl : Gl} (n : Nat) (f : Nat → In) : LTabOk Try.prog gl (lRefLen n f) := .row fun args tup res h w vals hG ha => by
  split at h
  · rename_i e p
    simp only [Option.some.injEq, Prod.mk.injEq] at h
    obtain ⟨rfl, rfl, hp⟩ := h
    have he := propB_ok.mp hp
    match vals, ha with
    | [u, v], ha => exact refLength_ret n f p he.2.2.2 w [u, v] hG ⟨InB.ins ha.1 he, ha.2⟩
    | [], ha => exact ha.elim
    | [_], ha => exact ha.2.elim
    | _ :: _ :: _ :: _, ha => exact ha.2.2.elim
  · cases h
end Go.Proofs.Ytckgpcpcjhomiaa
