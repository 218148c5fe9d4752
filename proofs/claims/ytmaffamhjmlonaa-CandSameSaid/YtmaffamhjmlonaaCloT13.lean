/- Layer 13: slices.Clone's rows over what the heap's blocks hold. -/
import Derived.Test.YtmaffamhjmlonaaClo13
set_option linter.unusedVariables false
set_option linter.unusedSimpArgs false
namespace Go.Proofs.Ytmaffamhjmlonaa
open Go Go.RowKit Sim S2
def fitV (gl : Gl) (v : Value) (e : LE) (m : Nat) : Prop := rowG gl v e /\ e.n * m <= 140737488355328 /\ (adrV v = none -> v = .slice none 0 0)
theorem nil_own {B : Nat} {w : World} {e : LE} (h1 : 0 < e.size) (h2 : e.n = 0) : OwnB B w e (.slice none 0 0) :=
 ⟨⟨h1, fun j hj => absurd hj (by omega)⟩, by simp [LE.flat, h2], .inl ⟨rfl, h2⟩⟩
theorem ch_nil (w : World) : Ret Try.prog 37 #[.slice none 0 0] (.slice none 0 0) w := by
 refine LRet.plain (?_ : LRet Try.prog 37 [.slice none 0 0] false [.inl (.slice none 0 0)] w)
 exact fn_ok (enCl_ok []) (fuel := 1000) (d := 30) (plan := []) (orc := []) (fls := [[]]) (args := [.inl (.slice none 0 0)]) (l := []) (tr := []) (by kernel_rfl) qZ Try.func37 w _ (GlobOk.none w) ⟨rfl, trivial⟩ fun t ht => by cases ht
noncomputable def chE (gl : Gl) (v : Value) (n : Nat) : LE := chL n (fun j => [slG gl v 1 0 j]) true
theorem ch_ret {gl : Gl} (a : Option Addr) (n c : Nat) (hf : fitV gl (.slice a n c) (hsE gl (.slice a n c)) 24) (w : World) (hG : GlobOk gl w) (vals : List Value) (ha : ArgsOk w [.inl (.slice a n c)] vals) : LRet Try.prog 37 vals false [.inr (chE gl (.slice a n c) n)] w := by
 obtain ⟨h1, h2, h3⟩ := hf
 have hv : vals = [.slice a n c] := by
   match vals, ha with
   | [v], ha => rw [show v = _ from ha.1]
 subst hv
 cases a with
 | none =>
   have h4 : Value.slice none n c = .slice none 0 0 := h3 rfl
   simp only [Value.slice.injEq] at h4
   obtain ⟨_, rfl, rfl⟩ := h4
   exact (ch_nil w).mono fun e w2 ⟨he, hb⟩ => ⟨[.slice none 0 0], he, outOk_one (nil_own (by show 0 < 1; decide) rfl), hb⟩
 | some x =>
   have hv : InB w.heap.size w (chL n (fun j => (hsE gl (.slice (some x) n c)).el j) false) (.slice (some x) n c) := rowG_row hG h1
   exact (ch_calls x n c _ w hv h2).mono fun e w2 ⟨u, he, hb, ho⟩ => ⟨[u], he, outOk_one ho, hb⟩
noncomputable def lch (gl : Gl) : LTab := lrow 37 fun args => match args with
 | [.inl (.slice a n c)] => some (false, [.inr (chE gl (.slice a n c) n)], pre (propB (fitV gl (.slice a n c) (hsE gl (.slice a n c)) 24)))
 | _ => none
theorem lch_ok {gl : Gl} : LTabOk Try.prog gl (lch gl) := .row fun args tup res h w vals hG ha => by
 split at h
 . simp only [qS, qP] at h
   obtain ⟨rfl, rfl, hp⟩ := h
   exact ch_ret _ _ _ (propB_ok.mp hp) w hG vals ha
 . cases h
theorem cw_nil (w : World) : Ret Try.prog 38 #[.slice none 0 0] (.slice none 0 0) w := by
 refine LRet.plain (?_ : LRet Try.prog 38 [.slice none 0 0] false [.inl (.slice none 0 0)] w)
 exact fn_ok (enCl_ok []) (fuel := 1000) (d := 30) (plan := []) (orc := []) (fls := [[]]) (args := [.inl (.slice none 0 0)]) (l := []) (tr := []) (by kernel_rfl) qZ Try.func38 w _ (GlobOk.none w) ⟨rfl, trivial⟩ fun t ht => by cases ht
noncomputable def cwE (gl : Gl) (v : Value) (n : Nat) : LE := cwL n (fun j => [.int .i64 (raG gl v j), slG gl v 2 1 j]) true
theorem cw_ret {gl : Gl} (a : Option Addr) (n c : Nat) (hf : fitV gl (.slice a n c) (rwE gl (.slice a n c)) 32) (w : World) (hG : GlobOk gl w) (vals : List Value) (ha : ArgsOk w [.inl (.slice a n c)] vals) : LRet Try.prog 38 vals false [.inr (cwE gl (.slice a n c) n)] w := by
 obtain ⟨h1, h2, h3⟩ := hf
 have hv : vals = [.slice a n c] := by
   match vals, ha with
   | [v], ha => rw [show v = _ from ha.1]
 subst hv
 cases a with
 | none =>
   have h4 : Value.slice none n c = .slice none 0 0 := h3 rfl
   simp only [Value.slice.injEq] at h4
   obtain ⟨_, rfl, rfl⟩ := h4
   exact (cw_nil w).mono fun e w2 ⟨he, hb⟩ => ⟨[.slice none 0 0], he, outOk_one (nil_own (by show 0 < 2; decide) rfl), hb⟩
 | some x =>
   have hv : InB w.heap.size w (cwL n (fun j => (rwE gl (.slice (some x) n c)).el j) false) (.slice (some x) n c) := rowG_row hG h1
   exact (cw_calls x n c _ w hv h2).mono fun e w2 ⟨u, he, hb, ho⟩ => ⟨[u], he, outOk_one ho, hb⟩
noncomputable def lcw (gl : Gl) : LTab := lrow 38 fun args => match args with
 | [.inl (.slice a n c)] => some (false, [.inr (cwE gl (.slice a n c) n)], pre (propB (fitV gl (.slice a n c) (rwE gl (.slice a n c)) 32)))
 | _ => none
theorem lcw_ok {gl : Gl} : LTabOk Try.prog gl (lcw gl) := .row fun args tup res h w vals hG ha => by
 split at h
 . simp only [qS, qP] at h
   obtain ⟨rfl, rfl, hp⟩ := h
   exact cw_ret _ _ _ (propB_ok.mp hp) w hG vals ha
 . cases h
theorem cr_nil (w : World) : Ret Try.prog 39 #[.slice none 0 0] (.slice none 0 0) w := by
 refine LRet.plain (?_ : LRet Try.prog 39 [.slice none 0 0] false [.inl (.slice none 0 0)] w)
 exact fn_ok (enCl_ok []) (fuel := 1000) (d := 30) (plan := []) (orc := []) (fls := [[]]) (args := [.inl (.slice none 0 0)]) (l := []) (tr := []) (by kernel_rfl) qZ Try.func39 w _ (GlobOk.none w) ⟨rfl, trivial⟩ fun t ht => by cases ht
noncomputable def crE (gl : Gl) (v : Value) (n : Nat) : LE := crL n (fun j => rcC (rcG gl v j)) true
theorem cr_ret {gl : Gl} (a : Option Addr) (n c : Nat) (hf : fitV gl (.slice a n c) (rcE gl (.slice a n c)) 40) (w : World) (hG : GlobOk gl w) (vals : List Value) (ha : ArgsOk w [.inl (.slice a n c)] vals) : LRet Try.prog 39 vals false [.inr (crE gl (.slice a n c) n)] w := by
 obtain ⟨h1, h2, h3⟩ := hf
 have hv : vals = [.slice a n c] := by
   match vals, ha with
   | [v], ha => rw [show v = _ from ha.1]
 subst hv
 cases a with
 | none =>
   have h4 : Value.slice none n c = .slice none 0 0 := h3 rfl
   simp only [Value.slice.injEq] at h4
   obtain ⟨_, rfl, rfl⟩ := h4
   exact (cr_nil w).mono fun e w2 ⟨he, hb⟩ => ⟨[.slice none 0 0], he, outOk_one (nil_own (by show 0 < 6; decide) rfl), hb⟩
 | some x =>
   have hv : InB w.heap.size w (crL n (fun j => (rcE gl (.slice (some x) n c)).el j) false) (.slice (some x) n c) := rowG_row hG h1
   exact (cr_calls x n c _ w hv h2).mono fun e w2 ⟨u, he, hb, ho⟩ => ⟨[u], he, outOk_one ho, hb⟩
noncomputable def lcr (gl : Gl) : LTab := lrow 39 fun args => match args with
 | [.inl (.slice a n c)] => some (false, [.inr (crE gl (.slice a n c) n)], pre (propB (fitV gl (.slice a n c) (rcE gl (.slice a n c)) 40)))
 | _ => none
theorem lcr_ok {gl : Gl} : LTabOk Try.prog gl (lcr gl) := .row fun args tup res h w vals hG ha => by
 split at h
 . simp only [qS, qP] at h
   obtain ⟨rfl, rfl, hp⟩ := h
   exact cr_ret _ _ _ (propB_ok.mp hp) w hG vals ha
 . cases h
theorem cf_nil (w : World) : Ret Try.prog 40 #[.slice none 0 0] (.slice none 0 0) w := by
 refine LRet.plain (?_ : LRet Try.prog 40 [.slice none 0 0] false [.inl (.slice none 0 0)] w)
 exact fn_ok (enCl_ok []) (fuel := 1000) (d := 30) (plan := []) (orc := []) (fls := [[]]) (args := [.inl (.slice none 0 0)]) (l := []) (tr := []) (by kernel_rfl) qZ Try.func40 w _ (GlobOk.none w) ⟨rfl, trivial⟩ fun t ht => by cases ht
noncomputable def cfE (gl : Gl) (v : Value) (n : Nat) : LE := cfL n (fun j => rfC (rfG gl v j)) true
theorem cf_ret {gl : Gl} (a : Option Addr) (n c : Nat) (hf : fitV gl (.slice a n c) (rfE gl (.slice a n c)) 16) (w : World) (hG : GlobOk gl w) (vals : List Value) (ha : ArgsOk w [.inl (.slice a n c)] vals) : LRet Try.prog 40 vals false [.inr (cfE gl (.slice a n c) n)] w := by
 obtain ⟨h1, h2, h3⟩ := hf
 have hv : vals = [.slice a n c] := by
   match vals, ha with
   | [v], ha => rw [show v = _ from ha.1]
 subst hv
 cases a with
 | none =>
   have h4 : Value.slice none n c = .slice none 0 0 := h3 rfl
   simp only [Value.slice.injEq] at h4
   obtain ⟨_, rfl, rfl⟩ := h4
   exact (cf_nil w).mono fun e w2 ⟨he, hb⟩ => ⟨[.slice none 0 0], he, outOk_one (nil_own (by show 0 < 2; decide) rfl), hb⟩
 | some x =>
   have hv : InB w.heap.size w (cfL n (fun j => (rfE gl (.slice (some x) n c)).el j) false) (.slice (some x) n c) := rowG_row hG h1
   exact (cf_calls x n c _ w hv h2).mono fun e w2 ⟨u, he, hb, ho⟩ => ⟨[u], he, outOk_one ho, hb⟩
noncomputable def lcf (gl : Gl) : LTab := lrow 40 fun args => match args with
 | [.inl (.slice a n c)] => some (false, [.inr (cfE gl (.slice a n c) n)], pre (propB (fitV gl (.slice a n c) (rfE gl (.slice a n c)) 16)))
 | _ => none
theorem lcf_ok {gl : Gl} : LTabOk Try.prog gl (lcf gl) := .row fun args tup res h w vals hG ha => by
 split at h
 . simp only [qS, qP] at h
   obtain ⟨rfl, rfl, hp⟩ := h
   exact cf_ret _ _ _ (propB_ok.mp hp) w hG vals ha
 . cases h
end Go.Proofs.Ytmaffamhjmlonaa
