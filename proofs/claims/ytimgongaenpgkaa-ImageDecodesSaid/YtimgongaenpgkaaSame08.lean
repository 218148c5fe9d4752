/- Contracts of the answers by definition for layer 8: two images that are the same. -/
import Derived.Test.YtimgongaenpgkaaRef08
import Derived.Test.YtimgongaenpgkaaRef02
namespace Go.Proofs.Ytimgongaenpgkaa
open Go.RowKit Sim S2
set_option linter.unusedVariables false
set_option linter.unusedSimpArgs false

/-- Two lists of the same integers. -/
def sameInts (e e' : LE) : Prop := e.size = 1 ∧ e'.size = 1 ∧ e.n = e'.n ∧ e.n ≤ 1000000000000 ∧ ∃ g : Nat → Int, ∀ j, j < e.n → e.el j = [.int .i64 (g j)] ∧ e'.el j = [.int .i64 (g j)]
theorem rdI_of {B : Nat} {w : World} {e : LE} {v : Value} {xs : List Int} (h : InB B w e v) (h1 : e.size = 1) (h2 : e.n = xs.length) (h3 : ∀ i, i < xs.length → e.el i = [.int .i64 (xs.getD i 0)]) : RdI .i64 w B v xs := by
  obtain ⟨_, a, cap, hv, _, hc⟩ := h
  refine ⟨a, cap, by rw [← h2]; exact hv, fun hp => ?_⟩
  obtain ⟨b, off, ha, hb, hcell⟩ := hc (by omega)
  refine ⟨b, off, ha, hb, fun i hi => ?_⟩
  have := hcell i (by omega) 0 (.int .i64 (xs.getD i 0)) (by rw [h3 i hi]; rfl)
  rw [h1, Nat.mul_one, Nat.add_zero] at this
  exact this
noncomputable def lRefInts : LTab := lrow 27 fun args => match args with
  | [.inr e, .inr e'] => some (false, [.inl (.bool true)], pre (propB (sameInts e e')))
  | _ => none
theorem lRefInts_ok {gl : Nat → Option (List Value)} : LTabOk Try.prog gl lRefInts := .row fun args tup res h w vals hG ha => by
  split at h
  · rename_i e e'
    simp only [Option.some.injEq, Prod.mk.injEq] at h
    obtain ⟨rfl, rfl, hp⟩ := h
    obtain ⟨h1, h2, h3, h4, g, h5⟩ := propB_ok.mp hp
    cases vals with
    | nil => exact ha.elim
    | cons u r =>
      cases r with
      | nil => exact ha.2.elim
      | cons v r =>
        cases r with
        | cons _ _ => exact ha.2.2.elim
        | nil =>
          have hl : ((List.range e.n).map g).length = e.n := by simp
          have hg : ∀ i, i < e.n → ((List.range e.n).map g).getD i 0 = g i := fun i hi => by
            rw [List.getD_eq_getElem?_getD, List.getElem?_map, List.getElem?_range hi]; rfl
          have r1 := rdI_of (xs := (List.range e.n).map g) ha.1 h1 hl.symm (fun i hi => by rw [hl] at hi; rw [hg i hi]; exact (h5 i hi).1)
          have r2 := rdI_of (xs := (List.range e.n).map g) ha.2.1 h2 (by rw [hl]; exact h3.symm) (fun i hi => by rw [hl] at hi; rw [hg i hi]; exact (h5 i hi).2)
          exact (refInts_yes (by rw [hl]; omega) r1 r2).mono fun e w' ⟨he, m, hm⟩ => ⟨[.bool true], he, outOk_val _ _ _, hm ▸ below_draws (Below.refl _ _) m⟩
  · cases h
noncomputable def env8s : S2.Env := envq Try.prog (fun _ => none) noT noP lRefInts
theorem env8s_ok : CallOk env8s := envq_ok (.none _ _) (.none _ _) lRefInts_ok
def imB2 : S2.Blk := ⟨[.c 3, .c 4, .c 5], 25, .cells⟩
def smS (i k : Im) (j : Nat) : S2.St := { tmps := [(2, .inr (0, 0, none)), (3, .inr (1, 0, none)), (5, .inl ([true], .int .i64 j))], own := ⟨[imB, imB2], imL i ++ imL k⟩, lo := 0, llo := 0, mem := true, orc := [], obl := [] }
def smP : Pick := { ts := [2, 3, 5], bs := [0, 1], ls := [0, 1, 2, 3, 4, 5], opn := [5] }
def smPath : List Nat := [0, 1, 0, 1, 1]
noncomputable def smC : Code := codeAt (codeOf Try.prog 13) (0 :: smPath)
/-- Images of the same words, doublewords, entries. -/
structure ImSame (i k : Im) : Prop where
  n : i.n = k.n
  m : i.m = k.m
  h : i.h = k.h
  c : ∀ j, j < i.n → i.c j = k.c j
  d : ∀ j, j < i.m → i.d j = k.d j
  e : ∀ j, j < i.h → i.e j = k.e j
theorem sm_step (i k : Im) (h : ImSame i k) (hn : i.n ≤ 1000000000) (j : Nat) (hj : j < i.n) (w : World) : S2.Sem env8s w 47 smC (smS i k j) none (smS i k (j + 1)) := by
  refine sem_iter env8s_ok (GlobOk.none w) (p := { ts := [2, 3, 5], bs := [0, 1], ls := [0, 1, 2, 3, 4, 5] }) (fuel := 1000) [true, false]
    [(pre (inI ((j : Int) + 1)), true), (i.c ((j : Int).toNat) != k.c ((j : Int).toNat), false), (pre (decide ((j : Int).toNat < k.n)), true), (pre (idxB (j : Int) k.n), true), (pre (decide ((j : Int).toNat < i.n)), true), (pre (idxB (j : Int) i.n), true), (decide ((j : Int) < i.n), true)]
    (by kernel_rfl) (by kernel_rfl) ?_
  rw [Int.toNat_natCast]
  have h1 := h.n
  exact all_cons (ob_inI (by omega)) <| all_cons (by rw [h.c j hj]; simp) <| all_cons (ob_lt (by omega)) <| all_cons (ob_idx (by omega)) <| all_cons (ob_lt hj) <| all_cons (ob_idx (by omega)) <| all_cons (ob_yes (by omega)) all_nil
theorem sm_end (i k : Im) (w : World) : S2.Sem env8s w 47 smC (smS i k i.n) (some (some 0)) (smS i k i.n) :=
  sem_iter env8s_ok (GlobOk.none w) (p := { ts := [2, 3, 5], bs := [0, 1], ls := [0, 1, 2, 3, 4, 5] }) (fuel := 1000) [false] [(decide ((i.n : Int) < i.n), false)] (by kernel_rfl) (by kernel_rfl) (all_cons (ob_no (by omega)) all_nil)
theorem refSameIm_ret (o o' : Bool) (i k : Im) (h : ImSame i k) (hn : i.n ≤ 1000000000) (hm : i.m ≤ 1000000000) (hh : i.h ≤ 1000000000) (w : World) (vals : List Value) (ha : ArgsOk w [imX o i, imX o' k] vals) : LRet Try.prog 13 vals false [.inl (.bool true)] w := by
  have d : pre (propB (sameInts (intL false i.m i.d) (intL false k.m k.d))) = true := propB_ok.mpr ⟨rfl, rfl, h.m, by show i.m ≤ _; omega, i.d, fun j hj => ⟨rfl, by show [Value.int .i64 (k.d j)] = _; rw [h.d j hj]⟩⟩
  have e : pre (propB (sameInts (intL false i.h i.e) (intL false k.h k.e))) = true := propB_ok.mpr ⟨rfl, rfl, h.h, by show i.h ≤ _; omega, i.e, fun j hj => ⟨rfl, by show [Value.int .i64 (k.e j)] = _; rw [h.e j hj]⟩⟩
  have c : ((i.n : Int) != (k.n : Int)) = false := by rw [h.n]; simp
  refine fn_ok env8s_ok (fuel := 1000) (d := 30) (plan := [⟨smPath, smP, some (some 0), smS i k i.n⟩]) (orc := [false, false, false]) (fls := [[], []])
    (l := [(false, false), (pre (propB (sameInts (intL false i.h i.e) (intL false k.h k.e))), true), (false, false), (pre (propB (sameInts (intL false i.m i.d) (intL false k.m k.d))), true), ((i.n : Int) != (k.n : Int), false)])
    (tr := [⟨.loop smC, smS i k 0, some (some 0), smS i k i.n⟩]) (by kernel_rfl) (all_cons rfl <| all_cons e <| all_cons rfl <| all_cons d <| all_cons c all_nil) Try.func13 w vals (GlobOk.none w) ha fun t ht => ?_
  obtain rfl := List.mem_singleton.mp ht
  exact sem_loop (smS i k) i.n (by simp) (fun j hj => sm_step i k h hn j hj w) (sm_end i k w)
/-! ### The rows -/
/-- Cells that read as an image. -/
def isIm (i : Im) (cs : List (Sum Value LE)) : Prop := ∃ a b c, cs = [.inr a, .inr b, .inr c] ∧ { a with own := false } = w32L false i.n i.c ∧ { b with own := false } = intL false i.m i.d ∧ { c with own := false } = intL false i.h i.e
def smallIm (i : Im) : Prop := i.n ≤ 1000000000 ∧ i.m ≤ 1000000000 ∧ i.h ≤ 1000000000
theorem inB_own {B : Nat} {w : World} {e : LE} {v : Value} {e' : LE} (h : InB B w e v) (he : { e with own := false } = e') : InB B w e' v := by
  subst he
  exact h
theorem isIm_args {i : Im} {cs : List (Sum Value LE)} (h : isIm i cs) {w : World} {us : List Value} (hc : CellsOk w cs us) : ∃ u0 u1 u2, us = [u0, u1, u2] ∧ InB w.heap.size w (w32L false i.n i.c) u0 ∧ InB w.heap.size w (intL false i.m i.d) u1 ∧ InB w.heap.size w (intL false i.h i.e) u2 := by
  obtain ⟨a, b, c, rfl, h0, h1, h2⟩ := h
  match us, hc with
  | [u0, u1, u2], hc => exact ⟨u0, u1, u2, rfl, inB_own hc.1 h0, inB_own hc.2.1 h1, inB_own hc.2.2.1 h2⟩
theorem isIm_ok {i : Im} {cs : List (Sum Value LE)} (h : isIm i cs) {w : World} {r : List XV} {vals : List Value} (ha : ArgsOk w (.st cs :: r) vals) : ∃ v vs, vals = v :: vs ∧ ArgsOk w [imX false i] [v] ∧ ArgsOk w r vs := by
  cases vals with
  | nil => exact ha.elim
  | cons v vs =>
    obtain ⟨⟨us, rfl, hc⟩, hr⟩ := ha
    obtain ⟨u0, u1, u2, rfl, g0, g1, g2⟩ := isIm_args h hc
    exact ⟨_, vs, rfl, ⟨⟨[u0, u1, u2], rfl, g0, g1, g2, trivial⟩, trivial⟩, hr⟩
theorem args_nil {w : World} {vs : List Value} (h : ArgsOk w [] vs) : vs = [] := by cases vs <;> first | rfl | exact h.elim
noncomputable def lRefCheck (i : Im) : LTab := lrow 7 fun args => match args with
  | [.st cs] => some (false, [.inl (.int .i64 (imE i))], pre (propB (isIm i cs ∧ smallIm i)))
  | _ => none
theorem lRefCheck_ok {gl : Nat → Option (List Value)} (i : Im) : LTabOk Try.prog gl (lRefCheck i) := .row fun args tup res h w vals hG ha => by
  split at h
  · rename_i cs
    simp only [Option.some.injEq, Prod.mk.injEq] at h
    obtain ⟨rfl, rfl, hp⟩ := h
    obtain ⟨h1, h2, h3, h4⟩ := propB_ok.mp hp
    obtain ⟨v, vs, rfl, g1, g2⟩ := isIm_ok h1 ha
    obtain rfl := args_nil g2
    exact refCheck_ret false i (by omega) (by omega) (by omega) w [v] g1
  · cases h
noncomputable def lRefImg (i : Im) : LTab := lrow 12 fun args => match args with
  | [.st cs] => some (false, [.inr (bytesE (16 + 4 * i.n + 8 * i.m + 4 * i.h) (imgZ i))], pre (propB (isIm i cs ∧ smallIm i)))
  | _ => none
theorem lRefImg_ok {gl : Nat → Option (List Value)} (i : Im) : LTabOk Try.prog gl (lRefImg i) := .row fun args tup res h w vals hG ha => by
  split at h
  · rename_i cs
    simp only [Option.some.injEq, Prod.mk.injEq] at h
    obtain ⟨rfl, rfl, hp⟩ := h
    obtain ⟨h1, h2, h3, h4⟩ := propB_ok.mp hp
    obtain ⟨v, vs, rfl, g1, g2⟩ := isIm_ok h1 ha
    obtain rfl := args_nil g2
    exact refImgBytes_ret false i h2 h3 h4 w [v] g1
  · cases h
noncomputable def lRefSameIm (i k : Im) : LTab := lrow 13 fun args => match args with
  | [.st cs, .st ds] => some (false, [.inl (.bool true)], pre (propB (isIm i cs ∧ isIm k ds ∧ ImSame i k ∧ smallIm i)))
  | _ => none
theorem lRefSameIm_ok {gl : Nat → Option (List Value)} (i k : Im) : LTabOk Try.prog gl (lRefSameIm i k) := .row fun args tup res h w vals hG ha => by
  split at h
  · rename_i cs ds
    simp only [Option.some.injEq, Prod.mk.injEq] at h
    obtain ⟨rfl, rfl, hp⟩ := h
    obtain ⟨h1, h0, hs, h2, h3, h4⟩ := propB_ok.mp hp
    obtain ⟨v, vs, rfl, g1, g2⟩ := isIm_ok h1 ha
    obtain ⟨v', vs', rfl, g3, g4⟩ := isIm_ok h0 g2
    obtain rfl := args_nil g4
    exact refSameIm_ret false false i k hs h2 h3 h4 w [v, v'] ⟨g1.1, g3.1, trivial⟩
  · cases h
end Go.Proofs.Ytimgongaenpgkaa
