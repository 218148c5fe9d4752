/- Rows of contracts for the laws of layer 8 (images and their bytes). -/
import Derived.Test.YtimgongaenpgkaaEncode08
import Derived.Test.YtimgongaenpgkaaDecoded08
namespace Go.Proofs.Ytimgongaenpgkaa
open Go.RowKit Sim S2
set_option linter.unusedVariables false
set_option linter.unusedSimpArgs false

/-- A cell that reads as a list. -/
def likeL : Sum Value LE → LE → Prop
  | .inr a, e => sameE { a with own := false, dead := false } e
  | .inl v, e => v = .slice none 0 0 ∧ e.n = 0 ∧ 0 < e.size
def isImS (i : Im) (cs : List (Sum Value LE)) : Prop := ∃ x y z, cs = [x, y, z] ∧ likeL x (w32L false i.n i.c) ∧ likeL y (intL false i.m i.d) ∧ likeL z (intL false i.h i.e)
theorem cells_cons {w : World} {x : Sum Value LE} {r : List (Sum Value LE)} {us : List Value} (h : CellsOk w (x :: r) us) {e : LE} (hl : likeL x e) : ∃ u us', us = u :: us' ∧ InB w.heap.size w e u ∧ CellsOk w r us' := by
  cases us with
  | nil => cases x <;> exact h.elim
  | cons u us' =>
    refine ⟨u, us', rfl, ?_⟩
    cases x with
    | inr a => exact ⟨InB.same (show InB w.heap.size w { a with own := false, dead := false } u from h.1) hl, h.2⟩
    | inl v =>
      obtain ⟨rfl, hn, hs⟩ := hl
      refine ⟨?_, h.2⟩
      rw [show u = _ from h.1]
      exact ⟨⟨hs, fun j hj => absurd hj (by omega)⟩, none, 0, by rw [hn], by omega, fun h0 => absurd h0 (by omega)⟩
theorem isImS_ok {i : Im} {cs : List (Sum Value LE)} (h : isImS i cs) {w : World} {r : List XV} {vals : List Value} (ha : ArgsOk w (.st cs :: r) vals) : ∃ v vs, vals = v :: vs ∧ ArgsOk w [imX false i] [v] ∧ ArgsOk w r vs := by
  cases vals with
  | nil => exact ha.elim
  | cons v vs =>
    obtain ⟨⟨us, rfl, hc⟩, hr⟩ := ha
    obtain ⟨x, y, z, rfl, hx, hy, hz⟩ := h
    obtain ⟨u0, us1, rfl, g0, hc1⟩ := cells_cons hc hx
    obtain ⟨u1, us2, rfl, g1, hc2⟩ := cells_cons hc1 hy
    obtain ⟨u2, us3, rfl, g2, hc3⟩ := cells_cons hc2 hz
    have : us3 = [] := by cases us3 <;> first | rfl | exact hc3.elim
    subst this
    exact ⟨_, vs, rfl, ⟨⟨[u0, u1, u2], rfl, g0, g1, g2, trivial⟩, trivial⟩, hr⟩
def c32 (i : Im) : Prop := ∀ j, j < i.n → 0 ≤ i.c j ∧ i.c j < 4294967296
noncomputable def imLen (i : Im) : Nat := 16 + 4 * i.n + 8 * i.m + 4 * i.h
noncomputable def lEncY (i : Im) : LTab := lrow 8 fun args => match args with
  | [.st cs] => some (true, [.inr (bytesE (imLen i) (imgZ i)), .inl (.int .i64 0)], pre (propB (isImS i cs ∧ okIm i ∧ c32 i)))
  | _ => none
theorem lEncY_ok {gl : Nat → Option (List Value)} (i : Im) : LTabOk Try.prog gl (lEncY i) := .row fun args tup res h w vals hG ha => by
  split at h
  · rename_i cs
    simp only [Option.some.injEq, Prod.mk.injEq] at h
    obtain ⟨rfl, rfl, hp⟩ := h
    obtain ⟨h1, h2, h3⟩ := propB_ok.mp hp
    obtain ⟨v, vs, rfl, g1, g2⟩ := isImS_ok h1 ha
    obtain rfl := args_nil g2
    exact encode_yes h2 h3 w [v] g1
  · cases h
noncomputable def lEncN (i : Im) : LTab := lrow 8 fun args => match args with
  | [.st cs] => some (false, [.inl (.tuple #[.slice none 0 0, .int .i64 (imE i)])], pre (propB (isImS i cs ∧ imE i ≠ 0 ∧ smallIm i)))
  | _ => none
theorem lEncN_ok {gl : Nat → Option (List Value)} (i : Im) : LTabOk Try.prog gl (lEncN i) := .row fun args tup res h w vals hG ha => by
  split at h
  · rename_i cs
    simp only [Option.some.injEq, Prod.mk.injEq] at h
    obtain ⟨rfl, rfl, hp⟩ := h
    obtain ⟨h1, h2, h3⟩ := propB_ok.mp hp
    obtain ⟨v, vs, rfl, g1, g2⟩ := isImS_ok h1 ha
    obtain rfl := args_nil g2
    exact encode_no h2 h3 w [v] g1
  · cases h
def isL (n : Nat) (el : Nat → List Value) (e : LE) : Prop := sameE { e with own := false, dead := false } (restE n el) ∧ isB n el ∧ n ≤ 1000000000
theorem isL_in {n : Nat} {el : Nat → List Value} {e : LE} (h : isL n el e) {w : World} {vals : List Value} (ha : ArgsOk w [.inr e] vals) : ArgsOk w [.inr (restE n el)] vals := by
  cases vals with
  | nil => exact ha.elim
  | cons v vs => exact ⟨InB.same (show InB w.heap.size w { e with own := false, dead := false } v from ha.1) h.1, ha.2⟩
noncomputable def lDecY (n : Nat) (el : Nat → List Value) : LTab := lrow 10 fun args => match args with
  | [.inr e] => some (true, [imX true (dIm n el), .inl (.int .i64 0)], pre (propB (isL n el e ∧ dGood n el)))
  | _ => none
theorem lDecY_ok {gl : Nat → Option (List Value)} (n : Nat) (el : Nat → List Value) : LTabOk Try.prog gl (lDecY n el) := .row fun args tup res h w vals hG ha => by
  split at h
  · rename_i e
    simp only [Option.some.injEq, Prod.mk.injEq] at h
    obtain ⟨rfl, rfl, hp⟩ := h
    obtain ⟨h1, h2⟩ := propB_ok.mp hp
    exact (decode_ret n el h1.2.2 h1.2.1 w vals (isL_in h1 ha)).1 h2
  · cases h
noncomputable def lDecN (n : Nat) (el : Nat → List Value) : LTab := lrow 10 fun args => match args with
  | [.inr e] => some (false, badX, pre (propB (isL n el e ∧ ¬ dGood n el)))
  | _ => none
theorem lDecN_ok {gl : Nat → Option (List Value)} (n : Nat) (el : Nat → List Value) : LTabOk Try.prog gl (lDecN n el) := .row fun args tup res h w vals hG ha => by
  split at h
  · rename_i e
    simp only [Option.some.injEq, Prod.mk.injEq] at h
    obtain ⟨rfl, rfl, hp⟩ := h
    obtain ⟨h1, h2⟩ := propB_ok.mp hp
    exact (decode_ret n el h1.2.2 h1.2.1 w vals (isL_in h1 ha)).2 h2
  · cases h
def im0 : Im := ⟨0, 0, 0, fun _ => 0, fun _ => 0, fun _ => 0⟩
def nil3 : Value := .agg #[.slice none 0 0, .slice none 0 0, .slice none 0 0]
theorem im0_args (w : World) : ArgsOk w [imX false im0, imX false im0] [nil3, nil3] := by
  have h : ∀ e : LE, e.n = 0 → 0 < e.size → InB w.heap.size w e (.slice none 0 0) := fun e hn hs => ⟨⟨hs, fun j hj => absurd hj (by omega)⟩, none, 0, by rw [hn], by omega, fun h0 => absurd h0 (by omega)⟩
  have k : CellsOk w [.inr (w32L false 0 im0.c), .inr (intL false 0 im0.d), .inr (intL false 0 im0.e)] [.slice none 0 0, .slice none 0 0, .slice none 0 0] := ⟨h _ rfl (by decide), h _ rfl (by decide), h _ rfl (by decide), trivial⟩
  exact ⟨⟨_, rfl, k⟩, ⟨_, rfl, k⟩, trivial⟩
noncomputable def lSame0 : LTab := lrow 13 fun args => match args with
  | [.inl (.agg ⟨[.slice none 0 0, .slice none 0 0, .slice none 0 0]⟩), .inl (.agg ⟨[.slice none 0 0, .slice none 0 0, .slice none 0 0]⟩)] => some (false, [.inl (.bool true)], true)
  | _ => none
theorem lSame0_ok {gl : Nat → Option (List Value)} : LTabOk Try.prog gl lSame0 := .row fun args tup res h w vals hG ha => by
  split at h
  · simp only [Option.some.injEq, Prod.mk.injEq] at h
    obtain ⟨rfl, rfl, _⟩ := h
    rw [args2 ha]
    exact refSameIm_ret false false im0 im0 ⟨rfl, rfl, rfl, fun _ _ => rfl, fun _ _ => rfl, fun _ _ => rfl⟩ (by decide) (by decide) (by decide) w _ (im0_args w)
  · cases h
def imAw : Im := ⟨1, 0, 1, fun _ => 115, fun _ => 0, fun _ => 0⟩
noncomputable def envAw : S2.Env := envl Try.prog (fun _ => none) noT noP (lEncY imAw) (fun _ => none)
theorem envAw_ok : CallOk envAw := envl_ok (.none _ _) (.none _ _) (lEncY_ok _) .none
noncomputable def tAw8 : Tab := row 6 dec0 fun _ => .bool true
noncomputable def elI (i : Im) : Nat → List Value := fun p => [.int .u8 (imgZ i p)]
noncomputable def lLawY (i : Im) : LTab := orL (lRefCheck i) (orL (lEncY i) (orL (lCheck i) (orL (lDecY (imLen i) (elI i)) (orL (lRefImg i) (orL lRefSame (lRefSameIm (dIm (imLen i) (elI i)) i))))))
noncomputable def envY8 (i : Im) : S2.Env := envl Try.prog (fun _ => none) tAw8 noP (lLawY i) (fun _ => none)
noncomputable def lLawN (i : Im) : LTab := orL (lRefCheck i) (orL (lEncN i) (lCheck i))
noncomputable def envN8 (i : Im) : S2.Env := envl Try.prog (fun _ => none) tAw8 noP (lLawN i) (fun _ => none)
noncomputable def lLawDY (n : Nat) (el : Nat → List Value) : LTab := orL (lDecY n el) (orL (lRefCheck (dIm n el)) (orL (lRefImg (dIm n el)) lRefSame))
noncomputable def envDY8 (n : Nat) (el : Nat → List Value) : S2.Env := envl Try.prog (fun _ => none) tAw8 noP (lLawDY n el) (fun _ => none)
noncomputable def lLawDN (n : Nat) (el : Nat → List Value) : LTab := orL (lDecN n el) lSame0
noncomputable def envDN8 (n : Nat) (el : Nat → List Value) : S2.Env := envl Try.prog (fun _ => none) tAw8 noP (lLawDN n el) (fun _ => none)
theorem awake8_sim : S2.simF envAw 1000 30 [] [true, true, true, true] 6 [] [] = some (false, [.inl (.bool true)],
    [(((imLen imAw : Nat) : Int) == 24, true), ((0 : Int) == 0, true), (pre (propB (isImS imAw [.inr ⟨39, 1, 1, tabE (chunks 1 1 [.int .u32 115]), true, false, true⟩, .inl (.slice none 0 0), .inr ⟨3, 1, 1, tabE (chunks 1 1 [.int .i64 0]), true, false, true⟩] ∧ okIm imAw ∧ c32 imAw)), true)], []) := by kernel_rfl
theorem awake8 (w : World) : Ret Try.prog 6 #[] (.bool true) w := by
  have h0 : ∀ (f g : Nat → List Value), f 0 = g 0 → ∀ i, i < 1 → f i = g i := fun f g h i hi => by
    have : i = 0 := by omega
    subst this
    exact h
  refine LRet.plain (fn_ok envAw_ok awake8_sim (all_cons (by decide) <| all_cons rfl <| all_cons (propB_ok.mpr ⟨⟨_, _, _, rfl, ⟨rfl, rfl, rfl, rfl, rfl, h0 _ _ rfl⟩, ⟨rfl, rfl, by decide⟩, ⟨rfl, rfl, rfl, rfl, rfl, h0 _ _ rfl⟩⟩, ⟨by decide, by decide, by decide, by decide, by decide, fun j hj => ⟨Int.le_refl 0, show (0 : Int) < 1 by decide⟩⟩, fun j hj => ⟨show (0 : Int) ≤ 115 by decide, show (115 : Int) < 4294967296 by decide⟩⟩) all_nil) Try.func6 w [] (GlobOk.none w) trivial fun t ht => by cases ht)
theorem tAw8_ok {gl : Nat → Option (List Value)} : TabOk Try.prog gl tAw8 := tab0 fun w hG => awake8 w
theorem envY8_ok (i : Im) : CallOk (envY8 i) := envl_ok tAw8_ok (.none _ _) ((lRefCheck_ok i).or ((lEncY_ok i).or ((lCheck_ok i).or ((lDecY_ok _ _).or ((lRefImg_ok i).or (lRefSame_ok.or (lRefSameIm_ok _ i))))))) .none
theorem envN8_ok (i : Im) : CallOk (envN8 i) := envl_ok tAw8_ok (.none _ _) ((lRefCheck_ok i).or ((lEncN_ok i).or (lCheck_ok i))) .none
theorem envDY8_ok (n : Nat) (el : Nat → List Value) : CallOk (envDY8 n el) := envl_ok tAw8_ok (.none _ _) ((lDecY_ok n el).or ((lRefCheck_ok _).or ((lRefImg_ok _).or lRefSame_ok))) .none
theorem envDN8_ok (n : Nat) (el : Nat → List Value) : CallOk (envDN8 n el) := envl_ok tAw8_ok (.none _ _) ((lDecN_ok n el).or lSame0_ok) .none
noncomputable def imD (k : Im) : List (Sum Value LE) := [.inr (w32L true k.n k.c), .inr (intL true k.m k.d), .inr (intL true k.h k.e)]
theorem ic_large1 (i : Im) : S2.simF (envN8 i) 1000 30 [] [true] 3 [[]] [imX false i] = some (false, [.inl (.bool true)], [(decide ((i.n : Int) > 2000), true)], []) := by kernel_rfl
theorem ic_large2 (i : Im) : S2.simF (envN8 i) 1000 30 [] [false, true] 3 [[]] [imX false i] = some (false, [.inl (.bool true)], [(decide ((i.m : Int) > 5000), true), (decide ((i.n : Int) > 2000), false)], []) := by kernel_rfl
theorem ic_large3 (i : Im) : S2.simF (envN8 i) 1000 30 [] [false, false, true] 3 [[]] [imX false i] = some (false, [.inl (.bool true)], [(decide ((i.h : Int) > 100), true), (decide ((i.m : Int) > 5000), false), (decide ((i.n : Int) > 2000), false)], []) := by kernel_rfl
theorem ic_no (i : Im) : S2.simF (envN8 i) 1000 30 [] [false, false, false, false, false, true, true] 3 [[]] [imX false i] = some (false, [.inl (.bool true)],
    [((0 : Int) == 0, true), (imE i != 0, true), (imE i != imE i, false), (imE i != imE i, false), (pre (propB (isIm i (imC i) ∧ smallIm i)), true), (pre (propB (isImS i (imC i) ∧ imE i ≠ 0 ∧ smallIm i)), true), (pre (propB (isIm i (imC i) ∧ smallIm i)), true), (decide ((i.h : Int) > 100), false), (decide ((i.m : Int) > 5000), false), (decide ((i.n : Int) > 2000), false)], []) := by kernel_rfl
theorem ic_yes (i : Im) : S2.simF (envY8 i) 1000 30 [] [false, false, false, false, false, false, true, true, true] 3 [[]] [imX false i] = some (false, [.inl (.bool true)],
    [(true, true), (pre (propB (isIm (dIm (imLen i) (elI i)) (imD (dIm (imLen i) (elI i))) ∧ isIm i (imC i) ∧ ImSame (dIm (imLen i) (elI i)) i ∧ smallIm (dIm (imLen i) (elI i)))), true), ((0 : Int) == 0, true), (true, true), (pre (propB (sameBytes (bytesE (imLen i) (imgZ i)) (bytesE (16 + 4 * i.n + 8 * i.m + 4 * i.h) (imgZ i)))), true), (pre (propB (isIm i (imC i) ∧ smallIm i)), true), (pre (propB (isL (imLen i) (elI i) (bytesE (imLen i) (imgZ i)) ∧ dGood (imLen i) (elI i))), true),
     (imE i != 0, false), ((0 : Int) != imE i, false), (imE i != imE i, false), (pre (propB (isIm i (imC i) ∧ smallIm i)), true), (pre (propB (isImS i (imC i) ∧ okIm i ∧ c32 i)), true), (pre (propB (isIm i (imC i) ∧ smallIm i)), true), (decide ((i.h : Int) > 100), false), (decide ((i.m : Int) > 5000), false), (decide ((i.n : Int) > 2000), false)], []) := by kernel_rfl
theorem id_large (n : Nat) (el : Nat → List Value) : S2.simF (envDN8 n el) 1000 30 [] [true] 4 [[]] [.inr (restE n el)] = some (false, [.inl (.bool true)], [(decide ((n : Int) > 5000), true)], []) := by kernel_rfl
theorem id_no (n : Nat) (el : Nat → List Value) : S2.simF (envDN8 n el) 1000 30 [] [false, true, true, true] 4 [[]] [.inr (restE n el)] = some (false, [.inl (.bool true)],
    [(true, true), (true, true), ((1 : Int) == 1, true), ((1 : Int) != 0, true), (pre (propB (isL n el (restE n el) ∧ ¬ dGood n el)), true), (decide ((n : Int) > 5000), false)], []) := by kernel_rfl
theorem id_yes (n : Nat) (el : Nat → List Value) : S2.simF (envDY8 n el) 1000 30 [] [false, false, true, true] 4 [[]] [.inr (restE n el)] = some (false, [.inl (.bool true)],
    [(true, true), (pre (propB (sameBytes (bytesE (16 + 4 * (dIm n el).n + 8 * (dIm n el).m + 4 * (dIm n el).h) (imgZ (dIm n el))) (restE n el))), true), (pre (propB (isIm (dIm n el) (imD (dIm n el)) ∧ smallIm (dIm n el))), true), (imE (dIm n el) == 0, true), (pre (propB (isIm (dIm n el) (imD (dIm n el)) ∧ smallIm (dIm n el))), true), ((0 : Int) != 0, false), (pre (propB (isL n el (restE n el) ∧ dGood n el)), true), (decide ((n : Int) > 5000), false)], []) := by kernel_rfl
end Go.Proofs.Ytimgongaenpgkaa
