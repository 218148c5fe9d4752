/- The image that the laws of layer 8 ask for first; what Encode answers. -/
import Derived.Test.YtimgongaenpgkaaDoorEncode08
namespace Go.Proofs.YtimgongaenpgkaaDoor
open Go.RowKit Sim S2
set_option linter.unusedVariables false
set_option linter.unusedSimpArgs false

/-- A cell that reads as a list. -/
def likeL : Sum Value LE → LE → Prop
  | .inr a, e => sameE { a with own := false, dead := false } e
  | .inl v, e => v = .slice none 0 0 ∧ e.n = 0 ∧ 0 < e.size
def isImS (i : Im) (cs : List (Sum Value LE)) : Prop := ∃ x y z, cs = [x, y, z] ∧ likeL x (w32L false i.n i.c) ∧ likeL y (intL false i.m i.d) ∧ likeL z (intL false i.h i.e)
theorem cells_cons {w : World} {x : Sum Value LE} {r : List (Sum Value LE)} {us : List Value} (h : CellsOk w (x :: r) us) {e : LE} (hl : likeL x e) : ∃ u us', us = u :: us' ∧ InB w.heap.size w e u ∧ CellsOk w r us' := by
  cases us with
  | nil => cases x <;> exact h.elim
  | cons u us' =>
    refine ⟨u, us', rfl, ?_⟩
    cases x with
    | inr a => exact ⟨InB.same (show InB w.heap.size w { a with own := false, dead := false } u from h.1) hl, h.2⟩
    | inl v =>
      obtain ⟨rfl, hn, hs⟩ := hl
      refine ⟨?_, h.2⟩
      rw [show u = _ from h.1]
      exact ⟨⟨hs, fun j hj => absurd hj (by omega)⟩, none, 0, by rw [hn], by omega, fun h0 => absurd h0 (by omega)⟩
theorem isImS_ok {i : Im} {cs : List (Sum Value LE)} (h : isImS i cs) {w : World} {r : List XV} {vals : List Value} (ha : ArgsOk w (.st cs :: r) vals) : ∃ v vs, vals = v :: vs ∧ ArgsOk w [imX false i] [v] ∧ ArgsOk w r vs := by
  cases vals with
  | nil => exact ha.elim
  | cons v vs =>
    obtain ⟨⟨us, rfl, hc⟩, hr⟩ := ha
    obtain ⟨x, y, z, rfl, hx, hy, hz⟩ := h
    obtain ⟨u0, us1, rfl, g0, hc1⟩ := cells_cons hc hx
    obtain ⟨u1, us2, rfl, g1, hc2⟩ := cells_cons hc1 hy
    obtain ⟨u2, us3, rfl, g2, hc3⟩ := cells_cons hc2 hz
    have : us3 = [] := by cases us3 <;> first | rfl | exact hc3.elim
    subst this
    exact ⟨_, vs, rfl, ⟨⟨[u0, u1, u2], rfl, g0, g1, g2, trivial⟩, trivial⟩, hr⟩
theorem imC_im (i : Im) : isIm i (imC i) := ⟨_, _, _, rfl, rfl, rfl, rfl⟩
theorem imC_ims (i : Im) : isImS i (imC i) := ⟨_, _, _, rfl, .refl _, .refl _, .refl _⟩
def c32 (i : Im) : Prop := ∀ j, j < i.n → 0 ≤ i.c j ∧ i.c j < 4294967296
noncomputable def imLen (i : Im) : Nat := 16 + 4 * i.n + 8 * i.m + 4 * i.h
noncomputable def lEncY (i : Im) : LTab := lrow 13 fun args => match args with
  | [.st cs] => some (true, [.inr (bytesE (imLen i) (imgZ i)), .inl (.int .i64 0)], pre (propB (isImS i cs ∧ okIm i ∧ c32 i)))
  | _ => none
theorem lEncY_ok {gl : Nat → Option (List Value)} (i : Im) : LTabOk Tryd.prog gl (lEncY i) := .row fun args tup res h w vals hG ha => by
  split at h
  · rename_i cs
    simp only [Option.some.injEq, Prod.mk.injEq] at h
    obtain ⟨rfl, rfl, hp⟩ := h
    obtain ⟨h1, h2, h3⟩ := propB_ok.mp hp
    obtain ⟨v, vs, rfl, g1, g2⟩ := isImS_ok h1 ha
    obtain rfl := args_nil g2
    exact encode_yes h2 h3 w [v] g1
  · cases h
def imAw : Im := ⟨1, 0, 1, fun _ => 115, fun _ => 0, fun _ => 0⟩
noncomputable def envAw : S2.Env := envl Tryd.prog (fun _ => none) noT noP (lEncY imAw) (fun _ => none)
theorem envAw_ok : CallOk envAw := envl_ok (.none _ _) (.none _ _) (lEncY_ok _) .none
noncomputable def tAw8 : Tab := row 6 dec0 fun _ => .bool true
theorem awake8_sim : S2.simF envAw 1000 30 [] [true, true, true, true] 6 [] [] = some (false, [.inl (.bool true)],
    [(((imLen imAw : Nat) : Int) == 24, true), ((0 : Int) == 0, true), (pre (propB (isImS imAw [.inr ⟨41, 1, 1, tabE (chunks 1 1 [.int .u32 115]), true, false, true⟩, .inl (.slice none 0 0), .inr ⟨3, 1, 1, tabE (chunks 1 1 [.int .i64 0]), true, false, true⟩] ∧ okIm imAw ∧ c32 imAw)), true)], []) := by kernel_rfl
theorem awake8 (w : World) : Ret Tryd.prog 6 #[] (.bool true) w := by
  have h0 : ∀ (f g : Nat → List Value), f 0 = g 0 → ∀ i, i < 1 → f i = g i := fun f g h i hi => by
    have : i = 0 := by omega
    subst this
    exact h
  refine LRet.plain (fn_ok envAw_ok awake8_sim (all_cons (by decide) <| all_cons rfl <| all_cons (propB_ok.mpr ⟨⟨_, _, _, rfl, ⟨rfl, rfl, rfl, rfl, rfl, h0 _ _ rfl⟩, ⟨rfl, rfl, by decide⟩, ⟨rfl, rfl, rfl, rfl, rfl, h0 _ _ rfl⟩⟩, ⟨by decide, by decide, by decide, by decide, by decide, fun j hj => ⟨Int.le_refl 0, show (0 : Int) < 1 by decide⟩⟩, fun j hj => ⟨show (0 : Int) ≤ 115 by decide, show (115 : Int) < 4294967296 by decide⟩⟩) all_nil) Tryd.func6 w [] (GlobOk.none w) trivial fun t ht => by cases ht)
theorem tAw8_ok {gl : Nat → Option (List Value)} : TabOk Tryd.prog gl tAw8 := tab0 fun w hG => awake8 w
end Go.Proofs.YtimgongaenpgkaaDoor
