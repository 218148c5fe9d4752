/- Layer 10: the laws' own units. -/
import Derived.Test.YtohefnfombkkbaaWide10
namespace Go.Proofs.Ytohefnfombkkbaa
open Go.RowKit Sim S2
set_option linter.unusedVariables false
set_option linter.unusedSimpArgs false
noncomputable def lWide (m : Nat) (f : Nat → It) : LTab := lrow 16 fun args => match args with
  | [.inr e, .inl (.int .i64 a), .inl (.int .i64 n)] => some (false, [.inr (owE (m + n.toNat) (widF f a.toNat n.toNat))], pre (propB (isItE e m f ∧ m ≤ 100000 ∧ 0 ≤ n ∧ n ≤ 100000 ∧ 0 ≤ a ∧ a ≤ m)))
  | _ => none
noncomputable def envU10 (m : Nat) (f : Nat → It) : S2.Env := envk Try.prog (fun _ => none) true noT noP (lWide m f)
theorem isIt_I (m : Nat) (f : Nat → It) (h : m ≤ 1000000000000) : isItE (itE m f) m f := isItE_self m f h
theorem lWide_ok {gl : Gl} (m : Nat) (f : Nat → It) : LTabOk Try.prog gl (lWide m f) := .row fun args tup res h w vals hG ha => by
  split at h
  · rename_i e a n
    simp only [Option.some.injEq, Prod.mk.injEq] at h
    obtain ⟨rfl, rfl, hp⟩ := h
    obtain ⟨h1, h2, h3, h4, h5, h6⟩ := propB_ok.mp hp
    obtain ⟨n, rfl⟩ := Int.eq_ofNat_of_zero_le h3
    obtain ⟨a, rfl⟩ := Int.eq_ofNat_of_zero_le h5
    rw [Int.toNat_natCast, Int.toNat_natCast]
    match vals, ha with
    | [u, v, x], ha => exact wide_ret m f a n (by omega) h2 (by omega) w [u, v, x] ⟨InB.it ha.1 h1, ha.2⟩
    | [], ha => exact ha.elim
    | [_], ha => exact ha.2.elim
    | [_, _], ha => exact ha.2.2.elim
    | _ :: _ :: _ :: _ :: _, ha => exact ha.2.2.2.elim
  · cases h
theorem envU10_ok (m : Nat) (f : Nat → It) : CallOk (envU10 m f) := envk_ok (nw := true) (.none _ _) (.none _ _) (lWide_ok m f)
/-- Any list of these items, however long. -/
def isIt0 (e : LE) (n : Nat) (f : Nat → It) : Prop := e.size = 10 ∧ e.n = n ∧ ∀ j, j < n → e.el j = itC (f j)
theorem isIt0_self (n : Nat) (f : Nat → It) : isIt0 (itE n f) n f := ⟨rfl, rfl, fun _ _ => rfl⟩
theorem InB.it0 {B : Nat} {w : World} {e : LE} {v : Value} {n : Nat} {f : Nat → It} (h : InB B w e v) (he : isIt0 e n f) : InB B w (itE n f) v := by
  obtain ⟨h1, h2, h3⟩ := he
  subst h2
  obtain ⟨_, a, cap, hv, hcap, hc⟩ := h
  refine ⟨⟨by show 0 < 10; decide, fun j hj => ⟨rfl, rfl⟩⟩, a, cap, hv, hcap, fun hp => ?_⟩
  obtain ⟨b, off, ha, hb, hcell⟩ := hc hp
  refine ⟨b, off, ha, hb, fun j hj o c ho => ?_⟩
  have := hcell j hj o c (by rw [h3 j hj]; exact ho)
  rw [h1] at this
  exact this
def smallU (m : Nat) (a n : Int) : Prop := m ≤ 60 ∧ 0 ≤ n ∧ n ≤ 1200 ∧ 0 ≤ a ∧ a ≤ m
theorem lawUnit_no (m : Nat) (f : Nat → It) (a n : Int) (hs : ¬ smallU m a n) (w : World) (vals : List Value) (ha : ArgsOk w [.inr (itE m f), .inl (.int .i64 a), .inl (.int .i64 n)] vals) : LRet Try.prog 6 vals false [.inl (.tuple #[.slice none 0 0, .bool false])] w := by
  unfold smallU at hs
  by_cases c0 : ((m : Int) > 60)
  · exact fn_ok (envU10_ok m f) (fuel := 1000) (d := 10) (plan := []) (orc := [true]) (fls := [[], [true], [true]]) (l := [(decide ((m : Int) > 60), true)]) (tr := []) (by kernel_rfl) (all_cons (ob_yes c0) <| all_nil) Try.func6 w vals (GlobOk.none w) ha fun t ht => by cases ht
  by_cases c1 : (n < 0)
  · exact fn_ok (envU10_ok m f) (fuel := 1000) (d := 10) (plan := []) (orc := [false, true]) (fls := [[], [true], [true]]) (l := [(decide (n < 0), true), (decide ((m : Int) > 60), false)]) (tr := []) (by kernel_rfl) (all_cons (ob_yes c1) <| all_cons (ob_no c0) <| all_nil) Try.func6 w vals (GlobOk.none w) ha fun t ht => by cases ht
  by_cases c2 : (n > 1200)
  · exact fn_ok (envU10_ok m f) (fuel := 1000) (d := 10) (plan := []) (orc := [false, false, true]) (fls := [[], [true], [true]]) (l := [(decide (n > 1200), true), (decide (n < 0), false), (decide ((m : Int) > 60), false)]) (tr := []) (by kernel_rfl) (all_cons (ob_yes c2) <| all_cons (ob_no c1) <| all_cons (ob_no c0) <| all_nil) Try.func6 w vals (GlobOk.none w) ha fun t ht => by cases ht
  by_cases c3 : (a < 0)
  · exact fn_ok (envU10_ok m f) (fuel := 1000) (d := 10) (plan := []) (orc := [false, false, false, true]) (fls := [[], [true], [true]]) (l := [(decide (a < 0), true), (decide (n > 1200), false), (decide (n < 0), false), (decide ((m : Int) > 60), false)]) (tr := []) (by kernel_rfl) (all_cons (ob_yes c3) <| all_cons (ob_no c2) <| all_cons (ob_no c1) <| all_cons (ob_no c0) <| all_nil) Try.func6 w vals (GlobOk.none w) ha fun t ht => by cases ht
  by_cases c4 : (a > (m : Int))
  · exact fn_ok (envU10_ok m f) (fuel := 1000) (d := 10) (plan := []) (orc := [false, false, false, false, true]) (fls := [[], [true], [true]]) (l := [(decide (a > (m : Int)), true), (decide (a < 0), false), (decide (n > 1200), false), (decide (n < 0), false), (decide ((m : Int) > 60), false)]) (tr := []) (by kernel_rfl) (all_cons (ob_yes c4) <| all_cons (ob_no c3) <| all_cons (ob_no c2) <| all_cons (ob_no c1) <| all_cons (ob_no c0) <| all_nil) Try.func6 w vals (GlobOk.none w) ha fun t ht => by cases ht
  exact absurd ⟨by omega, by omega, by omega, by omega, by omega⟩ hs
theorem lawUnit_yes (m : Nat) (f : Nat → It) (a n : Int) (hs : smallU m a n) (w : World) (vals : List Value) (ha : ArgsOk w [.inr (itE m f), .inl (.int .i64 a), .inl (.int .i64 n)] vals) : LRet Try.prog 6 vals true [.inr (owE (m + n.toNat) (widF f a.toNat n.toNat)), .inl (.bool true)] w := by
  obtain ⟨h1, h2, h3, h4, h5⟩ := hs
  exact fn_ok (envU10_ok m f) (fuel := 1000) (d := 10) (plan := []) (orc := [false, false, false, false, false]) (fls := [[], [true], [true]]) (l := [(pre (propB (isItE (itE m f) m f ∧ m ≤ 100000 ∧ 0 ≤ n ∧ n ≤ 100000 ∧ 0 ≤ a ∧ a ≤ (m : Int))), true), (decide (a > (m : Int)), false), (decide (a < 0), false), (decide (n > 1200), false), (decide (n < 0), false), (decide ((m : Int) > 60), false)]) (tr := []) (by kernel_rfl) (all_cons (propB_ok.mpr ⟨isIt_I m f (by omega), by omega, h2, by omega, h4, h5⟩) <| all_cons (ob_no (by omega)) <| all_cons (ob_no (by omega)) <| all_cons (ob_no (by omega)) <| all_cons (ob_no (by omega)) <| all_cons (ob_no (by omega)) all_nil) Try.func6 w vals (GlobOk.none w) ha fun t ht => by cases ht
/-- The law's unit, where it is small enough; where it is not. -/
noncomputable def lUnitY (m : Nat) (f : Nat → It) : LTab := lrow 6 fun args => match args with
  | [.inr e, .inl (.int .i64 a), .inl (.int .i64 n)] => some (true, [.inr (owE (m + n.toNat) (widF f a.toNat n.toNat)), .inl (.bool true)], pre (propB (isItE e m f ∧ smallU m a n)))
  | _ => none
noncomputable def lUnitN (m : Nat) (f : Nat → It) : LTab := lrow 6 fun args => match args with
  | [.inr e, .inl (.int .i64 a), .inl (.int .i64 n)] => some (false, [.inl (.tuple #[.slice none 0 0, .bool false])], pre (propB (isIt0 e m f ∧ ¬ smallU m a n)))
  | _ => none
theorem lUnitY_ok {gl : Gl} (m : Nat) (f : Nat → It) : LTabOk Try.prog gl (lUnitY m f) := .row fun args tup res h w vals hG ha => by
  split at h
  · rename_i e a n
    simp only [Option.some.injEq, Prod.mk.injEq] at h
    obtain ⟨rfl, rfl, hp⟩ := h
    obtain ⟨h1, h2⟩ := propB_ok.mp hp
    match vals, ha with
    | [u, v, x], ha => exact lawUnit_yes m f a n h2 w [u, v, x] ⟨InB.it ha.1 h1, ha.2⟩
    | [], ha => exact ha.elim
    | [_], ha => exact ha.2.elim
    | [_, _], ha => exact ha.2.2.elim
    | _ :: _ :: _ :: _ :: _, ha => exact ha.2.2.2.elim
  · cases h
theorem lUnitN_ok {gl : Gl} (m : Nat) (f : Nat → It) : LTabOk Try.prog gl (lUnitN m f) := .row fun args tup res h w vals hG ha => by
  split at h
  · rename_i e a n
    simp only [Option.some.injEq, Prod.mk.injEq] at h
    obtain ⟨rfl, rfl, hp⟩ := h
    obtain ⟨h1, h2⟩ := propB_ok.mp hp
    match vals, ha with
    | [u, v, x], ha => exact lawUnit_no m f a n h2 w [u, v, x] ⟨InB.it0 ha.1 h1, ha.2⟩
    | [], ha => exact ha.elim
    | [_], ha => exact ha.2.elim
    | [_, _], ha => exact ha.2.2.elim
    | _ :: _ :: _ :: _ :: _, ha => exact ha.2.2.2.elim
  · cases h
end Go.Proofs.Ytohefnfombkkbaa
