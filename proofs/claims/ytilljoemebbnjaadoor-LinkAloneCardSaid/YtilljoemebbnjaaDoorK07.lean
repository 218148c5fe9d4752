/- Wide10, Law10, Lays10. -/
import Derived.Test.YtilljoemebbnjaaDoorK05
import Derived.Test.YtilljoemebbnjaaDoorLay10
set_option linter.unusedVariables false
set_option linter.unusedSimpArgs false
namespace Go.Proofs.YtilljoemebbnjaaDoor
open Go.RowKit Sim S2
theorem LRet.sameL1 {P : Program} {f : FuncId} {vals : List Value} {e e' : LE} {w : World} (h : LRet P f vals false [.inr e] w) (hs : sameE e e') : LRet P f vals false [.inr e'] w := h.mono fun r w' ⟨vs, h1, h2, h3⟩ => by
  obtain ⟨u, rfl, h4⟩ := outOk_l h2
  exact ⟨[u], h1, outOk_one (h4.same hs), h3⟩
end Go.Proofs.YtilljoemebbnjaaDoor
namespace Go.Proofs.YtilljoemebbnjaaDoor
open Go.RowKit Sim S2
def tOpP : Tab := row 86 decI fun x => .int .i64 (oppZ x)
end Go.Proofs.YtilljoemebbnjaaDoor
namespace Go.Proofs.YtilljoemebbnjaaDoor
open Go.RowKit Sim S2
def inI10 (n : Nat) (g : Nat → Int) : LE := ⟨3, 1, n, fun j => [.int .i64 (g j)], false, false, true⟩
def isInts (e : LE) (n : Nat) (g : Nat → Int) : Prop := e.size = 1 ∧ e.n = n ∧ ∀ j, j < n → e.el j = [.int .i64 (g j)]
theorem InB.ints10 {B : Nat} {w : World} {e : LE} {v : Value} {n : Nat} {g : Nat → Int} (h : InB B w e v) (he : isInts e n g) : InB B w (inI10 n g) v := by
  obtain ⟨h1, h2, h3⟩ := he
  subst h2
  obtain ⟨_, a, cap, hv, hcap, hc⟩ := h
  refine ⟨⟨by show 0 < 1; decide, fun j hj => ⟨rfl, rfl⟩⟩, a, cap, hv, hcap, fun hp => ?_⟩
  obtain ⟨b, off, ha, hb, hcell⟩ := hc hp
  refine ⟨b, off, ha, hb, fun j hj o c ho => ?_⟩
  have := hcell j hj o c (by rw [h3 j hj]; exact ho)
  rw [h1] at this
  exact this
noncomputable def lLyP (n : Nat) (f : Nat → It) : LTab := lrow 28 fun args => match args with
  | [.inr e] => some (true, [.inr (wdE (layA f (lgG n f) n n)), .inr (ntE (layN f (lgG n f) n n)), .inl (.int .i64 0)], pre (propB (isItE e n f ∧ n ≤ 1000000 ∧ (∀ j, j < n → wfIt (f j)) ∧ mayU n f = true ∧ fstN (badJ f (lgG n f) n) n = none)))
  | _ => none
noncomputable def lLyF (n : Nat) (f : Nat → It) : LTab := lrow 28 fun args => match args with
  | [.inr e] => some (false, [.inl (.tuple #[.slice none 0 0, .slice none 0 0, .int .i64 33])], pre (propB (isItE e n f ∧ n ≤ 1000000 ∧ (∀ j, j < n → wfIt (f j)) ∧ mayU n f = true ∧ fstN (badJ f (lgG n f) n) n ≠ none)))
  | _ => none
end Go.Proofs.YtilljoemebbnjaaDoor
