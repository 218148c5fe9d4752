/- Whole calls by the evaluator with lists, for what has plain arguments and a plain answer (the names that Sim's own had). -/
import Derived.Test.YtckgpcpcjhomiaaS2I
namespace Go.Proofs.Ytckgpcpcjhomiaa.Sim
open Go Go.RowKit
set_option linter.unusedVariables false
theorem simF_fn {E : S2.Env} {fuel d : Nat} {plan : List S2.Stop} {orc : List Bool} {f : FuncId} {fls : List (List Bool)} {args : List S2.XV} {r : Bool × List S2.XV × List (Bool × Bool) × List S2.Told} (h : S2.simF E fuel d plan orc f fls args = some r) : ∃ fn, E.P.funcs[f]? = some fn := by
  unfold S2.simF at h
  split at h
  · rename_i fn hf; exact ⟨fn, hf⟩
  · cases h
/-- What the call answers, and what the oracle took for true. -/
noncomputable def simVal (E : S2.Env) (fuel : Nat) (fl : List (List Bool)) (orc : List Bool) (f : FuncId) (args : List Value) : Option (Value × List (Bool × Bool)) :=
  match S2.simF E fuel 10 [] orc f fl (args.map .inl) with
  | some (false, [.inl v], l, []) => some (v, l)
  | _ => none
theorem simVal_ok {E : S2.Env} (HC : S2.CallOk E) {fuel : Nat} {fls : List (List Bool)} {orc : List Bool} {f : FuncId} {args : List Value} {v : Value} {l : List (Bool × Bool)} (h : simVal E fuel fls orc f args = some (v, l)) (hl : ∀ p ∈ l, p.1 = p.2) (w : World) (hG : GlobOk E.glob w) : Ret E.P f args.toArray v w := by
  unfold simVal at h
  split at h
  · rename_i u l' hs
    simp only [Option.some.injEq, Prod.mk.injEq] at h
    obtain ⟨rfl, rfl⟩ := h
    obtain ⟨fn, hf⟩ := simF_fn hs
    exact (S2.fn_ok HC hs hl hf w args hG (S2.ArgsOk.plain args) fun t ht => by cases ht).plain
  · cases h
theorem ret {P : Program} {gl : Nat → Option (List Value)} {c : Tab} (hc : TabOk P gl c) {fuel : Nat} (fls : List (List Bool)) (orc : List Bool) {f : FuncId} {args : List Value} {v : Value} (l : List (Bool × Bool))
    (h : simVal (S2.env P gl c noP S2.noL) fuel fls orc f args = some (v, l)) (hl : ∀ p ∈ l, p.1 = p.2) (w : World) (hG : GlobOk gl w) : Ret P f args.toArray v w :=
  simVal_ok (S2.env_ok hc (.none _ _) (.none _ _)) h hl w hG
theorem retP {P : Program} {gl : Nat → Option (List Value)} {c : Tab} {pc : PTab} (hc : TabOk P gl c) (hp : PTabOk P gl pc) {fuel : Nat} (fls : List (List Bool)) (orc : List Bool) {f : FuncId} {args : List Value} {v : Value} (l : List (Bool × Bool))
    (h : simVal (S2.env P gl c pc S2.noL) fuel fls orc f args = some (v, l)) (hl : ∀ p ∈ l, p.1 = p.2) (w : World) (hG : GlobOk gl w) : Ret P f args.toArray v w :=
  simVal_ok (S2.env_ok hc hp (.none _ _)) h hl w hG
/-- The closed call number n answers g n. -/
noncomputable def runs (E : Env) (fuel : Nat) (f : FuncId) (args : Nat → List Value) (g : Nat → Value) (n : Nat) : Bool :=
  match simVal (S2.env E.P E.glob E.call noP S2.noL) fuel [] [] f (args n) with
  | some (v, []) => eqV v (g n)
  | _ => false
theorem runs_ret {P : Program} {gl : Nat → Option (List Value)} {c : Tab} (hc : TabOk P gl c) {fuel : Nat} {f : FuncId} {args : Nat → List Value} {g : Nat → Value} {N : Nat}
    (h : (List.range N).all (runs { P := P, glob := gl, call := c } fuel f args g) = true) (n : Nat) (hn : n < N) (w : World) (hG : GlobOk gl w) : Ret P f (args n).toArray (g n) w := by
  have h1 := List.all_eq_true.mp h n (List.mem_range.mpr hn)
  unfold runs at h1
  split at h1
  · rename_i v hs
    rw [← eqV_eq _ _ h1]
    exact simVal_ok (S2.env_ok hc (.none _ _) (.none _ _)) hs (fun p hp => by cases hp) w hG
  · cases h1
end Go.Proofs.Ytckgpcpcjhomiaa.Sim
