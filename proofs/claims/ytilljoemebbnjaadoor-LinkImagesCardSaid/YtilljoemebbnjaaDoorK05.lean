/- SimV, Mul07. -/
import Derived.Test.YtilljoemebbnjaaDoorS2I
import Derived.Test.YtilljoemebbnjaaDoorK03
import Derived.Test.YtilljoemebbnjaaDoorRef01
set_option linter.unusedVariables false
set_option linter.unusedSimpArgs false
namespace Go.Proofs.YtilljoemebbnjaaDoor.Sim
open Go Go.RowKit
theorem simF_fn {E : S2.Env} {fuel d : Nat} {plan : List S2.Stop} {orc : List Bool} {f : FuncId} {fls : List (List Bool)} {args : List S2.XV} {r : Bool × List S2.XV × List (Bool × Bool) × List S2.Told} (h : S2.simF E fuel d plan orc f fls args = some r) : ∃ fn, E.P.funcs[f]? = some fn := by
 unfold S2.simF at h
 split at h
 . rename_i fn hf; exact ⟨fn, hf⟩
 . cases h
noncomputable def simVal (E : S2.Env) (fuel : Nat) (fl : List (List Bool)) (orc : List Bool) (f : FuncId) (args : List Value) : Option (Value × List (Bool × Bool)) :=
 match S2.simF E fuel 10 [] orc f fl (args.map .inl) with
 | some (false, [.inl v], l, []) => some (v, l)
 | _ => none
theorem simVal_ok {E : S2.Env} (HC : S2.CallOk E) {fuel : Nat} {fls : List (List Bool)} {orc : List Bool} {f : FuncId} {args : List Value} {v : Value} {l : List (Bool × Bool)} (h : simVal E fuel fls orc f args = some (v, l)) (hl : ∀ p ∈ l, p.1 = p.2) (w : World) (hG : GlobOk E.glob w) : Ret E.P f args.toArray v w := by
 unfold simVal at h
 split at h
 . rename_i u l' hs
   simp only [qS, qP] at h
   obtain ⟨rfl, rfl⟩ := h
   obtain ⟨fn, hf⟩ := simF_fn hs
   exact (S2.fn_ok HC hs hl hf w args hG (S2.ArgsOk.plain args) fun t ht => by cases ht).plain
 . cases h
theorem ret {P : Program} {gl : Nat -> Option (List Value)} {c : Tab} (hc : TabOk P gl c) {fuel : Nat} (fls : List (List Bool)) (orc : List Bool) {f : FuncId} {args : List Value} {v : Value} (l : List (Bool × Bool))
   (h : simVal (S2.env P gl c noP S2.noL) fuel fls orc f args = some (v, l)) (hl : ∀ p ∈ l, p.1 = p.2) (w : World) (hG : GlobOk gl w) : Ret P f args.toArray v w :=
 simVal_ok (S2.env_ok hc (.none _ _) (.none _ _)) h hl w hG
theorem retP {P : Program} {gl : Nat -> Option (List Value)} {c : Tab} {pc : PTab} (hc : TabOk P gl c) (hp : PTabOk P gl pc) {fuel : Nat} (fls : List (List Bool)) (orc : List Bool) {f : FuncId} {args : List Value} {v : Value} (l : List (Bool × Bool))
   (h : simVal (S2.env P gl c pc S2.noL) fuel fls orc f args = some (v, l)) (hl : ∀ p ∈ l, p.1 = p.2) (w : World) (hG : GlobOk gl w) : Ret P f args.toArray v w :=
 simVal_ok (S2.env_ok hc hp (.none _ _)) h hl w hG
noncomputable def runs (E : Env) (fuel : Nat) (f : FuncId) (args : Nat -> List Value) (g : Nat -> Value) (n : Nat) : Bool :=
 match simVal (S2.env E.P E.glob E.call noP S2.noL) fuel [] [] f (args n) with
 | some (v, []) => eqV v (g n)
 | _ => false
theorem runs_ret {P : Program} {gl : Nat -> Option (List Value)} {c : Tab} (hc : TabOk P gl c) {fuel : Nat} {f : FuncId} {args : Nat -> List Value} {g : Nat -> Value} {N : Nat}
   (h : (List.range N).all (runs { P := P, glob := gl, call := c } fuel f args g) = true) (n : Nat) (hn : n < N) (w : World) (hG : GlobOk gl w) : Ret P f (args n).toArray (g n) w := by
 have h1 := List.all_eq_true.mp h n (List.mem_range.mpr hn)
 unfold runs at h1
 split at h1
 . rename_i v hs
   rw [<- eqV_eq _ _ h1]
   exact simVal_ok (S2.env_ok hc (.none _ _) (.none _ _)) hs (fun p hp => by cases hp) w hG
 . cases h1
end Go.Proofs.YtilljoemebbnjaaDoor.Sim
namespace Go.Proofs.YtilljoemebbnjaaDoor
open Go.RowKit Sim S2
theorem ret7 {E : S2.Env} (HC : CallOk E) {f : FuncId} {fls : List (List Bool)} {args : List XV} {v : Value} (orc : List Bool) (l : List (Bool × Bool))
   (h : simF E 1000 10 [] orc f fls args = some (false, [.inl v], l, [])) (hl : ∀ p ∈ l, p.1 = p.2) {fn : Func} (hfn : E.P.funcs[f]? = some fn) (w : World) (vals : List Value) (hG : S2.Glob E w) (ha : ArgsOk w args vals) : Ret E.P f vals.toArray v w :=
 (fn_ok HC h hl hfn w vals hG ha fun t ht => by cases ht).plain
def i64C (v : Int) : Bool := decide (-9223372036854775808 <= v /\ v <= 9223372036854775807)
def u64C (v : Int) : Bool := decide (0 <= v /\ v < 18446744073709551616)
theorem i64C_iff {v : Int} : i64C v = true ↔ -9223372036854775808 <= v /\ v <= 9223372036854775807 := by unfold i64C; exact decide_eq_true_iff
theorem u64C_iff {v : Int} : u64C v = true ↔ 0 <= v /\ v < 18446744073709551616 := by unfold u64C; exact decide_eq_true_iff
theorem u64C_wrap (x : Int) : u64C (IntKind.u64.wrap x) = true := by rw [u64C_iff, IntKind.wrap_u64]; omega
end Go.Proofs.YtilljoemebbnjaaDoor
