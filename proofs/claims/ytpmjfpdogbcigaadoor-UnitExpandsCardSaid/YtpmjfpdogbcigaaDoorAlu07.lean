/- Contracts of package alu (layer 7). -/
import Derived.Test.YtpmjfpdogbcigaaDoorEval07
namespace Go.Proofs.YtpmjfpdogbcigaaDoor
open Go.RowKit Sim S2
set_option linter.unusedVariables false
set_option linter.unusedSimpArgs false

/-- An environment in which sums are cut as the machine cuts them. -/
noncomputable def envw (P : Program) (gl : Nat → Option (List Value)) (c : Tab) (pc : PTab) (lc : LTab) : S2.Env := { envq P gl c pc lc with nowrap := false }
theorem envw_ok {P : Program} {gl : Nat → Option (List Value)} {c : Tab} {pc : PTab} {lc : LTab} (h1 : TabOk P gl c) (h2 : PTabOk P gl pc) (h3 : LTabOk P gl lc) : CallOk (envw P gl c pc lc) := envq_ok h1 h2 h3
noncomputable def env7w : S2.Env := envw Tryd.prog (fun _ => none) noT noP noL
theorem env7w_ok : CallOk env7w := envw_ok (.none _ _) (.none _ _) (.none _ _)
theorem huZ_ex : ∃ f : Int → Int, ∀ v, f v = v % 4294967296 := ⟨_, fun _ => rfl⟩
noncomputable def huZ : Int → Int := Classical.choose huZ_ex
theorem huZ_eq (v : Int) : huZ v = v % 4294967296 := Classical.choose_spec huZ_ex v
theorem wrap32_eq7 (v : Int) : IntKind.i32.wrap v = wrap32 v := by rw [IntKind.wrap_i32]; unfold wrap32; omega
end Go.Proofs.YtpmjfpdogbcigaaDoor
