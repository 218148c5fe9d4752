/- Layer 13: the reference's Bytes, as a contract. -/
import Derived.Test.YtmaffamhjmlonaaBytesF13
import Derived.Test.YtmaffamhjmlonaaBnd13
set_option linter.unusedVariables false
set_option linter.unusedSimpArgs false
namespace Go.Proofs.Ytmaffamhjmlonaa
open Go.RowKit Sim S2
def CnIn (gl : Gl) (c : Cn) : Prop := ∀ j, j < (numL13 gl c).length -> inI (((numL13 gl c)[j]?).getD 0) = true
noncomputable def lByt13 (gl : Gl) : LTab := lrow 13 fun args => match args with
 | [.inl (.agg ⟨[.slice a n c, .slice b m d]⟩)] => some (false, [.inr (byE (bytL gl ⟨a, n, c, b, m, d⟩))], pre (propB (CnOk gl ⟨a, n, c, b, m, d⟩ /\ CnBd gl ⟨a, n, c, b, m, d⟩ /\ CnIn gl ⟨a, n, c, b, m, d⟩)))
 | _ => none
theorem lByt13_ok {gl : Gl} : LTabOk Try.prog gl (lByt13 gl) := .row fun args tup res h w vals hG ha => by
 split at h
 . simp only [qS, qP] at h
   obtain ⟨rfl, rfl, hp⟩ := h
   obtain ⟨h1, h2, h3⟩ := propB_ok.mp hp
   exact refBytes_ret _ h1 h2 h3 w hG vals ha
 . cases h
end Go.Proofs.Ytmaffamhjmlonaa
