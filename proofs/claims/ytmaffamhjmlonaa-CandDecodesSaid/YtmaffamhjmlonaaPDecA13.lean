/- Layer 13: what the laws ask of Decode. -/
import Derived.Test.YtmaffamhjmlonaaPDecF13
set_option linter.unusedVariables false
set_option linter.unusedSimpArgs false
namespace Go.Proofs.Ytmaffamhjmlonaa
open Go Go.RowKit Sim S2
theorem nil_row (gl : Gl) {e : LE} (h1 : 0 < e.size) (h2 : e.n = 0) : rowG gl (.slice none 0 0) e :=
 ⟨⟨h1, fun j hj => absurd hj (by omega)⟩, none, 0, by rw [h2], by omega, fun hn => absurd hn (by omega)⟩
def cnNil : Cn := ⟨none, 0, 0, none, 0, 0⟩
theorem nil_ok (gl : Gl) : CnOk gl cnNil := ⟨nil_row gl Nat.one_pos rfl, nil_row gl (show 0 < 2 by decide) rfl, fun i hi => absurd hi (Nat.not_lt_zero _), fun i hi => absurd hi (Nat.not_lt_zero _)⟩
theorem nil_sm (gl : Gl) : CnSm gl cnNil := ⟨Nat.zero_le _, Nat.zero_le _, fun i hi => absurd hi (Nat.not_lt_zero _), fun i hi => absurd hi (Nat.not_lt_zero _)⟩
theorem decAny (W : World) {B : List Int} (hB : B.length <= 1000000000000) (hr : ∀ x ∈ B, 0 <= x /\ x < 256) : DecAny W B := fun w1 vals hG ha => (decode_calls B hB hr w1 vals ha).mono fun e w2 ⟨hb, h⟩ => by
 rcases h with ⟨h1, c, he, c1, c2, c3, c4, c5⟩ | ⟨h1, he⟩
 . obtain ⟨k1, k2⟩ := h1 (frz w2) c c4 c5
   exact ⟨(c, 0), he, hb, c1, c2, .inr ⟨rfl, k1, c3, k2⟩⟩
 . exact ⟨(cnNil, 1), he, hb, nil_ok _, nil_sm _, .inl ⟨rfl, rfl, rfl⟩⟩
end Go.Proofs.Ytmaffamhjmlonaa
