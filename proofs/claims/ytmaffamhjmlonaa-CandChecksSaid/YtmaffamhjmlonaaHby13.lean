/- Layer 13: a candidate's bytes are bytes. -/
import Derived.Test.YtmaffamhjmlonaaLaw13E
set_option linter.unusedVariables false
set_option linter.unusedSimpArgs false
namespace Go.Proofs.Ytmaffamhjmlonaa
open Go Go.RowKit Sim S2
theorem grB_nn (u : Nat) : ∀ j, ∀ x ∈ grB u j, 0 <= x
 | 0, x, hx => by cases hx
 | j + 1, x, hx => by
   rcases List.mem_append.mp (show x ∈ grB u j ++ [_] from hx) with h | h
   . exact grB_nn u j x h
   . obtain rfl := List.mem_singleton.mp h
     omega
theorem vbL_nn (u : Nat) : ∀ x ∈ vbL u, 0 <= x := fun x hx => by
 unfold vbL at hx
 rcases List.mem_append.mp hx with h | h
 . exact grB_nn u _ x h
 . obtain rfl := List.mem_singleton.mp h
   exact Int.natCast_nonneg _
theorem obL_nn (N : List Int) : ∀ j, ∀ x ∈ obL N j, 0 <= x
 | 0, x, hx => by cases hx
 | j + 1, x, hx => by
   rcases List.mem_append.mp (show x ∈ obL N j ++ vbL _ from hx) with h | h
   . exact obL_nn N j x h
   . exact vbL_nn _ x h
theorem sameBytes_byE {B : List Int} (h : ∀ x ∈ B, 0 <= x) (hl : B.length <= 1000000000000) : sameBytes (byE B) (byE B) := by
 have key : ∀ i, i < B.length -> (byE B).el i = [byteV ((B.map Int.toNat).getD i 0)] := fun i hi => by
   show [Value.int .u8 ((B[i]?).getD 0)] = _
   have h1 := h B[i] (List.getElem_mem hi)
   rw [List.getElem?_eq_getElem hi, List.getD_eq_getElem?_getD, List.getElem?_map, List.getElem?_eq_getElem hi]
   show [Value.int .u8 B[i]] = [Value.int .u8 ((B[i].toNat : Nat) : Int)]
   rw [Int.toNat_of_nonneg h1]
 exact ⟨B.map Int.toNat, rfl, rfl, by rw [List.length_map]; rfl, by rw [List.length_map]; rfl, by rw [List.length_map]; exact hl, fun i hi => by
   rw [List.length_map] at hi
   exact ⟨key i hi, key i hi⟩⟩
theorem bytL_same {gl : Gl} {c : Cn} (sc : CnBd gl c) (hin : CnIn gl c) : sameBytes (byE (bytL gl c)) (byE (bytL gl c)) := by
 refine sameBytes_byE (obL_nn _ _) ?_
 have h1 := obL_len (N := numL13 gl c) hin (numL13 gl c).length (Nat.le_refl _)
 have h2 := numL_len sc
 unfold bytL
 omega
end Go.Proofs.Ytmaffamhjmlonaa
