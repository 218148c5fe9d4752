/- Openers: slices of anything; slices in structs. No word of the program. -/
import Derived.Test.YtmaffamhjmlonaaK02
import Derived.Test.YtmaffamhjmlonaaK03
import Derived.Deep.Strs
set_option linter.unusedVariables false
set_option linter.unusedSimpArgs false
namespace Go.Proofs.Ytmaffamhjmlonaa
open Go.RowKit Go.ChangeShapes Go.WideShapes Go.ChangeAt Go.Deep Sim S2
section
variable {H : Type} {enc : TypeId × Value -> H} {P : Program} {w : World}
theorem slice_cell {t e : TypeId} {n : Nat} {c : Value} {y : DataW H × List MemPlace} (ht : P.underlying t = some (.slice e)) (h : DataW.trod enc P w 0 (fun _ => true) true n t [c] = some y) : ∃ a len cap, c = .slice a len cap /\ DataW.Trod enc P w 0 (fun _ => true) true t (.slice a len cap) y.1 y.2 := by
 rcases DataW.trod_slice ht h with ⟨hcs, _⟩ | ⟨a0, len0, cap0, _, _, _, _, hcs, _⟩
 . have hc : c = .slice none 0 0 := by simpa [Value.cells] using hcs
   subst hc
   exact ⟨none, 0, 0, rfl, n, h⟩
 . have hc : c = .slice (some a0) len0 cap0 := by simpa [Value.cells] using hcs
   subst hc
   exact ⟨_, _, _, rfl, n, h⟩
theorem slice_any {t e : TypeId} {S : Nat} {a : Option Addr} {len cap : Nat} {d : DataW H} {p : List MemPlace} (ht : P.underlying t = some (.slice e)) (hC : P.cellsOf e = S) (hpos : 0 < S)
   (h : DataW.Trod enc P w 0 (fun _ => true) true t (.slice a len cap) d p) :
   len <= cap /\ cap <= maxLen /\ (0 < len -> ∃ b off, a = some ⟨b, off, none⟩ /\ b < w.heap.size /\ ∀ j, j < len -> ∃ cs m y, cs.length = S /\ DataW.trod enc P w 0 (fun _ => true) true m e cs = some y /\ ∀ (o : Nat) c, cs[o]? = some c -> w.cell? ⟨b, off + j * S + o, none⟩ = some c) := by
 obtain ⟨fuel, hf⟩ := h
 rcases DataW.trod_slice ht hf with ⟨hcs, _⟩ | ⟨a0, len0, cap0, elems, rest, m, _, hcs, _, _, hl, hm, hlen, hel, _, _⟩
 . simp [Value.cells] at hcs
   obtain ⟨rfl, rfl, rfl⟩ := hcs
   exact ⟨Nat.le_refl _, by simp, fun h => by omega⟩
 . simp [Value.cells] at hcs
   obtain ⟨rfl, rfl, rfl⟩ := hcs
   refine ⟨hl, hm, fun hp => ?_⟩
   rw [hC] at hel
   have each : ∀ j, j < len -> ∃ cs y, DataW.trod enc P w 0 (fun _ => true) true m e cs = some y /\ cs.length = S /\ ∀ o, o < S -> w.cell? ((a0.add (j * S)).add o) = cs[o]? := by
     intro j hj
     have h0 := hel j hj
     rw [List.getElem?_eq_getElem (by omega), Option.bind_eq_some_iff] at h0
     obtain ⟨cs, hc, hy⟩ := h0
     have hc' : (List.range S).mapM (fun i => w.cell? ((a0.add (j * S)).add i)) = some cs := by
       unfold World.cells? at hc
       simpa using hc
     refine ⟨cs, _, hy, by simpa using mapM_some_length hc', fun o ho => ?_⟩
     exact mapM_some_get hc' o o (by simp [ho])
   obtain ⟨b, off, spot⟩ := a0
   have hspot : spot = none := by
     obtain ⟨cs, y, _, hcl, hc⟩ := each 0 hp
     have h1 := hc 0 hpos
     rw [List.getElem?_eq_getElem (by omega)] at h1
     simpa [Addr.add] using World.cell?_spot h1
   subst hspot
   refine ⟨b, off, rfl, ?_, fun j hj => ?_⟩
   . obtain ⟨cs, y, _, hcl, hc⟩ := each 0 hp
     have h1 := hc 0 hpos
     rw [List.getElem?_eq_getElem (by omega), Go.WideShapes.add_plain, Go.WideShapes.add_plain] at h1
     rcases Nat.lt_or_ge b w.heap.size with hlt | hge
     . exact hlt
     . simp [World.cell?, Array.getElem?_eq_none hge] at h1
   . obtain ⟨cs, y, hy, hcl, hc⟩ := each j hj
     refine ⟨cs, m, y, hcl, hy, fun o c ho => ?_⟩
     have hol : o < S := by
       rw [<- hcl]
       exact (List.getElem?_eq_some_iff.1 ho).1
     have h1 := hc o hol
     rw [Go.WideShapes.add_plain, Go.WideShapes.add_plain, ho] at h1
     exact h1
end
end Go.Proofs.Ytmaffamhjmlonaa
