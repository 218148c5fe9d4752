/- Open, Walk13. -/
import Derived.Test.YtmaffamhjmlonaaK17
import Derived.Test.YtmaffamhjmlonaaHby13
import Derived.Test.YtmaffamhjmlonaaAwk13
import Derived.Test.YtmaffamhjmlonaaPDecA13
import Derived.Test.YtmaffamhjmlonaaRows
import Derived.WalkKit
import Derived.ProofKit
import Derived.OpenShut
import Derived.ChangeOld
import Derived.Below
set_option linter.unusedVariables false
set_option linter.unusedSimpArgs false
namespace Go.Proofs.Ytmaffamhjmlonaa
open Go.ChangeShapes Go.WideShapes Go.ChangeAt Go.RowKit
def SliceIn (k : IntKind) (w : World) (a : Option Addr) (len cap : Nat) (zs : List Int) : Prop :=
 len <= cap /\ cap <= maxLen /\ zs.length = cap /\ (∀ n ∈ zs, (Lit.int k n).wf = true) /\
   (0 < cap -> ∃ b off, a = some ⟨b, off, none⟩ /\ b < w.heap.size /\ ∀ i, i < cap -> w.cell? ⟨b, off + i, none⟩ = some (.int k (zs.getD i 0)))
section
variable {H : Type} {enc : TypeId × Value -> H} {P : Program} {w : World} {base : Nat} {spare : Nat -> Bool} {held : Bool}
theorem slice_in {t e : TypeId} {k : IntKind} {a : Option Addr} {len cap : Nat} {d : DataW H} {p : List MemPlace} (ht : P.underlying t = some (.slice e)) (he : P.underlying e = some (.int k)) (hC : P.cellsOf e = 1)
   (h : DataW.Trod enc P w 0 (fun _ => true) true t (.slice a len cap) d p) : ∃ zs, SliceIn k w a len cap zs := by
 obtain ⟨fuel, hf⟩ := h
 rcases open_ints ht he hC hf with ⟨hcs, _⟩ | ⟨x, l, c, zs, hcs, _, hl, hm, hz, _, hcell, hwz⟩
 . simp [Value.cells] at hcs
   obtain ⟨rfl, rfl, rfl⟩ := hcs
   exact ⟨[], by omega, by simp, rfl, by simp, fun h => by omega⟩
 . simp [Value.cells] at hcs
   obtain ⟨rfl, rfl, rfl⟩ := hcs
   have hz' : zs.length = cap := by simpa using hz
   refine ⟨zs, hl, hm, hz', hwz, fun hp => ?_⟩
   obtain ⟨b, off, rfl, hc⟩ := ints_at hcell (by omega)
   refine ⟨b, off, rfl, ?_, fun i hi => hc i (by omega)⟩
   have h0 := hc 0 (by omega)
   rcases Nat.lt_or_ge b w.heap.size with hlt | hge
   . exact hlt
   . simp [World.cell?, Array.getElem?_eq_none hge] at h0
end
end Go.Proofs.Ytmaffamhjmlonaa
namespace Go.Proofs.Ytmaffamhjmlonaa
open Go Go.RowKit Sim S2
theorem slice_by {w : World} {a : Option Addr} {len cap : Nat} {zs : List Int} (h : SliceIn .u8 w a len cap zs) : ∃ B : List Int, B.length = len /\ (∀ x ∈ B, 0 <= x /\ x < 256) /\ InB w.heap.size w { byE B with own := false } (.slice a len cap) := by
 obtain ⟨h1, h2, h3, h4, h5⟩ := h
 have hl : (zs.take len).length = len := by rw [List.length_take]; omega
 refine ⟨zs.take len, hl, fun x hx => ?_, ⟨⟨Nat.one_pos, fun j hj => ⟨rfl, rfl⟩⟩, a, cap, ?_, ?_, fun hn => ?_⟩⟩
 . have := h4 x (List.mem_of_mem_take hx)
   simp only [Lit.wf, Bool.and_eq_true, decide_eq_true_eq] at this
   have e0 : IntKind.u8.min = 0 := rfl
   have e1 : IntKind.u8.max = 255 := rfl
   omega
 . show Value.slice a len cap = .slice a (zs.take len).length cap
   rw [hl]
 . show (zs.take len).length <= cap
   omega
 . have hn : 0 < (zs.take len).length := hn
   obtain ⟨b, off, ha, hb, hc⟩ := h5 (by omega)
   refine ⟨b, off, ha, hb, fun j hj x c hx => ?_⟩
   have hj : j < (zs.take len).length := hj
   cases x with
   | zero =>
     have hx : some (Value.int .u8 (((zs.take len)[j]?).getD 0)) = some c := hx
     rw [<- hx]
     have := hc j (by omega)
     show w.cell? ⟨b, off + j * 1 + 0, none⟩ = _
     rw [Nat.mul_one, Nat.add_zero, this, List.getElem?_take_of_lt (by omega), List.getD_eq_getElem?_getD]
   | succ x => cases hx
theorem candDecodes_walk (a : Option Addr) (len cap : Nat) (zs : List Int) (w : World) (h : SliceIn .u8 w a len cap zs) : Ret Try.prog 4 #[.slice a len cap] (.bool true) w := by
 obtain ⟨B, hl, hr, hB⟩ := slice_by h
 exact LRet.plain (candDecodes_ret B (fun h => sameBytes_byE (fun x hx => (hr x hx).1) (by omega)) (fun h => decAny w (by omega) hr) awake_ret _ ⟨hB, trivial⟩)
end Go.Proofs.Ytmaffamhjmlonaa
