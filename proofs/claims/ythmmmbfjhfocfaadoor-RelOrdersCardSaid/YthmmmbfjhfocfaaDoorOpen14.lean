/- The opener for a slice of pairs of ints, and what the tied table gives. -/
import Derived.Test.YthmmmbfjhfocfaaDoorBth14
import Derived.Test.YthmmmbfjhfocfaaDoorLaidKit
import Derived.WalkKit
import Derived.ProofKit
import Derived.OpenShut
import Derived.ChangeOld
namespace Go.Proofs.YthmmmbfjhfocfaaDoor
open Go.ChangeShapes Go.WideShapes Go.ChangeAt Go.RowKit
set_option linter.unusedVariables false
set_option linter.unusedSimpArgs false

theorem pairs_in {H : Type} {enc : TypeId × Value → H} {P : Program} {w : World} {t e f : TypeId} {a : Option Addr} {len cap : Nat} {d : DataW H} {p : List MemPlace} (ht : P.underlying t = some (.slice e)) (he : P.underlying e = some (.array 2 f)) (hf : P.underlying f = some (.int .i64)) (hC : P.cellsOf e = 2) (hc : P.cellsOf f = 1)
    (h : DataW.Trod enc P w 0 (fun _ => true) true t (.slice a len cap) d p) : ∃ x y, PIn w a len cap x y := by
  obtain ⟨fuel, hfu⟩ := h
  rcases DataW.trod_slice ht hfu with ⟨hcs, _⟩ | ⟨a0, len0, cap0, elems, rest, m, _, hcs, _, _, hl, hm, hlen, hel, _, _⟩
  · simp [Value.cells] at hcs
    obtain ⟨rfl, rfl, rfl⟩ := hcs
    exact ⟨fun _ => 0, fun _ => 0, Nat.le_refl _, by simp, fun h => by omega⟩
  · simp [Value.cells] at hcs
    obtain ⟨rfl, rfl, rfl⟩ := hcs
    rw [hC] at hel
    have each : ∀ j, j < len → ∃ x y : Int, w.cell? ((a0.add (j * 2)).add 0) = some (.int .i64 x) ∧ w.cell? ((a0.add (j * 2)).add 1) = some (.int .i64 y) := by
      intro j hj
      have h0 := hel j hj
      rw [List.getElem?_eq_getElem (by omega), Option.bind_eq_some_iff] at h0
      obtain ⟨cs, hcc, hy⟩ := h0
      have hc' : (List.range 2).mapM (fun i => w.cell? ((a0.add (j * 2)).add i)) = some cs := by
        unfold World.cells? at hcc
        simpa using hcc
      have hcl : cs.length = 2 := by simpa using mapM_some_length hc'
      obtain ⟨xs, m', _, _, _, hxl, hall⟩ := DataW.trod_array he hy
      rw [hc] at hall
      match xs, hxl, cs, hcl with
      | [y0, y1], _, [c0, c1], _ =>
        have e0 := hall 0 (by omega)
        have e1 := hall 1 (by omega)
        simp [Value.cells] at e0 e1
        obtain ⟨n0, h0, _, w0⟩ := DataW.trod_int hf e0
        obtain ⟨n1, h1, _, w1⟩ := DataW.trod_int hf e1
        simp at h0 h1
        have g0 := mapM_some_get hc' 0 0 (by simp)
        have g1 := mapM_some_get hc' 1 1 (by simp)
        exact ⟨n0, n1, by rw [g0]; simp [h0], by rw [g1]; simp [h1]⟩
    refine ⟨fun j => if hj : j < len then (each j hj).choose else 0, fun j => if hj : j < len then (each j hj).choose_spec.choose else 0, hl, hm, fun hp => ?_⟩
    obtain ⟨b, off, spot⟩ := a0
    have hspot : spot = none := by
      obtain ⟨x, y, h1, h2⟩ := each 0 hp
      simpa [Addr.add] using World.cell?_spot h1
    subst hspot
    refine ⟨b, off, rfl, ?_, fun j hj => ?_⟩
    · obtain ⟨x, y, h1, h2⟩ := each 0 hp
      rw [Go.WideShapes.add_plain, Go.WideShapes.add_plain] at h1
      rcases Nat.lt_or_ge b w.heap.size with hlt | hge
      · exact hlt
      · simp [World.cell?, Array.getElem?_eq_none hge] at h1
    · have h1 := (each j hj).choose_spec.choose_spec
      simp only [dif_pos hj]
      refine ⟨?_, ?_⟩
      · exact (congrArg w.cell? (show (⟨b, off + j * 2, none⟩ : Addr) = ((⟨b, off, none⟩ : Addr).add (j * 2)).add 0 by rw [Go.WideShapes.add_plain, Go.WideShapes.add_plain, Nat.add_zero])).trans h1.1
      · exact (congrArg w.cell? (show (⟨b, off + j * 2 + 1, none⟩ : Addr) = ((⟨b, off, none⟩ : Addr).add (j * 2)).add 1 by rw [Go.WideShapes.add_plain, Go.WideShapes.add_plain])).trans h1.2
def gl14 : Nat → Option (List Value) := fun g => bif Nat.beq g 0 then some (tzL.map (Value.int .u8)) else none
def tab14 : List (Nat × List Value) := [(0, tzL.map (Value.int .u8))]
theorem gl14_mem (g : Nat) (cs : List Value) (h : gl14 g = some cs) : (g, cs) ∈ tab14 := by
  unfold gl14 at h
  cases hb : Nat.beq g 0
  · rw [hb] at h; cases h
  · rw [hb] at h
    simp only [cond_true, Option.some.injEq] at h
    subst h
    rw [Nat.eq_of_beq_eq_true hb]
    exact List.mem_cons_self
theorem tz_of_laid {W : World} (h : laidMetH Tryd.prog [("math/bits.deBruijn64tab", Rows.laid_math_bits_deBruijn64tab)] W) : TzOk W := fun i v hv => by
  have hg := globs_of_laid (k := 5) (tab := tab14) (gl := gl14) (by kernel_rfl) (by kernel_rfl) gl14_mem h 0 (tzL.map (Value.int .u8)) (by kernel_rfl)
  exact hg.1 i _ (by rw [List.getElem?_map, hv]; rfl)
end Go.Proofs.YthmmmbfjhfocfaaDoor
