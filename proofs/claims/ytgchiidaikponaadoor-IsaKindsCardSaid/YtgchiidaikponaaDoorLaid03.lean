/- What the tied table of the operations' names gives the walks. -/
import Derived.Test.YtgchiidaikponaaDoorRef03
import Derived.ProofKit
import Derived.LaidMore
import Derived.OpenShut
namespace Go.Proofs.YtgchiidaikponaaDoor
open Sim Go.ChangeShapes Go.WideShapes Go.ChangeAt Go.RowKit

theorem gNames : Tryd.prog.globalNamed "spinnaker/isa.names" = some 0 := by kernel_rfl
theorem tNames : (Tryd.prog.globals[0]?).map (·.type) = some 37 := by kernel_rfl
theorem laidNames {H : Type} : (Rows.laid_spinnaker_isa_names : DataW H) = .agg (opL.map fun s => .lit (.string s.data.toList)) := by rfl
theorem names_of_laid {W : World} (h : laidMetH Tryd.prog [("spinnaker/isa.names", Rows.laid_spinnaker_isa_names)] W) : GlobOk namesGl W := by
  rw [MakeChecks.laidMetH_plain _ _ _ (by kernel_rfl)] at h
  obtain ⟨ps, ⟨g0, t0, cs0, f0, p0, q0, hg0, ht0, hv0, hd0, _⟩, _, _⟩ := h
  obtain rfl := Option.some.inj (gNames.symm.trans hg0)
  obtain rfl := Option.some.inj (tNames.symm.trans ht0)
  obtain ⟨xs, m1, rfl, hx1, hlen, hn, hel⟩ := DataW.trod_array Tryd.underlying37 hd0
  have c1 : Tryd.prog.cellsOf 9 = 1 := by kernel_rfl
  rw [c1] at hel
  rw [laidNames] at hx1
  simp only [Prod.mk.injEq, DataW.agg.injEq] at hx1
  have hx2 := hx1.1
  have hcell : NamesIs W := fun i hi => by
    have h0 := hel i hi
    have hi2 : i < xs.length := by omega
    rw [List.getElem?_eq_getElem hi2] at h0
    obtain ⟨s, e1, e2, _⟩ := DataW.trod_string Tryd.underlying9 h0
    have h3 : (opL.map fun s => (DataW.lit (.string s.data.toList) : DataW Unit))[i]? = (xs.map (·.1))[i]? := by rw [hx2]
    have hL : opL.length = 88 := by decide +kernel
    have hi3 : i < opL.length := by omega
    rw [List.getElem?_map, List.getElem?_map, List.getElem?_eq_getElem hi2, List.getElem?_eq_getElem hi3, e2] at h3
    simp only [Option.map_some, Option.some.injEq, DataW.lit.injEq, Lit.string.injEq] at h3
    have h4 : s = opS i := by
      have : opS i = opL[i] := by unfold opS; rw [List.getD_eq_getElem?_getD, List.getElem?_eq_getElem hi3]; rfl
      rw [this]; exact (Go.WideShapes.bytes_inj h3).symm
    have h5 := World.var?_cell hg0 hv0 i
    rw [h5]
    have h6 : (cs0.toList.drop (i * 1)).take 1 = [Value.string s] := e1
    rw [Nat.mul_one] at h6
    have h7 : cs0.toList[i]? = some (.string s) := by
      have : ((cs0.toList.drop i).take 1)[0]? = some (.string s) := by rw [h6]; rfl
      rw [List.getElem?_take, if_pos (by omega), List.getElem?_drop, Nat.add_zero] at this
      exact this
    rw [Array.getElem?_toList] at h7
    rw [h7, h4]
  exact namesGl_ok hcell
end Go.Proofs.YtgchiidaikponaaDoor
