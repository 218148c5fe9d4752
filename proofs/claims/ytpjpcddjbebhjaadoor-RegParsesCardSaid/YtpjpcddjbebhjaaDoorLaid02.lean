/- What the tied table of ABI names gives the walks. -/
import Derived.Test.YtpjpcddjbebhjaaDoorReg
import Derived.ProofKit
import Derived.LaidMore
import Derived.OpenShut
namespace Go.Proofs.YtpjpcddjbebhjaaDoor
open Go.ChangeShapes Go.WideShapes Go.ChangeAt Go.RowKit

theorem gAbi : Tryd.prog.globalNamed "spinnaker/reg.abi" = some 0 := by kernel_rfl
theorem tAbi : (Tryd.prog.globals[0]?).map (·.type) = some 43 := by kernel_rfl
theorem laidAbi {H : Type} : (Rows.laid_spinnaker_reg_abi : DataW H) = .agg (useL.map fun s => .lit (.string s.data.toList)) := by rfl
theorem abi_of_laid {W : World} (h : laidMetH Tryd.prog [("spinnaker/reg.abi", Rows.laid_spinnaker_reg_abi)] W) : AbiIs W ∧ 0 < W.heap.size := by
  rw [MakeChecks.laidMetH_plain _ _ _ (by kernel_rfl)] at h
  obtain ⟨ps, ⟨g0, t0, cs0, f0, p0, q0, hg0, ht0, hv0, hd0, _⟩, _, _⟩ := h
  obtain rfl := Option.some.inj (gAbi.symm.trans hg0)
  obtain rfl := Option.some.inj (tAbi.symm.trans ht0)
  obtain ⟨xs, m1, rfl, hx1, hlen, hn, hel⟩ := DataW.trod_array Tryd.underlying43 hd0
  have c1 : Tryd.prog.cellsOf 9 = 1 := by kernel_rfl
  rw [c1] at hel
  rw [laidAbi] at hx1
  simp only [Prod.mk.injEq, DataW.agg.injEq] at hx1
  have hx2 := hx1.1
  have hcell : AbiIs W := fun i hi => by
    have h0 := hel i hi
    have hi2 : i < xs.length := by omega
    rw [List.getElem?_eq_getElem hi2] at h0
    obtain ⟨s, e1, e2, _⟩ := DataW.trod_string Tryd.underlying9 h0
    have h3 : (useL.map fun s => (DataW.lit (.string s.data.toList) : DataW Unit))[i]? = (xs.map (·.1))[i]? := by rw [hx2]
    have hL : useL.length = 32 := by decide +kernel
    have hi3 : i < useL.length := by omega
    rw [List.getElem?_map, List.getElem?_map, List.getElem?_eq_getElem hi2, List.getElem?_eq_getElem hi3, e2] at h3
    simp only [Option.map_some, Option.some.injEq, DataW.lit.injEq, Lit.string.injEq] at h3
    have h4 : s = useS i := by
      have : useS i = useL[i] := by unfold useS; rw [List.getD_eq_getElem?_getD, List.getElem?_eq_getElem hi3]; rfl
      rw [this]; exact (Go.WideShapes.bytes_inj h3).symm
    have h5 := World.var?_cell hg0 hv0 i
    rw [h5]
    have h6 : (cs0.toList.drop (i * 1)).take 1 = [Value.string s] := e1
    rw [Nat.mul_one] at h6
    have h7 : cs0.toList[i]? = some (.string s) := by
      have : ((cs0.toList.drop i).take 1)[0]? = some (.string s) := by rw [h6]; rfl
      rw [List.getElem?_take, if_pos (by omega), List.getElem?_drop, Nat.add_zero] at this
      exact this
    rw [Array.getElem?_toList] at h7
    rw [h7, h4]
  refine ⟨hcell, ?_⟩
  have h0 := hcell 0 (by omega)
  rcases Nat.lt_or_ge 0 W.heap.size with hlt | hge
  · exact hlt
  · simp [World.cell?, Array.getElem?_eq_none hge] at h0
end Go.Proofs.YtpjpcddjbebhjaaDoor
