/- Openers for an argument that is a struct of three slices of integers (an image). -/
import Derived.Test.YtimgongaenpgkaaDoorOpen
import Derived.Test.YtimgongaenpgkaaDoorOpen2
import Derived.Test.YtimgongaenpgkaaDoorRef08
import Derived.Deep.Strs
namespace Go.Proofs.YtimgongaenpgkaaDoor
open Go.RowKit Go.ChangeShapes Go.WideShapes Go.ChangeAt Go.Deep Sim S2
set_option linter.unusedVariables false

theorem sliceIn_inB {k : IntKind} {w : World} {a : Option Addr} {len cap : Nat} {zs : List Int} (h : SliceIn k w a len cap zs) (T : TypeId) (o d p : Bool) : InB w.heap.size w ⟨T, 1, len, fun i => [.int k (zs.getD i 0)], o, d, p⟩ (.slice a len cap) := by
  obtain ⟨h1, h2, h3, h4, h5⟩ := h
  refine ⟨⟨by show 0 < 1; omega, fun j hj => ⟨rfl, rfl⟩⟩, a, cap, rfl, h1, fun hn => ?_⟩
  have hn : 0 < len := hn
  obtain ⟨b, off, ha, hb, hc⟩ := h5 (by omega)
  refine ⟨b, off, ha, hb, fun j hj x c hx => ?_⟩
  have hj : j < len := hj
  cases x with
  | zero =>
    have hx : some (Value.int k (zs.getD j 0)) = some c := hx
    rw [← hx]
    have := hc j (by omega)
    show w.cell? ⟨b, off + j * 1 + 0, none⟩ = _
    rw [Nat.mul_one, Nat.add_zero]; exact this
  | succ x => simp at hx
theorem sliceIn_rng {k : IntKind} {w : World} {a : Option Addr} {len cap : Nat} {zs : List Int} (h : SliceIn k w a len cap zs) (i : Nat) (hi : i < len) : (Lit.int k (zs.getD i 0)).wf = true := by
  obtain ⟨h1, h2, h3, h4, h5⟩ := h
  have hl : i < zs.length := by omega
  rw [List.getD_eq_getElem?_getD, List.getElem?_eq_getElem hl]
  exact h4 _ (List.getElem_mem hl)
section
variable {H : Type} {enc : TypeId × Value → H} {P : Program} {w : World}
/-- A slice's cell. -/
theorem slice_cell {t e : TypeId} {n : Nat} {c : Value} {y : DataW H × List MemPlace} (ht : P.underlying t = some (.slice e)) (h : DataW.trod enc P w 0 (fun _ => true) true n t [c] = some y) : ∃ a len cap, c = .slice a len cap ∧ DataW.Trod enc P w 0 (fun _ => true) true t (.slice a len cap) y.1 y.2 := by
  rcases DataW.trod_slice ht h with ⟨hcs, _⟩ | ⟨a0, len0, cap0, _, _, _, _, hcs, _⟩
  · have hc : c = .slice none 0 0 := by simpa [Value.cells] using hcs
    subst hc
    exact ⟨none, 0, 0, rfl, n, h⟩
  · have hc : c = .slice (some a0) len0 cap0 := by simpa [Value.cells] using hcs
    subst hc
    exact ⟨_, _, _, rfl, n, h⟩
theorem open_slices3 {r : Reach} {b0 : Nat} {t : TypeId} {f0 f1 f2 : Field} {e0 e1 e2 : TypeId} {k0 k1 k2 : IntKind} {v : Value} {d : DataW H} {p : List MemPlace} (ht : P.underlying t = some (.struct #[f0, f1, f2]))
    (u0 : P.underlying f0.type = some (.slice e0)) (u1 : P.underlying f1.type = some (.slice e1)) (u2 : P.underlying f2.type = some (.slice e2)) (i0 : P.underlying e0 = some (.int k0)) (i1 : P.underlying e1 = some (.int k1)) (i2 : P.underlying e2 = some (.int k2))
    (c0 : P.cellsOf e0 = 1) (c1 : P.cellsOf e1 = 1) (c2 : P.cellsOf e2 = 1) (ho : (f0.offset, f1.offset, f2.offset, P.cellsOf f0.type, P.cellsOf f1.type, P.cellsOf f2.type, P.cellsOf t) = (0, 1, 2, 1, 1, 1, 3))
    (hv : Value.okWide P w r b0 t v) (h : DataW.Trod enc P w 0 (fun _ => true) true t v d p) :
    ∃ a0 l0 q0 z0 a1 l1 q1 z1 a2 l2 q2 z2, v = .agg #[.slice a0 l0 q0, .slice a1 l1 q1, .slice a2 l2 q2] ∧ SliceIn k0 w a0 l0 q0 z0 ∧ SliceIn k1 w a1 l1 q1 z1 ∧ SliceIn k2 w a2 l2 q2 z2 := by
  obtain ⟨cs, rfl, hsz⟩ := okWide_struct ht hv
  obtain ⟨fuel, hf⟩ := h
  simp only [Prod.mk.injEq] at ho
  obtain ⟨o0, o1, o2, s0, s1, s2, st⟩ := ho
  obtain ⟨y0, y1, y2, n, _, hl, h0, h1, h2⟩ := trod_struct3 ht hf
  rw [o0, s0] at h0
  rw [o1, s1] at h1
  rw [o2, s2] at h2
  rw [st] at hl
  obtain ⟨x0, x1, x2, hx⟩ : ∃ x0 x1 x2, cs.toList = [x0, x1, x2] := by
    have hl : cs.toList.length = 3 := hl
    match hcs : cs.toList, hl with
    | [x0, x1, x2], _ => exact ⟨x0, x1, x2, rfl⟩
  have hc : (Value.agg cs).cells.toList = [x0, x1, x2] := hx
  rw [hc] at h0 h1 h2
  obtain ⟨a0, l0, q0, rfl, t0⟩ := slice_cell u0 h0
  obtain ⟨a1, l1, q1, rfl, t1⟩ := slice_cell u1 h1
  obtain ⟨a2, l2, q2, rfl, t2⟩ := slice_cell u2 h2
  obtain ⟨z0, k0⟩ := slice_in u0 i0 c0 t0
  obtain ⟨z1, k1⟩ := slice_in u1 i1 c1 t1
  obtain ⟨z2, k2⟩ := slice_in u2 i2 c2 t2
  refine ⟨a0, l0, q0, z0, a1, l1, q1, z1, a2, l2, q2, z2, ?_, k0, k1, k2⟩
  rw [← Array.toArray_toList (xs := cs), hx]
end
/-- What an image's numbers are. -/
structure wfIm (i : Im) : Prop where
  n : i.n ≤ 9223372036854775807
  m : i.m ≤ 9223372036854775807
  h : i.h ≤ 9223372036854775807
  c : ∀ j, j < i.n → 0 ≤ i.c j ∧ i.c j < 4294967296
  d : ∀ j, j < i.m → -9223372036854775808 ≤ i.d j ∧ i.d j ≤ 9223372036854775807
  e : ∀ j, j < i.h → -9223372036854775808 ≤ i.e j ∧ i.e j ≤ 9223372036854775807
theorem im_in {H : Type} {enc : TypeId × Value → H} {w : World} {r : Reach} {b0 : Nat} {v : Value} {d : DataW H} {p : List MemPlace} (hv : Value.okWide Tryd.prog w r b0 25 v) (h : DataW.Trod enc Tryd.prog w 0 (fun _ => true) true 25 v d p) : ∃ i : Im, wfIm i ∧ ∀ o, ArgsOk w [imX o i] [v] := by
  obtain ⟨a0, l0, q0, z0, a1, l1, q1, z1, a2, l2, q2, z2, rfl, k0, k1, k2⟩ := open_slices3 (k0 := .u32) (k1 := .i64) (k2 := .i64) Tryd.underlying25 Tryd.underlying22 Tryd.underlying23 Tryd.underlying23 Tryd.underlying41 Tryd.underlying3 Tryd.underlying3 (by kernel_rfl) (by kernel_rfl) (by kernel_rfl) (by kernel_rfl) hv h
  refine ⟨⟨l0, l1, l2, fun j => z0.getD j 0, fun j => z1.getD j 0, fun j => z2.getD j 0⟩, ⟨?_, ?_, ?_, fun j hj => (by have := bounds_u32 (sliceIn_rng k0 j hj); show 0 ≤ z0.getD j 0 ∧ z0.getD j 0 < 4294967296; omega), fun j hj => bounds_i64 (sliceIn_rng k1 j hj), fun j hj => bounds_i64 (sliceIn_rng k2 j hj)⟩, fun o => ?_⟩
  · have h1 := k0.1; have h2 := k0.2.1; simp only [maxLen] at h2; show l0 ≤ _; omega
  · have h1 := k1.1; have h2 := k1.2.1; simp only [maxLen] at h2; show l1 ≤ _; omega
  · have h1 := k2.1; have h2 := k2.2.1; simp only [maxLen] at h2; show l2 ≤ _; omega
  · exact ⟨⟨_, rfl, sliceIn_inB k0 _ _ _ _, sliceIn_inB k1 _ _ _ _, sliceIn_inB k2 _ _ _ _, trivial⟩, trivial⟩
end Go.Proofs.YtimgongaenpgkaaDoor
