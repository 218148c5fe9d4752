/- Two lists of pairs that are the same. -/
import Derived.Test.YthmmmbfjhfocfaaDoorRefP14
namespace Go.Proofs.YthmmmbfjhfocfaaDoor
open Go Go.RowKit
set_option linter.unusedVariables false
set_option linter.unusedSimpArgs false

/-- The slice v reads as this list of pairs. -/
def RdP (w : World) (v : Value) (l : List (Nat × Nat)) : Prop :=
  ∃ a cap, v = .slice a l.length cap ∧ (0 < l.length → ∃ g, a = some ⟨g, 0, none⟩ ∧ ∀ i x, l[i]? = some x → w.cell? ⟨g, i * 2, none⟩ = some (.int .i64 x.1) ∧ w.cell? ⟨g, i * 2 + 1, none⟩ = some (.int .i64 x.2))
theorem cellsP_at : ∀ (l : List (Nat × Nat)) (i : Nat) (x : Nat × Nat), l[i]? = some x → (cellsP l)[i * 2]? = some (.int .i64 x.1) ∧ (cellsP l)[i * 2 + 1]? = some (.int .i64 x.2)
  | y :: l, 0, x, h => by
    simp at h; subst h
    exact ⟨rfl, rfl⟩
  | y :: l, i + 1, x, h => by
    have ih := cellsP_at l i x (by simpa using h)
    have e : cellsP (y :: l) = .int .i64 y.1 :: .int .i64 y.2 :: cellsP l := rfl
    rw [e, show (i + 1) * 2 = i * 2 + 2 by omega]
    exact ih
theorem own_rdP {w : World} {base : Nat} {v : Value} {l : List (Nat × Nat)} (h : w.ownsRow base 23 2 v l.length (cellsP l)) : RdP w v l := by
  rcases h.2 with ⟨rfl, h0⟩ | ⟨g, cap, cur, rfl, _, hg, _, _, _, ht⟩
  · exact ⟨none, 0, by rw [h0], fun h => by omega⟩
  · refine ⟨_, cap, rfl, fun _ => ⟨g, rfl, fun i x hx => ?_⟩⟩
    obtain ⟨h1, h2⟩ := cellsP_at l i x hx
    have hi := (List.getElem?_eq_some_iff.1 hx).1
    rw [← ht, List.getElem?_take_of_lt (by omega)] at h1 h2
    refine ⟨?_, ?_⟩
    · simpa [World.cell?, hg] using h1
    · simpa [World.cell?, hg] using h2
theorem RdP.below {w w' : World} {base : Nat} {v : Value} {l : List (Nat × Nat)} (h : w.ownsRow base 23 2 v l.length (cellsP l)) (hb : Below w.heap.size w w') : w'.ownsRow base 23 2 v l.length (cellsP l) := own_keep h fun g _ hg => hb.block g hg
theorem run_sizeOf' {P : Program} (w : World) {e : TypeId} {ti : TypeInfo} (hi : P.info? e = some ti) (hs : ti.size = 1) : (sizeOf e).run P w = .ok 1 w := by
  simp only [sizeOf, typeInfo, Sem.run_bind, run_program, Result.andThen_ok, hi, Sem.run_pure, hs]
theorem all_range_int : ∀ (xs ys : List Int), xs.length = ys.length → ((List.range xs.length).all fun i => xs.getD i 0 == ys.getD i 0) = (xs == ys)
  | [], [], _ => rfl
  | x :: xs, y :: ys, h => by
    have ih := all_range_int xs ys (by simpa using h)
    rw [List.length_cons, List.range_succ_eq_map, List.all_cons, List.all_map]
    simp only [List.getD_cons_zero, Function.comp_def, List.getD_cons_succ, ih]
    simp [List.cons_beq_cons]
  | [], _ :: _, h => by simp at h
  | _ :: _, [], h => by simp at h
theorem run_equalIn_ints {P : Program} (w : World) (d : Nat) (t e : TypeId) (n : Nat) (k : IntKind) (ht : P.underlying t = some (.array n e)) (he : P.underlying e = some (.int k)) (hsz : ∀ w, (sizeOf e).run P w = .ok 1 w)
    (xs ys : List Int) (hx : xs.length = n) (hy : ys.length = n) :
    (Op.equalIn (d + 2) t (.agg (xs.map (Value.int k)).toArray) (.agg (ys.map (Value.int k)).toArray)).run P w = .ok (xs == ys) w := by
  rw [← all_range_int xs ys (hx.trans hy.symm), hx, List.range_eq_range', Op.equalIn]
  simp only [Sem.run_bind, run_underlying ht, Result.andThen_ok, hsz, Std.Legacy.Range.forIn_eq_forIn_range', Std.Legacy.Range.size, Nat.sub_zero, Nat.add_sub_cancel, Nat.div_one]
  have hl : ∀ i ∈ List.range' 0 n 1, i < n := fun i hi => by simpa using (List.mem_range'_1.1 hi).2
  generalize List.range' 0 n 1 = l at hl ⊢
  induction l with
  | nil => simp
  | cons i l ih =>
    have hi : i < n := hl i (by simp)
    have px : (part e (xs.map (Value.int k)).toArray (i * 1)).run P w = .ok (.int k (xs.getD i 0)) w := by
      simp [part, isAgg, run_underlying he, List.getD, List.getElem?_eq_getElem (show i < xs.length by omega)]
    have py : (part e (ys.map (Value.int k)).toArray (i * 1)).run P w = .ok (.int k (ys.getD i 0)) w := by
      simp [part, isAgg, run_underlying he, List.getD, List.getElem?_eq_getElem (show i < ys.length by omega)]
    have pe : (Op.equalIn (d + 1) e (.int k (xs.getD i 0)) (.int k (ys.getD i 0))).run P w = .ok (xs.getD i 0 == ys.getD i 0) w := run_equalIn_int w d e k k _ _ he
    simp only [List.forIn_cons, Sem.run_bind, px, py, pe, Result.andThen_ok, List.all_cons]
    cases hb : (xs.getD i 0 == ys.getD i 0)
    · simp
    · simp only [Bool.not_true, Bool.false_eq_true, if_false, Sem.run_pure, Result.andThen_ok, Bool.true_and]
      exact ih fun j hj => hl j (by simp [hj])
theorem eq_pair (a b : Int) (w : World) : (Op.equalIn 10000 23 (.agg #[.int .i64 a, .int .i64 b]) (.agg #[.int .i64 a, .int .i64 b])).run Tryd.prog w = .ok true w := by
  obtain ⟨i0, hi0, hz0, hz1, hz2⟩ := info_parts intInfo
  have := run_equalIn_ints (P := Tryd.prog) w 9998 23 3 2 .i64 Tryd.underlying23 Tryd.underlying3 (fun w => run_sizeOf' w hi0 hz1) [a, b] [a, b] rfl rfl
  rw [beq_self_eq_true] at this
  exact this
set_option maxRecDepth 100000 in
set_option maxHeartbeats 2000000 in
theorem same_yes {w : World} {u v : Value} {l : List (Nat × Nat)} (hl : l.length ≤ 9223372036854775807) (hu : RdP w u l) (hv : RdP w v l) : Calls Tryd.prog 13 #[u, v] w (Qt w (.bool true)) := by
  obtain ⟨a, cap, rfl, hu⟩ := hu
  obtain ⟨a', cap', rfl, hv⟩ := hv
  have HU := hid hu
  have HV := hid hv
  clear hu hv
  go_enter Tryd.func13, Tryd.ntmps13
  go_wp2
  go_loopw [5] (fun k wr => ∃ i q : Nat, i ≤ l.length ∧ k = .int .i64 i ∧ wr = w.drewN q) (fun k _ => l.length - (intOf k).toNat)
  case atStart => exact ⟨0, 0, Nat.zero_le _, rfl, rfl⟩
  case round =>
    obtain ⟨i, q, hi, rfl, rfl⟩ := hrel
    by_cases hlt : i < l.length
    · obtain ⟨g, rfl, h1⟩ := HU.out (by omega)
      obtain ⟨g', rfl, h2⟩ := HV.out (by omega)
      obtain ⟨⟨xa, xb⟩, hx⟩ : ∃ x, l[i]? = some x := ⟨l[i], List.getElem?_eq_getElem hlt⟩
      obtain ⟨c1, c2⟩ := h1 i _ hx
      obtain ⟨c3, c4⟩ := h2 i _ hx
      have hi' : ((i : Int)).toNat = i := by omega
      have heq := eq_pair xa xb
      clear h1 h2 hx HU HV
      go_wp2
      go_region
      go_wp2
      go_roundw
      case rel => exact ⟨i + 1, q + 1, by omega, by go_num, rfl⟩
      case measure => simp [intOf]; omega
    · obtain rfl : i = l.length := by omega
      go_wp2
      go_ret
      exact ⟨rfl, q, rfl⟩
end Go.Proofs.YthmmmbfjhfocfaaDoor
