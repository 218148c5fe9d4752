/- Pairs of package rel. -/
import Derived.Test.YthmmmbfjhfocfaaDoorPrs14
import Derived.Maps.AppendAt
namespace Go.Proofs.YthmmmbfjhfocfaaDoor
open Go Go.RowKit
set_option linter.unusedVariables false
set_option linter.unusedSimpArgs false

/-- The cells of a list of pairs. -/
def cellsP (l : List (Nat × Nat)) : List Value := l.flatMap fun x => [.int .i64 x.1, .int .i64 x.2]
theorem cellsP_snoc (l : List (Nat × Nat)) (x : Nat × Nat) : cellsP (l ++ [x]) = cellsP l ++ [.int .i64 x.1, .int .i64 x.2] := by unfold cellsP; rw [List.flatMap_append]; rfl
theorem cellsP_len (l : List (Nat × Nat)) : (cellsP l).length = l.length * 2 := by
  induction l with
  | nil => rfl
  | cons x l ih =>
    unfold cellsP at ih ⊢
    rw [List.flatMap_cons, List.length_append, ih, List.length_cons]; simp; omega
/-- The call makes this list of pairs, its own. -/
def MkP (w : World) (l : List (Nat × Nat)) : Ending → World → Prop := fun e w' => ∃ v, e = .returned v ∧ w'.ownsRow w.heap.size 23 2 v l.length (cellsP l) ∧ Below w.heap.size w w'
theorem pairInfo : (Tryd.prog.info? 23).map (fun i => (i.zero, i.size, i.bytes)) = some (some (.agg #[.int .i64 0, .int .i64 0]), 2, 16) := by kernel_rfl
theorem els_len (f : Nat → Bool) : (els f).length ≤ 512 := by
  unfold els
  exact Nat.le_trans (List.length_filter_le _ _) (by simp)
theorem off_le (m : Nat → Nat → Bool) : ∀ n, off m n ≤ n * 512
  | 0 => by simp [off]
  | n + 1 => by
    have := off_le m n
    have := els_len (m n)
    rw [off_succ]; omega
theorem TzOk.lt {w : World} (h : TzOk w) : 0 < w.heap.size := by
  have h1 := h 0 0 rfl
  obtain ⟨o, ho, _⟩ := cells_of_cell h1
  exact (Array.getElem?_eq_some_iff.1 ho).1
/-- Pair number k. -/
def eP (n : Nat) (m : Nat → Nat → Bool) (k : Nat) : Nat × Nat := ((prs n m)[k]?).getD (0, 0)
theorem eP_of {n : Nat} {m : Nat → Nat → Bool} {k : Nat} {e : Nat × Nat} (h : (prs n m)[k]? = some e) : eP n m k = e := by unfold eP; rw [h]; rfl
theorem cell_two_new (w : World) (x y : Value) (t : TypeId) : ∀ (j : Nat) u, [x, y][j]? = some u → (w.alloc (.cells #[x, y] t)).cell? ((⟨w.heap.size, 0, none⟩ : Addr).add j) = some u := by
  intro j u hj
  have h := Hb.new w #[x, y] t (f := fun i => if i = 0 then x else y) (fun i hi => by
    have hi : i < 2 := hi
    have : i = 0 ∨ i = 1 := by omega
    rcases this with rfl | rfl <;> rfl)
  have h0 := h.cell (i := 0) (by simp)
  have h1 := h.cell (i := 1) (by simp)
  match j, hj with
  | 0, hj => rw [show (⟨w.heap.size, 0, none⟩ : Addr).add 0 = ⟨w.heap.size, 0, none⟩ by simp [Addr.add], h0]; simpa using hj
  | 1, hj => rw [show (⟨w.heap.size, 0, none⟩ : Addr).add 1 = ⟨w.heap.size, 1, none⟩ by simp [Addr.add], h1]; simpa using hj
  | j + 2, hj => simp at hj
/-- What may turn while Pairs goes on. -/
def okP (n0 : Nat) : Nat → TypeId → Prop := fun k t => n0 ≤ k ∧ (t = 22 ∨ t = 23)
theorem Kc.of_grown {ok : Nat → TypeId → Prop} {A B : World} {row : Option Nat} (h : A.grownBy B row) (hr : ∀ k, row = some k → ∃ cs t fz, A.heap[k]? = some (.cells cs t fz) ∧ ok k t) : Kc ok A B := by
  cases row with
  | none => exact Kc.of_fr (U := []) ⟨h.os, h.tape, h.output, h.size, fun k hk _ => h.block k hk (by simp)⟩ (by simp)
  | some r => exact Kc.of_fr (U := [r]) ⟨h.os, h.tape, h.output, h.size, fun k hk hn => h.block k hk (by simpa using hn)⟩ (fun k hk hlt => by
      rw [List.mem_singleton] at hk; subst hk; exact hr k rfl)
theorem row_obj {w : World} {base e size n : Nat} {v : Value} {xs : List Value} (h : w.ownsRow base e size v n xs) : ∀ k, v.ownBlock = some k → base ≤ k ∧ ∃ cs fz, w.heap[k]? = some (.cells cs e fz) := fun k hk => by
  rcases h.2 with ⟨rfl, _⟩ | ⟨g, cap, cur, rfl, hb, hg, _⟩
  · cases hk
  · cases hk; exact ⟨hb, cur, _, hg⟩
set_option maxRecDepth 100000 in
set_option maxHeartbeats 2000000 in
theorem pairs_ret (p : Option Addr) (b0 b1 n : Nat) (m : Nat → Nat → Bool) (w : World) (h : RelP w p b0 b1 n m) (hG : TzOk w) :
    Calls Tryd.prog 14 #[.pointer p] w (MkP w (prs n m)) := by
  obtain ⟨i0, hi0, hz0, hz1, hz2⟩ := info_parts pairInfo
  have hn5 : n ≤ 512 := by rcases h with ⟨_, h, _⟩ | ⟨_, h⟩; · omega
                           · exact h.n512
  have hlen : (prs n m).length ≤ 262144 := by have := off_le m n; rw [prs_len]; omega
  have HM := hid (fun w => callsIn_wide.1 (pairs_make p w Fence.wide 0 trivial rfl))
  refine (callsIn_wide (n := 9)).1 ?_
  refine callsIn_of_wp_marks Tryd.func14 rfl trivial ?_ rfl
  simp only [Tryd.ntmps14, List.size_toArray, List.length_cons, List.length_nil, Nat.reduceAdd, Nat.reduceSub, Array.replicate_succ, Array.replicate_zero, List.push_toArray, List.append_toArray, List.nil_append, List.cons_append]
  gi_wp2_with ((refine ⟨trivial, ?_⟩; refine (callsIn_wide.2 (HM.out _)).mono ?_; rintro e w3 ⟨rfl, rfl⟩))
  have hB1 : Below w.heap.size w ((w.alloc (.cells #[.slice none 0 0] 22)).alloc (.cells #[.pointer p] 25)) := ((Below.refl _ w).alloc (Nat.le_refl _) _).alloc (by simp) _
  have bl : Boxed ((w.alloc (.cells #[.slice none 0 0] 22)).alloc (.cells #[.pointer p] 25)) w.heap.size 22 (.slice none 0 0) := (Boxed.new w _ _).alloc _
  have bx : Hb ((w.alloc (.cells #[.slice none 0 0] 22)).alloc (.cells #[.pointer p] 25)) (w.heap.size + 1) 25 1 (fun _ => .pointer p) := by
    have := Hb.new (w.alloc (.cells #[.slice none 0 0] 22)) #[.pointer p] 25 (one_at (.pointer p))
    rwa [World.size_alloc] at this
  have r1 := h.below hB1
  have g1 := hG.below hB1
  have s1 : ((w.alloc (.cells #[.slice none 0 0] 22)).alloc (.cells #[.pointer p] 25)).heap.size = w.heap.size + 2 := by simp
  have g0 := hG.lt
  generalize ((w.alloc (.cells #[.slice none 0 0] 22)).alloc (.cells #[.pointer p] 25)) = w1 at hB1 bl bx r1 g1 s1 ⊢
  refine range_outer (pairs1_tells p b0 b1 n m (okP w.heap.size) (w.heap.size + 1) w1 r1 bx g1 (by rintro ⟨_, h⟩; revert h; decide) (fun _ => ⟨by rintro ⟨_, h⟩; revert h; decide, by rintro ⟨_, h⟩; revert h; decide⟩) (fun t => by rintro ⟨h, _⟩; omega) (fun k _ => ⟨by rintro ⟨_, h⟩; revert h; decide, by rintro ⟨_, h⟩; revert h; decide, by rintro ⟨_, h⟩; revert h; decide⟩))
    rfl (enters_of Tryd.func42 (by kernel_rfl) rfl) (fun k x hk => by obtain ⟨e, he, rfl⟩ := List.mem_map.1 (List.mem_of_getElem? hk); rfl)
    (fun k W => (∃ v, Boxed W w.heap.size 22 v ∧ W.ownsRow w.heap.size 23 2 v k (cellsP ((prs n m).take k)) ∧ True) ∧ Below w.heap.size w W) (fun _ _ _ => False)
    (OwnFrom.and ((holdsRow_own w.heap.size w.heap.size 22 23 2 (fun k => k) (fun k => cellsP ((prs n m).take k)) (fun _ _ => True)).from _) (ownFrom_below (Nat.le_refl _) (by omega))) (fun c s A A' row hs _ _ => hs)
    ⟨⟨_, bl, World.ownsRow_nil _ _ _ _, trivial⟩, hB1⟩ (fun k => { tmps := #[.pointer p, undef, .slice none 0 0, .pointer (some ⟨w.heap.size, 0, none⟩), .int .i64 ((eP n m k).1 : Nat), .int .i64 ((eP n m k).2 : Nat), .pointer p, .func (.func 42) #[] #[.pointer (some ⟨w.heap.size + 1, 0, none⟩)], .int .i64 ((eP n m k).1 : Nat), .int .i64 ((eP n m k).2 : Nat), undef, undef, undef, undef, undef, undef, undef], defers := [] }) ?assign ?body ?done ?stop
  case assign =>
    intro l' k x m' W' K hk hK
    obtain ⟨e, he, rfl⟩ : ∃ e : Nat × Nat, (prs n m)[k]? = some e ∧ x = #[.int .i64 e.1, .int .i64 e.2] := by
      rw [List.getElem?_map] at hk
      obtain ⟨e, he, h2⟩ := Option.map_eq_some_iff.1 hk
      exact ⟨e, he, h2.symm⟩
    rw [eP_of he] at hK
    have hsem := @Oper.semAt_some
    gi_wp2
    exact hK
  case body =>
    rintro l' k x m' W' hk hl hr ⟨⟨v, hv, hrow, _⟩, hB⟩
    obtain ⟨e, he⟩ : ∃ e : Nat × Nat, (prs n m)[k]? = some e := by
      rw [List.getElem?_map] at hk
      obtain ⟨e, he, h2⟩ := Option.map_eq_some_iff.1 hk
      exact ⟨e, he⟩
    have hk2 := (List.getElem?_eq_some_iff.1 he).1
    have htk : (prs n m).take (k + 1) = (prs n m).take k ++ [e] := by
      obtain ⟨h1, h2⟩ := List.getElem?_eq_some_iff.1 he
      rw [List.take_succ_eq_append_getElem h1, h2]
    rw [eP_of he]
    obtain ⟨ea, eb⟩ := e
    have cv := hv.cell
    have hsem := @Oper.semAt_some
    have Hlen := hid hlen
    have Hrow := hid hrow
    clear hlen hrow
    gi_wp2_with (gi_at_builtin; refine wpListIn_append_own _ rfl _ _ 22 rfl w.heap.size 23 i0 (.agg #[.int .i64 0, .int .i64 0]) 2 16 Tryd.underlying22 hi0 hz0 hz1 hz2 rfl (by decide) v k (cellsP ((prs n m).take k)) rfl (Hrow.out.alloc _) ⟨W'.heap.size, 0, none⟩ 1 1 [.int .i64 ea, .int .i64 eb] rfl rfl (cell_two_new _ _ _ _) (by simp [Value.oneCell']) (by have := Hlen.out; unfold maxLen; omega) (by have := Hlen.out; omega) (by have := hB.size; simp; omega) ?_; intro v' w1' hown' hgrow _; obtain ⟨g', cap', rfl⟩ := ownsRow_succ hown'; obtain ⟨hv1, hv2, hr2, hk2', hb2⟩ := hv.appended (by decide) Hrow.out hB.size (Nat.le_refl _) hown' hgrow; have hc1 := hv1.cell; have hf1 := hv1.frozen)
    refine ⟨(((Kc.refl (okP w.heap.size) W').alloc _).trans (Kc.of_grown hgrow fun q hq => ?_)).set (p := ⟨w.heap.size, 0, none⟩) (.inl ⟨_, _, _, (show w1'.heap[w.heap.size]? = some (.cells #[v] 22 (0, 0)) from hv1), Nat.le_refl _, .inl rfl⟩) _, ⟨_, hv2, ?_, trivial⟩, hB.trans hb2⟩
    · obtain ⟨h1, cs, fz, h2⟩ := row_obj (Hrow.out.alloc _) q hq
      exact ⟨cs, _, fz, h2, h1, .inr rfl⟩
    · rw [htk, cellsP_snoc]; exact hr2
  case done =>
    rintro D W' hD ⟨⟨v, hv, hrow, _⟩, hB⟩ hd
    rw [List.length_map] at hrow
    rw [List.take_of_length_le (Nat.le_refl _)] at hrow
    have cv := hv.cell
    have Hrow := hid hrow
    clear hrow
    gi_wp2
    refine leave_marks v (fun W => W.ownsRow w.heap.size 23 2 v (prs n m).length (cellsP (prs n m)) ∧ Below w.heap.size w W) (fun _ _ => results_tmp (t := 2) rfl _ _ _) (fun W h => ⟨v, rfl, h⟩) [D] _ (by simp) (fun D' h => by rw [List.mem_singleton.1 h]; exact hd) (fun D' W h hd' hh => ?_) ⟨Hrow.out, hB⟩
    rw [List.mem_singleton.1 h] at hd' ⊢
    exact ⟨ownsRow_putObj hh.1 _ hd' rfl, hh.2.trans (belowK_b (w := w) (Nat.le_refl _) W D _ _ (by omega) hd' rfl rfl)⟩
  case stop =>
    intro D c k W' _ _ h _
    exact h.elim
end Go.Proofs.YthmmmbfjhfocfaaDoor
