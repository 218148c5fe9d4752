/- Turned of package rel. -/
import Derived.Test.YthmmmbfjhfocfaaDoorUni14
import Derived.Test.YthmmmbfjhfocfaaDoorPairs14
namespace Go.Proofs.YthmmmbfjhfocfaaDoor
open Go Go.RowKit
set_option linter.unusedVariables false
set_option linter.unusedSimpArgs false

/-- The pairs of a list, turned. -/
def tuL (l : List (Nat × Nat)) : Nat → Nat → Bool := fun a b => decide ((b, a) ∈ l)
theorem tuL_snoc (l : List (Nat × Nat)) (a b : Nat) : addP (tuL l) b a = tuL (l ++ [(a, b)]) := by
  funext x y
  unfold addP tuL
  by_cases hx : x = b
  · subst hx
    rw [updF_same]
    by_cases hy : y = a
    · subst hy; simp
    · rw [show (y == a) = false by simpa using hy, Bool.false_or]
      congr 1
      simp [hy]
  · rw [updF_other _ _ hx]
    congr 1
    simp [hx]
theorem prs_mem {n : Nat} {m : Nat → Nat → Bool} {a b : Nat} (h : (a, b) ∈ prs n m) : m a b = true ∧ a < n := by
  unfold prs at h
  obtain ⟨x, hx, h2⟩ := List.mem_flatMap.1 h
  obtain ⟨y, hy, h3⟩ := List.mem_map.1 h2
  cases h3
  unfold els at hy
  exact ⟨(List.mem_filter.1 hy).2, List.mem_range.1 hx⟩
theorem mem_prs {n : Nat} {m : Nat → Nat → Bool} {a b : Nat} (h : m a b = true) (ha : a < n) (hb : b < 512) : (a, b) ∈ prs n m := by
  unfold prs
  refine List.mem_flatMap.2 ⟨a, List.mem_range.2 ha, List.mem_map.2 ⟨b, ?_, rfl⟩⟩
  unfold els
  exact List.mem_filter.2 ⟨List.mem_range.2 hb, h⟩
theorem tuL_all {n : Nat} {m : Nat → Nat → Bool} (hn : n ≤ 512) (hm : ∀ a b, m a b = true → a < n ∧ b < n) : tuL (prs n m) = fun a b => m b a := by
  funext a b
  unfold tuL
  cases h : m b a
  · exact decide_eq_false fun hc => by rw [(prs_mem hc).1] at h; cases h
  · exact decide_eq_true (mem_prs h (hm _ _ h).1 (by have := (hm _ _ h).2; omega))
set_option maxRecDepth 100000 in
set_option maxHeartbeats 2000000 in
theorem turned_ret {w : World} {p : Option Addr} {b0 b1 n : Nat} {m : Nat → Nat → Bool} (h : RelP w p b0 b1 n m) (hG : TzOk w) : Calls Tryd.prog 21 #[.pointer p] w (MkR w n (fun a b => m b a)) := by
  have HL := hid (len_ret h.v)
  have HN := hid (fun w => new_ret (n : Int) w)
  have hn5 := h.n512
  rw [clN_self n hn5] at HN
  have HM := hid (fun w => callsIn_wide.1 (pairs_make p w Fence.wide 0 trivial rfl))
  have Hh := hid h
  have hG0 := hG.lt
  have HG := hid hG
  clear h hG
  rw [← tuL_all hn5 Hh.out.inn]
  refine (callsIn_wide (n := 9)).1 ?_
  refine callsIn_of_wp_marks Tryd.func21 rfl trivial ?_ rfl
  simp only [Tryd.ntmps21, List.size_toArray, List.length_cons, List.length_nil, Nat.reduceAdd, Nat.reduceSub, Array.replicate_succ, Array.replicate_zero, List.push_toArray, List.append_toArray, List.nil_append, List.cons_append]
  gi_wp2_with (first | (refine ⟨trivial, ?_⟩; refine (callsIn_wide.2 HL.out).mono ?_; rintro e' w0 ⟨rfl, rfl⟩) | (refine ⟨trivial, ?_⟩; refine (callsIn_wide.2 (HN.out _)).mono ?_; rintro e' w2 ⟨d0, d1, rfl, hr2, hd0, hd1, hb2⟩; refine Hid.out ?_))
  have hh2 := Hh.out.below hb2
  have hg2 := HG.out.below hb2
  have hp2 : p ≠ none → b0 ≠ d1 ∧ b1 ≠ d1 := fun hp => by have := Hh.out.lt hp; omega
  have hsz2 := hb2.size
  have hl2 := hr2.hd.lt
  have hl3 := hr2.rows.lt
  refine hid ?_
  gi_wp2_with (refine ⟨trivial, ?_⟩; refine (callsIn_wide.2 (HM.out _)).mono ?_; rintro e' w3 ⟨rfl, rfl⟩)
  have hB1 : Below w0.heap.size w0 ((w2.alloc (.cells #[.pointer (some ⟨d0, 0, none⟩)] 25)).alloc (.cells #[.pointer p] 25)) := (hb2.alloc hsz2 _).alloc (by simp; omega) _
  have hk1 : Below w2.heap.size w2 ((w2.alloc (.cells #[.pointer (some ⟨d0, 0, none⟩)] 25)).alloc (.cells #[.pointer p] 25)) := ((Below.refl _ w2).alloc (Nat.le_refl _) _).alloc (by simp) _
  have bl : Hb ((w2.alloc (.cells #[.pointer (some ⟨d0, 0, none⟩)] 25)).alloc (.cells #[.pointer p] 25)) w2.heap.size 25 1 (fun _ => .pointer (some ⟨d0, 0, none⟩)) := (Hb.new w2 #[.pointer (some ⟨d0, 0, none⟩)] 25 (one_at _)).alloc _
  have bx : Hb ((w2.alloc (.cells #[.pointer (some ⟨d0, 0, none⟩)] 25)).alloc (.cells #[.pointer p] 25)) (w2.heap.size + 1) 25 1 (fun _ => .pointer p) := by
    have := Hb.new (w2.alloc (.cells #[.pointer (some ⟨d0, 0, none⟩)] 25)) #[.pointer p] 25 (one_at (.pointer p))
    rwa [World.size_alloc] at this
  have r1 := hh2.below hk1
  have t1 := hr2.below hk1
  have g1 := hg2.below hk1
  have s1 : ((w2.alloc (.cells #[.pointer (some ⟨d0, 0, none⟩)] 25)).alloc (.cells #[.pointer p] 25)).heap.size = w2.heap.size + 2 := by simp
  generalize ((w2.alloc (.cells #[.pointer (some ⟨d0, 0, none⟩)] 25)).alloc (.cells #[.pointer p] 25)) = w1 at hB1 bl bx r1 t1 g1 s1 ⊢
  clear hk1 hh2 hg2 hr2 hb2
  refine range_outer (pairs1_tells p b0 b1 n m (fun k _ => k = d1) (w2.heap.size + 1) w1 r1 bx g1 (by omega) hp2 (fun t => by omega) (fun k hk => ⟨by omega, by omega, by omega⟩))
    rfl (enters_of Tryd.func42 (by kernel_rfl) rfl) (fun k x hk => by obtain ⟨e, he, rfl⟩ := List.mem_map.1 (List.mem_of_getElem? hk); rfl)
    (fun k W => (RelC W d0 d1 n (tuL ((prs n m).take k)) ∧ Hb W w2.heap.size 25 1 (fun _ => .pointer (some ⟨d0, 0, none⟩))) ∧ Below w0.heap.size w0 W) (fun _ _ _ => False)
    (OwnFrom.and (fun s W W' row hs hg hr => ⟨own_relC hs.1 hg hr, ownFrom_hb w1.heap.size _ _ _ _ () W W' row hs.2 hg hr⟩) (ownFrom_below (Nat.le_refl _) (by omega))) (fun c s A A' row hs _ _ => hs)
    ⟨⟨t1, bl⟩, hB1⟩ (fun k => { tmps := #[.pointer p, undef, .pointer none, .pointer (some ⟨w2.heap.size, 0, none⟩), .int .i64 ((eP n m k).1 : Nat), .int .i64 ((eP n m k).2 : Nat), .pointer p, .int .i64 n, .pointer (some ⟨d0, 0, none⟩), .pointer p, .func (.func 42) #[] #[.pointer (some ⟨w2.heap.size + 1, 0, none⟩)], .int .i64 ((eP n m k).1 : Nat), .int .i64 ((eP n m k).2 : Nat), undef, undef, undef, undef, undef], defers := [] }) ?assign ?body ?done ?stop
  case assign =>
    intro l' k x m' W' K hk hK
    obtain ⟨e, he, rfl⟩ : ∃ e : Nat × Nat, (prs n m)[k]? = some e ∧ x = #[.int .i64 e.1, .int .i64 e.2] := by
      rw [List.getElem?_map] at hk
      obtain ⟨e, he, h2⟩ := Option.map_eq_some_iff.1 hk
      exact ⟨e, he, h2.symm⟩
    rw [eP_of he] at hK
    have hsem := @Oper.semAt_some
    gi_wp2
    exact hK
  case body =>
    rintro l' k x m' W' hk hl hr ⟨⟨hr', hbl⟩, hB⟩
    obtain ⟨e, he⟩ : ∃ e : Nat × Nat, (prs n m)[k]? = some e := by
      rw [List.getElem?_map] at hk
      obtain ⟨e, he, h2⟩ := Option.map_eq_some_iff.1 hk
      exact ⟨e, he⟩
    have htk : (prs n m).take (k + 1) = (prs n m).take k ++ [e] := by
      obtain ⟨h1, h2⟩ := List.getElem?_eq_some_iff.1 he
      rw [List.take_succ_eq_append_getElem h1, h2]
    rw [eP_of he]
    obtain ⟨ea, eb⟩ := e
    obtain ⟨hm, hea⟩ := prs_mem (List.mem_of_getElem? he)
    have heb := (Hh.out.inn _ _ hm).2
    have cb := hbl.cell (i := 0) (by omega)
    have HA := hid (addYes_ret hr' heb hea)
    rw [tuL_snoc, ← htk] at HA
    have Hr' := hid hr'
    clear hr'
    have hsem := @Oper.semAt_some
    gi_wp2_with (refine ⟨trivial, (fun h => by cases h), ?_⟩; refine (CallsIn.inRound l' (callsIn_wide.2 HA.out)).mono ?_; rintro e' w4 ⟨rfl, hr4, hf4⟩; refine Hid.out ?_)
    have hsz := hB.size
    have hbl4 := hbl.fr hf4 (by simp; omega)
    have hB4 := Fr.below hB hf4 hB.size (by simpa using hd1)
    obtain ⟨cs, fz, hobj⟩ := Hr'.out.rows.obj
    have hk4 : Kc (fun k _ => k = d1) W' w4 := Kc.of_fr hf4 (fun k hk _ => by rw [List.mem_singleton.1 hk]; exact ⟨cs, _, fz, hobj, rfl⟩)
    refine hid ?_
    gi_wp2
    exact ⟨hk4, ⟨hr4, hbl4⟩, hB4⟩
  case done =>
    rintro D W' hD ⟨⟨hr', hbl⟩, hB⟩ hd
    rw [List.length_map, List.take_of_length_le (Nat.le_refl _)] at hr'
    have cb := hbl.cell (i := 0) (by omega)
    have Hr' := hid hr'
    clear hr'
    gi_wp2
    refine leave_marks (.pointer (some ⟨d0, 0, none⟩)) (fun W => RelC W d0 d1 n (tuL (prs n m)) ∧ Below w0.heap.size w0 W) (fun _ _ => results_tmp (t := 2) rfl _ _ _) (fun W h => ⟨d0, d1, rfl, h.1, hd0, hd1, h.2⟩) [D] _ (by simp) (fun D' h => by rw [List.mem_singleton.1 h]; exact hd) (fun D' W h hd' hh => ?_) ⟨Hr'.out, hB⟩
    rw [List.mem_singleton.1 h] at hd' ⊢
    exact ⟨own_relC (B := 0) hh.1 (grownBy_putObj' W D (.deferred none)) (fun r e => by cases e; exact ⟨Nat.zero_le _, _, hd', rfl⟩), hh.2.trans (belowK_b (w := w0) (Nat.le_refl _) W D _ _ (by omega) hd' rfl rfl)⟩
  case stop =>
    intro D c k W' _ _ h _
    exact h.elim
end Go.Proofs.YthmmmbfjhfocfaaDoor
