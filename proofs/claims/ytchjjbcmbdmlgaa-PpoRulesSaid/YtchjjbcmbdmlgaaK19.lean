/- Non16, Brg16, Lwa16, Str16. -/
import Derived.Test.YtchjjbcmbdmlgaaK07
import Derived.Test.YtchjjbcmbdmlgaaChc16
import Derived.Test.YtchjjbcmbdmlgaaK08
import Derived.Test.YtchjjbcmbdmlgaaK14
import Derived.Test.YtchjjbcmbdmlgaaK15
import Derived.Test.YtchjjbcmbdmlgaaRfh16
import Derived.Test.YtchjjbcmbdmlgaaK17
import Derived.Test.YtchjjbcmbdmlgaaAwk16
import Derived.Test.YtchjjbcmbdmlgaaAll16
import Derived.Deep.CutBlock
import Derived.Deep.CutRange
set_option linter.unusedVariables false
set_option linter.unusedSimpArgs false
namespace Go.Proofs.Ytchjjbcmbdmlgaa
open Go Go.RowKit
theorem leastR_false (f : Int → Bool) (h : f = fun _ => false) (n k : Nat) : leastR f n k = 0 := leastR_no (fun k => by rw [h]) n k
theorem oneB_0 (E : EvsZ) (a c : Int) : oneB E 0 a c = false := by
  unfold oneB
  by_cases h : a < c
  · by_cases h0 : 0 ≤ a
    · rw [decide_eq_true h0, decide_eq_true h, decide_eq_false (show ¬ c < ((0 : Nat) : Int) by omega)]; rfl
    · rw [decide_eq_false h0]; rfl
  · by_cases h0 : 0 ≤ a
    · rw [decide_eq_true h0, decide_eq_false h]; rfl
    · rw [decide_eq_false h0]; rfl
set_option maxHeartbeats 2000000 in
theorem ppoRule_0 (E : EvsZ) (q : Option Addr) (cap : Nat) (a c : Int) (w : World) :
    Calls Try.prog 7 #[.slice q 0 cap, .int .i64 a, .int .i64 c] w fun x w' => x = .returned (.int .i64 0) ∧ Below w.heap.size w w' := by
  have hL : EvsL w (.slice q 0 cap) 0 E := ⟨_, _, rfl, fun h => by omega⟩
  have hO := hid (oneHart_w hL (by omega) a c)
  rw [oneB_0] at hO
  clear hL
  go_enter Try.func7, Try.ntmps7
  go_wp2_with (go_at_call 18; refine hO.out.mono ?_; rintro x w1 ⟨rfl, hq⟩; have Hq := hid hq; clear hq)
  go_ret
  exact ⟨rfl, below_q Hq.out⟩
set_option maxHeartbeats 4000000 in
set_option maxRecDepth 100000 in
theorem ppoHolds_0 (E : EvsZ) (q : Option Addr) (cap : Nat) (rule a c : Int) (w : World) :
    Calls Try.prog 9 #[.slice q 0 cap, .int .i64 rule, .int .i64 a, .int .i64 c] w fun x w' => x = .returned (.bool false) ∧ Below w.heap.size w w' := by
  have hL : EvsL w.drew (.slice q 0 cap) 0 E := ⟨_, _, rfl, fun h => by omega⟩
  have hd : Below w.heap.size w w.drew := ⟨rfl, rfl, rfl, Nat.le_refl _, fun _ _ => rfl⟩
  have hO := oneHart_w hL (by omega) a c
  rw [oneB_0] at hO
  go_enter Try.func9, Try.ntmps9
  go_upto_region 1 with (fail)
  refine region_takes (fun _ => True) [0, 1, 2] 13 (by rfl) (by kernel_rfl) (by kernel_rfl) (by kernel_rfl) (fun c a d v w h => And.intro (put_nil h.1) h.2) trivial ?_
  iterate 3
    refine take_pure _ rfl (by rfl) (fun W hSW => by (go_simp; with_reducible rfl)) ?_
    simp only [Act.put, List.getElem_toArray, List.getElem_cons_succ, List.getElem_cons_zero, List.setIfInBounds_toArray, List.set_cons_zero, List.set_cons_succ]
  refine take_done ?_
  refine held_call (i := 3) _ (by kernel_rfl) rfl (by rfl) (by go_simp; try exact ⟨rfl, rfl⟩) ?_
  refine hO.mono ?_
  rintro x w1 ⟨rfl, hq⟩
  have hb1 : Below w.heap.size w w1 := hd.trans (below_q hq)
  refine ⟨_, rfl, trivial, ?_⟩
  simp only [Act.put, List.getElem_toArray, List.getElem_cons_succ, List.getElem_cons_zero, List.setIfInBounds_toArray, List.set_cons_zero, List.set_cons_succ]
  refine held_takes (by kernel_rfl) (fun c a d v w h => And.intro (put_nil h.1) h.2) trivial (fuel := 0) [4, 5, 6, 7, 8, 9, 10, 11, 12, 13, 14, 15] _ _ (by kernel_rfl) ?_
  iterate 12
    first
    | refine take_off _ rfl (by rfl) ?_
    | refine take_pure _ rfl (by rfl) (fun W hSW => by (go_simp; try with_reducible rfl)) ?_
    simp only [Act.put, List.getElem_toArray, List.getElem_cons_succ, List.getElem_cons_zero, List.setIfInBounds_toArray, List.set_cons_zero, List.set_cons_succ]
  refine take_done ?_
  refine wpAnyH_done (by kernel_rfl) ?_ _
  have HB := hid hb1
  clear hb1 hq hL hd
  go_wp2
  go_ret
  exact ⟨rfl, HB.out⟩
set_option maxHeartbeats 4000000 in
set_option maxRecDepth 100000 in
theorem refHolds_0 (q : Option Addr) (cap : Nat) (rule a c : Int) (w : World) :
    Calls Try.prog 10 #[.slice q 0 cap, .int .i64 rule, .int .i64 a, .int .i64 c] w fun x w' => x = .returned (.bool false) ∧ Below w.heap.size w w' := by
  go_enter Try.func10, Try.ntmps10
  go_upto_region 1 with (fail)
  go_cut [40] from 18 to 41 (fun s W => s = .bool true ∧ w = W)
  case first =>
    by_cases h1 : a < 0
    · go_wp2
      go_meet
      case rel => exact ⟨rfl, rfl⟩
    by_cases h2 : c < 0
    · go_wp2
      go_meet
      case rel => exact ⟨rfl, rfl⟩
    have h3 : (((0 : Nat) : Int) ≤ a) := by omega
    have h4 : 0 ≤ a := by omega
    go_wp2
    go_meet
    case rel => exact ⟨by first | rfl | simp [*], rfl⟩
  case rest =>
  obtain ⟨rfl, rfl⟩ := hcut
  go_wp2
  go_ret
  exact ⟨rfl, Below.refl _ _⟩
theorem refRule_0 (q : Option Addr) (cap : Nat) (a c : Int) (w : World) :
    Calls Try.prog 8 #[.slice q 0 cap, .int .i64 a, .int .i64 c] w fun x w' => x = .returned (.int .i64 0) ∧ Below w.heap.size w w' :=
  (refRule_of (f := fun _ => false) w (hid fun W hW k => refHolds_0 q cap k a c W)).mono fun x w' h => ⟨by rw [h.1, leastR_false _ rfl], h.2⟩
end Go.Proofs.Ytchjjbcmbdmlgaa
namespace Go.Proofs.Ytchjjbcmbdmlgaa
open Go Go.RowKit
theorem refRule_w {W0 : World} {b0 o0 n : Nat} {E : EvsZ} {nA nD nC : Nat → Nat} {FA FD FC : Nat → Nat → Int} (H : EvsX W0 b0 o0 n E nA nD nC FA FD FC) (HK : ∀ i, i < n → ((E.e i).rd || (E.e i).wr) = true → (E.e i).kn = true) (cap : Nat) (a c : Int) (w : World) (hw : Below W0.heap.size W0 w) :
    Calls Try.prog 8 #[.slice (some ⟨b0, o0, none⟩) n cap, .int .i64 a, .int .i64 c] w fun x w' => x = .returned (.int .i64 (ruleX E n nA nD nC FA FD FC a c)) ∧ Below w.heap.size w w' :=
  refRule_of (f := holdsX E n nA nD nC FA FD FC a c) w (hid fun W hW k => (refHolds_w H HK cap k a c W (hw.trans (hW.mono hw.size))).mono fun x w' h => ⟨h.1, h.2⟩)
theorem ruleOk_of {w : World} {q : Option Addr} {n cap : Nat} {E : EvsZ} (hn : n ≤ 120) (h : EvsOk w (.slice q n cap) n E) : ∃ R G, RuleOk w (.slice q n cap) R G := by
  rcases Nat.eq_zero_or_pos n with h0 | hp
  · subst h0
    exact ⟨fun _ _ => 0, fun _ _ _ => false, fun W hW a c => ppoRule_0 E q cap a c W, fun W hW a c => refRule_0 q cap a c W, fun W hW k a c => ppoHolds_0 E q cap k a c W, fun W hW k a c => refHolds_0 q cap k a c W⟩
  · obtain ⟨b0, o0, cap', nA, nD, nC, FA, FD, FC, e, H, HK, _⟩ := evsX_of h (by omega) hp
    cases e
    exact ⟨ruleX E n nA nD nC FA FD FC, fun k a c => holdsX E n nA nD nC FA FD FC a c k, fun W hW a c => ppoRule_w H cap a c W hW, fun W hW a c => refRule_w H HK cap a c W hW, fun W hW k a c => ppoHolds_w H cap k a c W hW, fun W hW k a c => (refHolds_w H HK cap k a c W hW).mono fun x w' h => ⟨h.1, h.2⟩⟩
end Go.Proofs.Ytchjjbcmbdmlgaa
namespace Go.Proofs.Ytchjjbcmbdmlgaa
open Go Go.RowKit
set_option maxRecDepth 100000 in
set_option maxHeartbeats 2000000 in
theorem all_0 (q : Option Addr) (cap : Nat) (w : World) :
    Calls Try.prog 12 #[.slice q 0 cap] w fun x w' => ∃ r0 r1, x = .returned (.pointer (some ⟨r0, 0, none⟩)) ∧ RelC w' r0 r1 0 (fun _ _ => false) ∧ Below w.heap.size w w' := by
  have HNew := hid (fun W => new_mid 0 (by decide) W)
  refine (callsIn_wide (n := 9)).1 ?_
  refine callsIn_of_wp_marks Try.func12 rfl trivial ?_ rfl
  simp only [Try.ntmps12, List.size_toArray, List.length_cons, List.length_nil, Nat.reduceAdd, Nat.reduceSub, Array.replicate_succ, Array.replicate_zero, List.push_toArray, List.append_toArray, List.nil_append, List.cons_append]
  gi_wp2_with (first
    | (refine ⟨trivial, ?_⟩; refine (callsIn_wide.2 (HNew.out _)).mono ?_; rintro e w1 ⟨r0, r1, rfl, hR, hl0, hl1, hB1⟩; refine Hid.out ?_))
  refine hid ?_
  have hBx : Below w.heap.size w (w1.alloc (.cells #[.pointer (some ⟨r0, 0, none⟩)] 36)) := hB1.alloc (hB1.size) _
  have hBx0 : Below w1.heap.size w1 (w1.alloc (.cells #[.pointer (some ⟨r0, 0, none⟩)] 36)) := (Below.refl _ w1).alloc (Nat.le_refl _) _
  have hX : Hb (w1.alloc (.cells #[.pointer (some ⟨r0, 0, none⟩)] 36)) w1.heap.size 36 1 (fun _ => .pointer (some ⟨r0, 0, none⟩)) := Hb.new w1 #[.pointer (some ⟨r0, 0, none⟩)] 36 (one_at16 _)
  have HL := hid (len_ret ((hR.below hBx0).v))
  gi_wp2_with (refine ⟨trivial, ?_⟩; refine (callsIn_wide.2 HL.out).mono ?_; rintro e w2 ⟨rfl, rfl⟩; refine Hid.out ?_)
  refine hid ?_
  have hS := hR.below hBx0
  have cb := hX.cell (i := 0) (by omega)
  clear hR hX hBx0 HL HNew
  generalize w1.alloc (.cells #[.pointer (some ⟨r0, 0, none⟩)] 36) = w2 at hS hBx cb ⊢
  obtain ⟨rb, hrb⟩ : ∃ rb, rb = w1.heap.size := ⟨_, rfl⟩
  rw [← hrb] at cb ⊢
  clear hrb hl0 hl1 hB1
  have HS := hid hS
  have HB := hid hBx
  clear hS hBx
  gi_wp2
  gi_loopw [13] (fun v wr => v = .int .i64 0 ∧ w2 = wr) (fun _ _ => 0)
  case atStart => exact ⟨rfl, rfl⟩
  case round =>
    obtain ⟨rfl, rfl⟩ := hrel
    gi_wp2
    refine leave_marks (.pointer (some ⟨r0, 0, none⟩)) (fun W => RelC W r0 r1 0 (fun _ _ => false) ∧ Below w.heap.size w W) (fun _ _ => results_tmp (t := 2) rfl _ _ _) (fun W h => ⟨r0, r1, rfl, h.1, h.2⟩) [] _ List.nodup_nil (fun D h => by cases h) (fun D W h hd hh => by cases h) ⟨HS.out, HB.out⟩
def RuleP (R : Int → Int → Int) : Nat → Nat → Bool := fun x y => decide (0 < R x y)
structure AllOk (w : World) (v : Value) (n : Nat) (E : EvsZ) (R : Int → Int → Int) : Prop where
  al : ∀ W, Below w.heap.size w W → Calls Try.prog 12 #[v] W fun x w' => ∃ r0 r1, x = .returned (.pointer (some ⟨r0, 0, none⟩)) ∧ RelC w' r0 r1 n (mP (RuleP R) n []) ∧ Below W.heap.size W w'
  rr : ∀ W, Below w.heap.size w W → ∀ a c, Calls Try.prog 8 #[v, .int .i64 a, .int .i64 c] W (BQ W (.int .i64 (R a c)))
  pos : ∀ a c : Nat, 0 < R a c → a < c ∧ c < n ∧ (E.e a).ht = (E.e c).ht
theorem ruleX_pos {E : EvsZ} {n : Nat} {nA nD nC : Nat → Nat} {FA FD FC : Nat → Nat → Int} {a c : Nat} (h : 0 < ruleX E n nA nD nC FA FD FC a c) : a < c ∧ c < n ∧ (E.e a).ht = (E.e c).ht := by
  unfold ruleX at h
  cases ho : oneB E n (a : Int) (c : Int)
  · rw [leastR_no (fun q => by unfold holdsX; rw [ho]; rfl)] at h
    omega
  · obtain ⟨i', j', ei, ej, h2, h3, h4⟩ := oneB_split ho
    have ei : a = i' := by omega
    have ej : c = j' := by omega
    subst ei ej
    exact ⟨h2, h3, h4⟩
theorem allOk_of {w : World} {q : Option Addr} {n cap : Nat} {E : EvsZ} (hn : n ≤ 120) (h : EvsOk w (.slice q n cap) n E) : ∃ R, AllOk w (.slice q n cap) n E R := by
  rcases Nat.eq_zero_or_pos n with h0 | hp
  · subst h0
    refine ⟨fun _ _ => 0, fun W hW => (all_0 q cap W).mono ?_, fun W hW a c => refRule_0 q cap a c W, fun a c h => by omega⟩
    rintro x w' ⟨r0, r1, rfl, h1, h2⟩
    refine ⟨r0, r1, rfl, ?_, h2⟩
    rw [mP_start]; exact h1
  · obtain ⟨b0, o0, cap', nA, nD, nC, FA, FD, FC, e, H, HK, _⟩ := evsX_of h (by omega) hp
    cases e
    exact ⟨ruleX E n nA nD nC FA FD FC, fun W hW => all_w H (by omega) cap W hW, fun W hW a c => refRule_w H HK cap a c W hW, fun a c h => ruleX_pos h⟩
theorem RelV.below {w w' : World} {v : Value} {n : Nat} {m : Nat → Nat → Bool} (h : RelV w v n m) (hb : Below w.heap.size w w') : RelV w' v n m := by
  rcases h with h | ⟨b0, b1, rfl, h⟩
  · exact .inl h
  · exact .inr ⟨b0, b1, rfl, h.below hb⟩
theorem hasZ_mP {pos : Nat → Nat → Bool} {n a c : Nat} (ha : a < n) (hc : c < n) : hasZ n (mP pos n []) a c = pos a c := by
  unfold hasZ mP
  rw [inE_iff.2 ⟨by omega, by omega⟩, inE_iff.2 ⟨by omega, by omega⟩, Int.toNat_natCast, Int.toNat_natCast, decide_eq_true ha]; simp
end Go.Proofs.Ytchjjbcmbdmlgaa
namespace Go.Proofs.Ytchjjbcmbdmlgaa
open Go Go.RowKit
theorem leastR_some {f : Int → Bool} {j : Nat} (hj : f (j : Int) = true) : ∀ (n k : Nat), 1 ≤ k → k ≤ j → j < k + n → 0 < leastR f n k
  | 0, k, _, h1, h2 => by omega
  | n + 1, k, h0, h1, h2 => by
    unfold leastR
    split
    · omega
    · rename_i hk
      by_cases e : k = j
      · subst e; exact absurd hj hk
      · exact leastR_some hj n (k + 1) (by omega) (by omega) (by omega)
theorem fold_any (f : Nat → Bool) : ∀ (l : List Nat) (x : Bool), l.foldl (fun x m => x || f m) x = (x || l.any f)
  | [], x => by simp
  | m :: r, x => by
    rw [List.foldl_cons, fold_any f r, List.any_cons, Bool.or_assoc]
def fullB (E : EvsZ) (a c : Nat) : Bool := (List.range c).any fun m => decide (a < m) && ((E.e m).i.op == 63 && (E.e m).i.imm == 51)
theorem fullB_start (E : EvsZ) (a : Nat) : fullB E a (a + 1) = false := by
  unfold fullB
  rw [List.any_eq_false]
  intro m hm
  rw [List.mem_range] at hm
  rw [decide_eq_false (by omega)]; simp
theorem fullB_succ (E : EvsZ) {a c : Nat} (h : a < c) : fullB E a (c + 1) = (fullB E a c || ((E.e c).i.op == 63 && (E.e c).i.imm == 51)) := by
  unfold fullB
  rw [List.range_succ, List.any_append, List.any_cons, List.any_nil, decide_eq_true h]; simp
def strB (E : EvsZ) (a c : Nat) : Bool := memB (E.e a) && (memB (E.e c) && (fullB E a c || ((E.e a).i.aq || ((E.e c).i.rl || ((E.e c).wr && (E.e a).addr == (E.e c).addr)))))
structure StrOk (w : World) (v : Value) (n : Nat) (E : EvsZ) (R : Int → Int → Int) : Prop where
  al : ∀ W, Below w.heap.size w W → Calls Try.prog 12 #[v] W fun x w' => ∃ r0 r1, x = .returned (.pointer (some ⟨r0, 0, none⟩)) ∧ RelC w' r0 r1 n (mP (RuleP R) n []) ∧ Below W.heap.size W w'
  str : ∀ a c : Nat, a < c → c < n → (E.e a).ht = (E.e c).ht → strB E a c = true → 0 < R a c
theorem inc3 (e : EvZ) : incB 3 e = memB e := by unfold incB memB; cases e.rd <;> cases e.wr <;> rfl
section
variable {W0 : World} {b0 o0 n : Nat} {E : EvsZ} {nA nD nC : Nat → Nat} {FA FD FC : Nat → Nat → Int}
theorem rule_str (H : EvsX W0 b0 o0 n E nA nD nC FA FD FC) (HK : ∀ i, i < n → ((E.e i).rd || (E.e i).wr) = true → (E.e i).kn = true) (a c : Nat) (hac : a < c) (hc : c < n) (hh : (E.e a).ht = (E.e c).ht) (hs : strB E a c = true) : 0 < ruleX E n nA nD nC FA FD FC a c := by
  unfold strB at hs
  simp only [Bool.and_eq_true, Bool.or_eq_true] at hs
  obtain ⟨h1, h2, h3⟩ := hs
  have hone : oneB E n a c = true := by
    unfold oneB
    simp only [Bool.and_eq_true, decide_eq_true_eq, beq_iff_eq, Int.toNat_natCast]
    exact ⟨by omega, by omega, by omega, hh⟩
  have key : ∀ k : Nat, ordR (spnV E nA FA a c) (psZ E nA nD FA FD a (btw (sameH E a) a c)) (E.e a) (E.e c) (inF (FA c) (nA c) (a : Int)) (inF (FD c) (nD c) (a : Int)) (inF (FC c) (nC c) (a : Int)) k = true → holdsX E n nA nD nC FA FD FC a c (k : Int) = true := fun k hk => by
    unfold holdsX ordX ordZ
    rw [hone, Int.toNat_natCast, Int.toNat_natCast, Int.toNat_natCast, hk, h1, h2, decide_eq_true (show (0 : Int) ≤ k by omega)]; rfl
  unfold ruleX
  rcases h3 with h3 | h3 | h3 | h3
  · refine leastR_some (j := 4) (key 4 ?_) 13 1 (by omega) (by omega) (by omega)
    show incB (fenZ E a (btw (sameH E a) a c)) (E.e c) = true
    rw [fncZ_eq]
    unfold fncZ
    rw [fold_any, Bool.false_or, List.any_eq_true]
    unfold fullB at h3
    rw [List.any_eq_true] at h3
    obtain ⟨m, hm, hp⟩ := h3
    rw [List.mem_range] at hm
    simp only [Bool.and_eq_true, decide_eq_true_eq, beq_iff_eq] at hp
    obtain ⟨q1, q2, q3⟩ := hp
    refine ⟨m, btw_mem.2 ⟨hm, q1, ?_⟩, ?_⟩
    · unfold sameH
      have u1 := H.up a m q1 (by omega)
      have u2 := H.up m c hm hc
      simp only [beq_iff_eq]; omega
    · unfold fncB
      rw [q2, q3, show ((51 : Int) / 16).toNat = 3 from rfl, show ((51 : Int) % 16).toNat = 3 from rfl, inc3, inc3, h1, h2]; rfl
  · exact leastR_some (j := 5) (key 5 h3) 13 1 (by omega) (by omega) (by omega)
  · exact leastR_some (j := 6) (key 6 h3) 13 1 (by omega) (by omega) (by omega)
  · refine leastR_some (j := 1) (key 1 ?_) 13 1 (by omega) (by omega) (by omega)
    show ((E.e c).wr && sameB (E.e a) (E.e c)) = true
    unfold sameB
    rw [h3.1, HK a (by omega) h1, HK c hc h2, h3.2]; rfl
end
theorem strOk_of {w : World} {q : Option Addr} {n cap : Nat} {E : EvsZ} (hn : n ≤ 120) (h : EvsOk w (.slice q n cap) n E) : ∃ R, StrOk w (.slice q n cap) n E R := by
  rcases Nat.eq_zero_or_pos n with h0 | hp
  · subst h0
    refine ⟨fun _ _ => 0, fun W hW => (all_0 q cap W).mono ?_, fun a c h1 h2 => by omega⟩
    rintro x w' ⟨r0, r1, rfl, h1, h2⟩
    refine ⟨r0, r1, rfl, ?_, h2⟩
    rw [mP_start]; exact h1
  · obtain ⟨b0, o0, cap', nA, nD, nC, FA, FD, FC, e, H, HK, _⟩ := evsX_of h (by omega) hp
    cases e
    exact ⟨ruleX E n nA nD nC FA FD FC, fun W hW => all_w H (by omega) cap W hW, fun a c h1 h2 h3 h4 => rule_str H HK a c h1 h2 h3 h4⟩
end Go.Proofs.Ytchjjbcmbdmlgaa
