/- Layer 11: the law LinkAlone. -/
import Derived.Test.YtilljoemebbnjaaDoorAwk11
import Derived.Test.YtilljoemebbnjaaDoorK11
set_option linter.unusedVariables false
set_option linter.unusedSimpArgs false
namespace Go.Proofs.YtilljoemebbnjaaDoor
open Go.RowKit Go.ChangeShapes Go.WideShapes Go.ChangeAt Go.Deep Sim S2
theorem alone_fst {c : Nat} {p : Pts} (h : lkErr c p = 0) : lkErr c (fstP p) = 0 := by
  obtain ⟨h1, h8, hc, hf, hw⟩ := lkErr_zero h
  have f0 := hf.fr 0 (by omega)
  have e1 : fstN (frB (fstP p)) 1 = none := fst_all fun j hj => by
    obtain rfl : j = 0 := by omega
    show (decide (p.fr 0 < 0) || decide (p.fr 0 > 250)) = false
    rw [decide_eq_false (by omega), decide_eq_false (by omega)]; rfl
  have e2 : fstN (wrgU c (fstP p)) 1 = none := fst_all fun j hj => by
    obtain rfl : j = 0 := by omega
    exact fst_none hw 0 (by omega)
  have a1 : ¬ ((fstP p).P < 1 ∨ 8 < (fstP p).P) := by show ¬ (1 < 1 ∨ 8 < 1); omega
  have a2 : ¬ 200 < c := by omega
  have a3 : ¬ ((fstN (frB (fstP p)) (fstP p).P).isSome ∨ 4096 < (c : Int) + sumF (fstP p) (fstP p).P) := by
    rintro (h | h)
    · have h : (fstN (frB (fstP p)) 1).isSome := h
      rw [e1] at h; cases h
    · have h : 4096 < (c : Int) + (0 + p.fr 0) := h
      omega
  unfold lkErr
  rw [if_neg a1, if_neg a2, if_neg a3]
  show (match fstN (wrgU c (fstP p)) 1 with
    | some j => bif badU (fstP p) j then 1 else 33
    | none => (0 : Int)) = 0
  rw [e2]
theorem alone_sm {c : Nat} {p : Pts} (h : lkSm c p) (hP : 0 < p.P) : lkSm c (fstP p) := ⟨by show 1 ≤ 100; decide, fun j hj => by
  have hj : j < 1 := hj
  obtain rfl : j = 0 := by omega
  exact h.n 0 hP, fun j hj i hi => by
  have hj : j < 1 := hj
  obtain rfl : j = 0 := by omega
  exact h.wf 0 hP i hi, h.c⟩
theorem alone_pts {gl : Gl} {p : Pts} (h : ptsOk gl p) (hP : 0 < p.P) : ptsOk gl (fstP p) := fun j hj => by
  have hj : j < 1 := hj
  obtain rfl : j = 0 := by omega
  exact h 0 hP
def fL (p : Pts) : LE := ⟨50, 2, 1, fun j => (qE p (m20 p)).el (0 + j), false, false, true⟩
def zL (c : Nat) : LE := ⟨3, 1, (c : Int).toNat, fun _ => [.int .i64 0], true, false, true⟩
theorem fL_is (p : Pts) : isPt (fL p) (fstP p) := ⟨rfl, rfl, fun j hj => by
  have hj : j < 1 := hj
  obtain rfl : j = 0 := by omega
  rfl⟩
theorem zL_is (c : Nat) : isInts (zL c) c zC := ⟨rfl, Int.toNat_natCast c, fun _ _ => rfl⟩
theorem al_0 (gl : Gl) (c : Nat) (C : Nat → Int) (p : Pts) (hS : SaysLink gl) (L D K N L1 D1 K1 N1 : List Int) (i : Nat) (hi : i < L1.length) (h1 : L1.length ≤ L.length) (h2 : i < N1.length) (h3 : N1.length ≤ N.length) (h4 : (L1[i]?).getD 0 = (L[i]?).getD 0) (h5 : (N1[i]?).getD 0 = (N[i]?).getD 0) (hb : L1.length ≤ 1000000000) (w : World) (hG : GlobOk gl w) : S2.Sem (envAY gl c C p) w 100 alC (alS L D K N L1 D1 K1 N1 i) none (alS L D K N L1 D1 K1 N1 (i + 1)) := by
  refine sem_iter (envAY_ok hS c C p) hG (p := alQ) (fuel := 1000) [true, false, false] [(pre (inI ((i : Int) + 1)), true), ((N1[(i : Int).toNat]?).getD 0 != (N[(i : Int).toNat]?).getD 0, false), (pre (decide ((i : Int).toNat < N.length)), true), (pre (idxB (i : Int) N.length), true), (pre (decide ((i : Int).toNat < N1.length)), true), (pre (idxB (i : Int) N1.length), true), ((L1[(i : Int).toNat]?).getD 0 != (L[(i : Int).toNat]?).getD 0, false), (pre (decide ((i : Int).toNat < L.length)), true), (pre (idxB (i : Int) L.length), true), (pre (decide ((i : Int).toNat < L1.length)), true), (pre (idxB (i : Int) L1.length), true), (decide ((i : Int) < (L1.length : Int)), true)] (by kernel_rfl) (by kernel_rfl) ?_
  try simp only [Int.toNat_natCast]
  refine all_cons ?_ <| all_cons ?_ <| all_cons ?_ <| all_cons ?_ <| all_cons ?_ <| all_cons ?_ <| all_cons ?_ <| all_cons ?_ <| all_cons ?_ <| all_cons ?_ <| all_cons ?_ <| all_cons ?_ <| all_nil
  · exact ob_inI (by omega)
  · rw [h5]; exact bne_self_eq_false _
  · exact ob_lt (by omega)
  · exact ob_idx (by omega)
  · exact ob_lt (by omega)
  · exact ob_idx (by omega)
  · rw [h4]; exact bne_self_eq_false _
  · exact ob_lt (by omega)
  · exact ob_idx (by omega)
  · exact ob_lt (by omega)
  · exact ob_idx (by omega)
  · exact ob_yes (by omega)
theorem al_end (gl : Gl) (c : Nat) (C : Nat → Int) (p : Pts) (hS : SaysLink gl) (L D K N L1 D1 K1 N1 : List Int) (w : World) (hG : GlobOk gl w) : S2.Sem (envAY gl c C p) w 100 alC (alS L D K N L1 D1 K1 N1 L1.length) (some (some 0)) (alS L D K N L1 D1 K1 N1 L1.length) := by
  refine sem_iter (envAY_ok hS c C p) hG (p := alQ) (fuel := 1000) [false] [(decide ((L1.length : Int) < (L1.length : Int)), false)] (by kernel_rfl) (by kernel_rfl) ?_
  try simp only [Int.toNat_natCast]
  refine all_cons ?_ <| all_nil
  · exact ob_no (by omega)
theorem la_1 {gl : Gl} (hS : SaysLink gl) (p : Pts) (c : Nat) (C : Nat → Int) (hr : ptsOk gl p) (hj : (fstN (bigU p) (m20 p)).isSome) (w : World) (vals : List Value) (hG : GlobOk gl w) (ha : ArgsOk w [.inr (rPart p), .inr (intL false c C)] vals) : LRet Tryd.prog 5 vals false [.inl (.bool true)] w := by
  refine fn_ok (envI1_ok hS p) (fuel := 1000) (d := 30) (plan := []) (orc := []) (fls := [[], []]) (l := [(pre (propB (isPt (rPart p) p ∧ ptsOk gl p ∧ (fstN (bigU p) (m20 p)).isSome)), true)]) (tr := []) (by kernel_rfl) ?_ Tryd.func5 w vals hG ha fun t ht => by cases ht
  refine all_cons ?_ <| all_nil
  · exact propB_ok.mpr ⟨isPt_self _ _ p, hr, hj⟩
theorem la_2 {gl : Gl} (hS : SaysLink gl) (p : Pts) (c : Nat) (C : Nat → Int) (hr : ptsOk gl p) (hj : fstN (bigU p) (m20 p) = none ∧ ¬ p.P ≤ 20) (w : World) (vals : List Value) (hG : GlobOk gl w) (ha : ArgsOk w [.inr (rPart p), .inr (intL false c C)] vals) : LRet Tryd.prog 5 vals false [.inl (.bool true)] w := by
  refine fn_ok (envI2_ok hS p) (fuel := 1000) (d := 30) (plan := []) (orc := []) (fls := [[], []]) (l := [(pre (propB (isPt (rPart p) p ∧ ptsOk gl p ∧ fstN (bigU p) (m20 p) = none ∧ ¬ p.P ≤ 20)), true)]) (tr := []) (by kernel_rfl) ?_ Tryd.func5 w vals hG ha fun t ht => by cases ht
  refine all_cons ?_ <| all_nil
  · exact propB_ok.mpr ⟨isPt_self _ _ p, hr, hj⟩
theorem la_3 {gl : Gl} (hS : SaysLink gl) (p : Pts) (c : Nat) (C : Nat → Int) (hr : ptsOk gl p) (hj : fstN (bigU p) (m20 p) = none ∧ p.P ≤ 20) (hq : (!decide (cntU p (m20 p) ≤ 600)) = true) (w : World) (vals : List Value) (hG : GlobOk gl w) (ha : ArgsOk w [.inr (rPart p), .inr (intL false c C)] vals) : LRet Tryd.prog 5 vals false [.inl (.bool true)] w := by
  refine fn_ok (envI3_ok hS p) (fuel := 1000) (d := 30) (plan := []) (orc := [true]) (fls := [[], []]) (l := [(!decide (cntU p (m20 p) ≤ 600), true), (pre (propB (isPt (rPart p) p ∧ ptsOk gl p ∧ fstN (bigU p) (m20 p) = none ∧ p.P ≤ 20)), true)]) (tr := []) (by kernel_rfl) ?_ Tryd.func5 w vals hG ha fun t ht => by cases ht
  refine all_cons ?_ <| all_cons ?_ <| all_nil
  · exact hq
  · exact propB_ok.mpr ⟨isPt_self _ _ p, hr, hj⟩
theorem la_4 {gl : Gl} (hS : SaysLink gl) (p : Pts) (c : Nat) (C : Nat → Int) (hr : ptsOk gl p) (hj : fstN (bigU p) (m20 p) = none ∧ p.P ≤ 20) (hq : (!decide (cntU p (m20 p) ≤ 600)) = false) (hc : 200 < c) (w : World) (vals : List Value) (hG : GlobOk gl w) (ha : ArgsOk w [.inr (rPart p), .inr (intL false c C)] vals) : LRet Tryd.prog 5 vals false [.inl (.bool true)] w := by
  refine fn_ok (envI3_ok hS p) (fuel := 1000) (d := 30) (plan := []) (orc := [false, true]) (fls := [[], []]) (l := [(decide ((c : Int) > 200), true), (!decide (cntU p (m20 p) ≤ 600), false), (pre (propB (isPt (rPart p) p ∧ ptsOk gl p ∧ fstN (bigU p) (m20 p) = none ∧ p.P ≤ 20)), true)]) (tr := []) (by kernel_rfl) ?_ Tryd.func5 w vals hG ha fun t ht => by cases ht
  refine all_cons ?_ <| all_cons ?_ <| all_cons ?_ <| all_nil
  · exact ob_yes (by omega)
  · exact hq
  · exact propB_ok.mpr ⟨isPt_self _ _ p, hr, hj⟩
theorem la_5 {gl : Gl} (hS : SaysLink gl) (p : Pts) (c : Nat) (C : Nat → Int) (hr : ptsOk gl p) (hj : fstN (bigU p) (m20 p) = none ∧ p.P ≤ 20) (hq : (!decide (cntU p (m20 p) ≤ 600)) = false) (hc : ¬ 200 < c) (hP0 : p.P = 0) (w : World) (vals : List Value) (hG : GlobOk gl w) (ha : ArgsOk w [.inr (rPart p), .inr (intL false c C)] vals) : LRet Tryd.prog 5 vals false [.inl (.bool true)] w := by
  refine fn_ok (envI3_ok hS p) (fuel := 1000) (d := 30) (plan := []) (orc := [false, false, true]) (fls := [[], []]) (l := [((p.P : Int) == 0, true), (decide ((c : Int) > 200), false), (!decide (cntU p (m20 p) ≤ 600), false), (pre (propB (isPt (rPart p) p ∧ ptsOk gl p ∧ fstN (bigU p) (m20 p) = none ∧ p.P ≤ 20)), true)]) (tr := []) (by kernel_rfl) ?_ Tryd.func5 w vals hG ha fun t ht => by cases ht
  refine all_cons ?_ <| all_cons ?_ <| all_cons ?_ <| all_cons ?_ <| all_nil
  · rw [hP0]; rfl
  · exact ob_no (by omega)
  · exact hq
  · exact propB_ok.mpr ⟨isPt_self _ _ p, hr, hj⟩
theorem la_nn {gl : Gl} (hS : SaysLink gl) (p : Pts) (c : Nat) (C : Nat → Int) (hr : ptsOk gl p) (hj : fstN (bigU p) (m20 p) = none ∧ p.P ≤ 20) (hq : (!decide (cntU p (m20 p) ≤ 600)) = false) (hc : ¬ 200 < c) (hP0 : 0 < p.P) (hs : lkSm c p) (hz : lkErr c p ≠ 0) (hy : lkErr c (fstP p) ≠ 0) (w : World) (vals : List Value) (hG : GlobOk gl w) (ha : ArgsOk w [.inr (rPart p), .inr (intL false c C)] vals) : LRet Tryd.prog 5 vals false [.inl (.bool true)] w := by
  have hm20 : m20 p = p.P := m20_P hj.2
  have h20 := hj.2
  refine fn_ok (envAN_ok hS c C p) (fuel := 1000) (d := 30) (plan := []) (orc := [false, false, false, true]) (fls := [[], []]) (l := [(lkErr c p != 0, true), (pre (propB (lkC gl c zC (fstP p) (fL p) (zL c) ∧ lkErr c (fstP p) ≠ 0)), true), (pre (decide (0 + 1 ≤ m20 p)), true), (pre (decide ((c : Int) = (c : Int) ∧ 0 ≤ (c : Int) ∧ 8 * (c : Int).toNat ≤ 281474976710656 ∧ (c : Int).toNat ≤ maxLen)), true), (pre (decide ((0 : Int) ≤ 0 ∧ (0 : Int) ≤ 1 ∧ (1 : Int) ≤ (m20 p : Int))), true), (pre (propB (lkC gl c C p (qE p (m20 p)) (intL false c C) ∧ lkErr c p ≠ 0)), true), ((p.P : Int) == 0, false), (decide ((c : Int) > 200), false), (!decide (cntU p (m20 p) ≤ 600), false), (pre (propB (isPt (rPart p) p ∧ ptsOk gl p ∧ fstN (bigU p) (m20 p) = none ∧ p.P ≤ 20)), true)]) (tr := []) (by kernel_rfl) ?_ Tryd.func5 w vals hG ha fun t ht => by cases ht
  refine all_cons ?_ <| all_cons ?_ <| all_cons ?_ <| all_cons ?_ <| all_cons ?_ <| all_cons ?_ <| all_cons ?_ <| all_cons ?_ <| all_cons ?_ <| all_cons ?_ <| all_nil
  · simpa using hz
  · exact propB_ok.mpr ⟨⟨fL_is p, zL_is c, alone_pts hr hP0, alone_sm hs hP0⟩, hy⟩
  · exact decide_eq_true (by omega)
  · exact decide_eq_true ⟨rfl, by omega, by rw [Int.toNat_natCast]; omega, by rw [Int.toNat_natCast]; simp only [maxLen]; omega⟩
  · exact decide_eq_true (by omega)
  · exact propB_ok.mpr ⟨⟨isPt_q p hj.2, isInts_in c C, hr, hs⟩, hz⟩
  · simp; omega
  · exact ob_no (by omega)
  · exact hq
  · exact propB_ok.mpr ⟨isPt_self _ _ p, hr, hj⟩
theorem la_ny {gl : Gl} (hS : SaysLink gl) (p : Pts) (c : Nat) (C : Nat → Int) (hr : ptsOk gl p) (hj : fstN (bigU p) (m20 p) = none ∧ p.P ≤ 20) (hq : (!decide (cntU p (m20 p) ≤ 600)) = false) (hc : ¬ 200 < c) (hP0 : 0 < p.P) (hs : lkSm c p) (hz : lkErr c p ≠ 0) (hy : lkErr c (fstP p) = 0) (w : World) (vals : List Value) (hG : GlobOk gl w) (ha : ArgsOk w [.inr (rPart p), .inr (intL false c C)] vals) : LRet Tryd.prog 5 vals false [.inl (.bool true)] w := by
  have hm20 : m20 p = p.P := m20_P hj.2
  have h20 := hj.2
  refine fn_ok (envAM_ok hS c C p) (fuel := 1000) (d := 30) (plan := []) (orc := [false, false, false, true]) (fls := [[], []]) (l := [(lkErr c p != 0, true), (pre (propB (lkC gl c zC (fstP p) (fL p) (zL c) ∧ lkErr c (fstP p) = 0)), true), (pre (decide (0 + 1 ≤ m20 p)), true), (pre (decide ((c : Int) = (c : Int) ∧ 0 ≤ (c : Int) ∧ 8 * (c : Int).toNat ≤ 281474976710656 ∧ (c : Int).toNat ≤ maxLen)), true), (pre (decide ((0 : Int) ≤ 0 ∧ (0 : Int) ≤ 1 ∧ (1 : Int) ≤ (m20 p : Int))), true), (pre (propB (lkC gl c C p (qE p (m20 p)) (intL false c C) ∧ lkErr c p ≠ 0)), true), ((p.P : Int) == 0, false), (decide ((c : Int) > 200), false), (!decide (cntU p (m20 p) ≤ 600), false), (pre (propB (isPt (rPart p) p ∧ ptsOk gl p ∧ fstN (bigU p) (m20 p) = none ∧ p.P ≤ 20)), true)]) (tr := []) (by kernel_rfl) ?_ Tryd.func5 w vals hG ha fun t ht => by cases ht
  refine all_cons ?_ <| all_cons ?_ <| all_cons ?_ <| all_cons ?_ <| all_cons ?_ <| all_cons ?_ <| all_cons ?_ <| all_cons ?_ <| all_cons ?_ <| all_cons ?_ <| all_nil
  · simpa using hz
  · exact propB_ok.mpr ⟨⟨fL_is p, zL_is c, alone_pts hr hP0, alone_sm hs hP0⟩, hy⟩
  · exact decide_eq_true (by omega)
  · exact decide_eq_true ⟨rfl, by omega, by rw [Int.toNat_natCast]; omega, by rw [Int.toNat_natCast]; simp only [maxLen]; omega⟩
  · exact decide_eq_true (by omega)
  · exact propB_ok.mpr ⟨⟨isPt_q p hj.2, isInts_in c C, hr, hs⟩, hz⟩
  · simp; omega
  · exact ob_no (by omega)
  · exact hq
  · exact propB_ok.mpr ⟨isPt_self _ _ p, hr, hj⟩
theorem la_yy {gl : Gl} (hS : SaysLink gl) (p : Pts) (c : Nat) (C : Nat → Int) (hr : ptsOk gl p) (hj : fstN (bigU p) (m20 p) = none ∧ p.P ≤ 20) (hq : (!decide (cntU p (m20 p) ≤ 600)) = false) (hc : ¬ 200 < c) (hP0 : 0 < p.P) (hs : lkSm c p) (hz : lkErr c p = 0) (hy : lkErr c (fstP p) = 0) (hl : (lkL c (fstP p) 1).length ≤ (lkL c p p.P).length) (hn : (lkN c (fstP p) 1).length ≤ (lkN c p p.P).length) (hs3 : ∀ w, GlobOk gl w → S2.Sem (envAY gl c C p) w 100 (.loop alC) (alS (lkL c p p.P) (lkD c C p p.P) (lkK c p p.P) (lkN c p p.P) (lkL c (fstP p) 1) (lkD c zC (fstP p) 1) (lkK c (fstP p) 1) (lkN c (fstP p) 1) 0) (some (some 0)) (alS (lkL c p p.P) (lkD c C p p.P) (lkK c p p.P) (lkN c p p.P) (lkL c (fstP p) 1) (lkD c zC (fstP p) 1) (lkK c (fstP p) 1) (lkN c (fstP p) 1) (lkL c (fstP p) 1).length)) (w : World) (vals : List Value) (hG : GlobOk gl w) (ha : ArgsOk w [.inr (rPart p), .inr (intL false c C)] vals) : LRet Tryd.prog 5 vals false [.inl (.bool true)] w := by
  have hm20 : m20 p = p.P := m20_P hj.2
  have h20 := hj.2
  refine fn_ok (envAY_ok hS c C p) (fuel := 1000) (d := 30) (plan := [⟨alP, alQ0 [3, 4, 5, 6, 8, 9, 10, 11], some (some 0), alS (lkL c p p.P) (lkD c C p p.P) (lkK c p p.P) (lkN c p p.P) (lkL c (fstP p) 1) (lkD c zC (fstP p) 1) (lkK c (fstP p) 1) (lkN c (fstP p) 1) (lkL c (fstP p) 1).length⟩]) (orc := [false, false, false, false, false, false, false]) (fls := [[], []]) (l := [(decide (((lkN c (fstP p) 1).length : Int) > ((lkN c p p.P).length : Int)), false), (decide (((lkL c (fstP p) 1).length : Int) > ((lkL c p p.P).length : Int)), false), (false, false), (false, false), (pre (propB (lkC gl c zC (fstP p) (fL p) (zL c) ∧ lkErr c (fstP p) = 0)), true), (pre (decide (0 + 1 ≤ m20 p)), true), (pre (decide ((c : Int) = (c : Int) ∧ 0 ≤ (c : Int) ∧ 8 * (c : Int).toNat ≤ 281474976710656 ∧ (c : Int).toNat ≤ maxLen)), true), (pre (decide ((0 : Int) ≤ 0 ∧ (0 : Int) ≤ 1 ∧ (1 : Int) ≤ (m20 p : Int))), true), (pre (propB (lkC gl c C p (qE p (m20 p)) (intL false c C) ∧ lkErr c p = 0)), true), ((p.P : Int) == 0, false), (decide ((c : Int) > 200), false), (!decide (cntU p (m20 p) ≤ 600), false), (pre (propB (isPt (rPart p) p ∧ ptsOk gl p ∧ fstN (bigU p) (m20 p) = none ∧ p.P ≤ 20)), true)]) (tr := [⟨.loop alC, alS (lkL c p p.P) (lkD c C p p.P) (lkK c p p.P) (lkN c p p.P) (lkL c (fstP p) 1) (lkD c zC (fstP p) 1) (lkK c (fstP p) 1) (lkN c (fstP p) 1) 0, some (some 0), alS (lkL c p p.P) (lkD c C p p.P) (lkK c p p.P) (lkN c p p.P) (lkL c (fstP p) 1) (lkD c zC (fstP p) 1) (lkK c (fstP p) 1) (lkN c (fstP p) 1) (lkL c (fstP p) 1).length⟩]) (by kernel_rfl) ?_ Tryd.func5 w vals hG ha fun t ht => by (
    obtain rfl := List.mem_singleton.mp ht
    exact hs3 w hG)
  refine all_cons ?_ <| all_cons ?_ <| all_cons ?_ <| all_cons ?_ <| all_cons ?_ <| all_cons ?_ <| all_cons ?_ <| all_cons ?_ <| all_cons ?_ <| all_cons ?_ <| all_cons ?_ <| all_cons ?_ <| all_cons ?_ <| all_nil
  · exact ob_no (by omega)
  · exact ob_no (by omega)
  · rfl
  · rfl
  · exact propB_ok.mpr ⟨⟨fL_is p, zL_is c, alone_pts hr hP0, alone_sm hs hP0⟩, hy⟩
  · exact decide_eq_true (by omega)
  · exact decide_eq_true ⟨rfl, by omega, by rw [Int.toNat_natCast]; omega, by rw [Int.toNat_natCast]; simp only [maxLen]; omega⟩
  · exact decide_eq_true (by omega)
  · exact propB_ok.mpr ⟨⟨isPt_q p hj.2, isInts_in c C, hr, hs⟩, hz⟩
  · simp; omega
  · exact ob_no (by omega)
  · exact hq
  · exact propB_ok.mpr ⟨isPt_self _ _ p, hr, hj⟩
theorem alone_lists {c : Nat} {p : Pts} (hs : lkSm c p) (hP : 0 < p.P) : (lkL c (fstP p) 1).length ≤ (lkL c p p.P).length ∧ (lkN c (fstP p) 1).length ≤ (lkN c p p.P).length ∧ (lkN c (fstP p) 1).length = (lkL c (fstP p) 1).length ∧ (lkL c (fstP p) 1).length ≤ 20000 ∧
    (∀ k, k < (lkL c (fstP p) 1).length → (lkL c (fstP p) 1)[k]? = (lkL c p p.P)[k]?) ∧ ∀ k, k < (lkN c (fstP p) 1).length → (lkN c (fstP p) 1)[k]? = (lkN c p p.P)[k]? := by
  have e1 : lkL c (fstP p) 1 = lkL c p 1 := rfl
  have e2 : lkN c (fstP p) 1 = lkN c p 1 := rfl
  rw [e1, e2]
  obtain ⟨l1, l2, _⟩ := lkL_len hs 1 (by omega)
  obtain ⟨u1, u2⟩ := lkL_up hs 1 (p.P - 1) (by omega)
  obtain ⟨v1, v2⟩ := lkN_up hs 1 (p.P - 1) (by omega)
  rw [show 1 + (p.P - 1) = p.P by omega] at u1 u2 v1 v2
  exact ⟨by omega, v1, l2, by omega, fun k hk => (u2 k hk).symm, fun k hk => (v2 k hk).symm⟩
theorem linkAlone_ret {gl : Gl} (hS : SaysLink gl) (p : Pts) (c : Nat) (C : Nat → Int) (hr : ptsOk gl p) (hw : ∀ j, j < p.P → ∀ i, i < p.n j → wfIt (p.f j i)) (w : World) (vals : List Value) (hG : GlobOk gl w) (ha : ArgsOk w [.inr (rPart p), .inr (intL false c C)] vals) : LRet Tryd.prog 5 vals false [.inl (.bool true)] w := by
  cases hj : fstN (bigU p) (m20 p) with
  | some j => exact la_1 hS p c C hr (by rw [hj]; rfl) w vals hG ha
  | none =>
    by_cases h20 : p.P ≤ 20
    case neg => exact la_2 hS p c C hr ⟨hj, h20⟩ w vals hG ha
    cases hq : (!decide (cntU p (m20 p) ≤ 600))
    case true => exact la_3 hS p c C hr ⟨hj, h20⟩ hq w vals hG ha
    by_cases hc : 200 < c
    · exact la_4 hS p c C hr ⟨hj, h20⟩ hq hc w vals hG ha
    by_cases hP : p.P = 0
    · exact la_5 hS p c C hr ⟨hj, h20⟩ hq hc hP w vals hG ha
    have hs := lkSm_of hj h20 (show c ≤ 300 by omega) hw
    have hP0 : 0 < p.P := by omega
    by_cases hz : lkErr c p = 0
    · have hy := alone_fst hz
      obtain ⟨k1, k2, k3, k4, k5, k6⟩ := alone_lists hs hP0
      refine la_yy hS p c C hr ⟨hj, h20⟩ hq hc hP0 hs hz hy k1 k2 (fun w hG => ?_) w vals hG ha
      exact sem_loop (E := envAY gl c C p) (w0 := base0 w) (nb := 0) (nl := 0) (n := 100) (c := alC) (x := some (some 0)) (fun i => alS (lkL c p p.P) (lkD c C p p.P) (lkK c p p.P) (lkN c p p.P) (lkL c (fstP p) 1) (lkD c zC (fstP p) 1) (lkK c (fstP p) 1) (lkN c (fstP p) 1) i) (lkL c (fstP p) 1).length (by simp) (fun i hi => al_0 gl c C p hS _ _ _ _ _ _ _ _ i hi k1 (by omega) k2 (by rw [k5 i hi]) (by rw [k6 i (by omega)]) (by omega) w hG) (al_end gl c C p hS _ _ _ _ _ _ _ _ w hG)
    · by_cases hy : lkErr c (fstP p) = 0
      · exact la_ny hS p c C hr ⟨hj, h20⟩ hq hc hP0 hs hz hy w vals hG ha
      · exact la_nn hS p c C hr ⟨hj, h20⟩ hq hc hP0 hs hz hy w vals hG ha
theorem linkAlone_walk (p : Pts) (v : Value) (a : Option Addr) (l c : Nat) (z : List Int) (w : World) (hG : GlobOk gl11 w) (hp : wfPts w p) (hu : ArgsOk w [.inr (rPart p)] [v]) (hz : SliceIn .i64 w a l c z) : Ret Tryd.prog 5 #[v, .slice a l c] (.bool true) w := by
  have hT := glTo_frz hG
  exact (linkAlone_ret (saysLink hT) p l (fun i => z.getD i 0) hp.1 hp.2 w [v, .slice a l c] (frz_ok w) ⟨hu.1, sliceIn_inB hz _ false false true, trivial⟩).plain
end Go.Proofs.YtilljoemebbnjaaDoor
