/- The walks of layer 2's laws. -/
import Derived.Test.YtpjpcddjbebhjaaDoorReg
import Derived.Test.YtpjpcddjbebhjaaDoorRef02
import Derived.Test.YtpjpcddjbebhjaaDoorRef01
import Derived.Test.YtpjpcddjbebhjaaDoorOpen
namespace Go.Proofs.YtpjpcddjbebhjaaDoor
open Go.RowKit

theorem of_3140 : ofN (fun i => [(3 : Int), 1, 40].getD i 0) 3 = 10 := by decide +kernel
theorem len_10 : (listP (Nat.testBit 10) 32).length = 2 := by decide +kernel
theorem awake02 (w : World) (ha : AbiIs w) :
    Calls Tryd.prog 11 #[] w (Holds w) := by
  have hp := hid (regParse_some ⟨#[97, 48]⟩ 10 w ha (by omega) (use_own 10 (by omega)).1 (use_own 10 (by omega)).2)
  clear ha
  go_enter Tryd.func11, Tryd.ntmps11
  go_wp2_with fail
  refine hp.out.mono ?_
  rintro e w' ⟨rfl, rfl⟩
  go_wp2_with fail
  refine (regOf_some w.heap.size 0 3 3 (fun i => [(3 : Int), 1, 40].getD i 0) _ (by omega) ?_).mono ?_
  · intro i hi
    have hc : i = 0 ∨ i = 1 ∨ i = 2 := by omega
    rcases hc with rfl | rfl | rfl <;> (rw [Nat.zero_add, World.cell?_alloc_new]; rfl)
  rw [of_3140]
  rintro e w' ⟨rfl, rfl⟩
  go_wp2_with fail
  refine (setLen_any 10 _ (by omega)).mono ?_
  rw [len_10]
  rintro e w2 ⟨rfl, hb⟩
  go_wp2_with fail
  go_ret
  exact Holds.mk (((Below.refl _ _).alloc (Nat.le_refl _) _).trans (hb.mono (by simp)))
theorem regNames_no (r : Int) (w : World) (ha : AbiIs w) (h : r < 0 ∨ 32 ≤ r) :
    Calls Tryd.prog 3 #[.int .i64 r] w (Holds w) := by
  have hw := hid (awake02 w ha)
  clear ha
  have h1 := hid (fun W => regName_no r W h)
  have h2 := hid (fun W => regUse_no r W h)
  have h3 := hid (fun W => refName_no r W h)
  have h4 := hid (fun W => refUse_no r W h)
  by_cases h0 : r < 0
  all_goals
    go_enter Tryd.func3, Tryd.ntmps3
    go_wp2_with (first | (go_at_call 7; refine (h1.out _).mono ?_; rintro e w' ⟨rfl, rfl⟩) | (go_at_call 8; refine (h2.out _).mono ?_; rintro e w' ⟨rfl, rfl⟩) | (go_at_call 9; refine (h3.out _).mono ?_; rintro e w' ⟨rfl, rfl⟩) | (go_at_call 10; refine (h4.out _).mono ?_; rintro e w' ⟨rfl, rfl⟩) | (go_at_call 11; refine hw.out.mono ?_; rintro e w5 ⟨rfl, hb⟩))
    go_ret
    exact Holds.mk hb
theorem regNames_yes (r : Nat) (w : World) (ha : AbiIs w) (hg : 0 < w.heap.size) (h : r < 32) :
    Calls Tryd.prog 3 #[.int .i64 (r : Nat)] w (Holds w) := by
  have Ha := hid ha
  have h1 := hid (fun W => regName_yes r W h)
  have h2 := hid (regUse_yes r w h ha)
  have h3 := hid (fun W => refName_yes r W h)
  have h4 := hid (fun W => refUse_yes r W h)
  clear ha
  go_enter Tryd.func3, Tryd.ntmps3
  go_wp2_with (first | (go_at_call 7; refine (h1.out _).mono ?_; rintro e w' ⟨rfl, rfl⟩) | (go_at_call 8; refine (h2.out).mono ?_; rintro e w' ⟨rfl, rfl⟩) | (go_at_call 9; refine (h3.out _).mono ?_; rintro e w' ⟨rfl, m, rfl⟩) | (go_at_call 10; refine (h4.out _).mono ?_; rintro e w2 ⟨rfl, hb2⟩) | fail)
  have Ha2 : AbiIs w2 := AbiIs.below Ha.out hg ((below_draws (Below.refl _ _) m).trans hb2)
  have h5 := hid (fun W h' => regParse_some (numS r) r W h' h (num_own r h).1 (num_own r h).2)
  have h6 := hid (fun W h' => regParse_some (useS r) r W h' h (use_own r h).1 (use_own r h).2)
  have hw := hid (awake02 w2 Ha2)
  have HA2 := hid Ha2
  clear Ha2
  refine (h5.out _ HA2.out).mono ?_
  rintro e w' ⟨rfl, rfl⟩
  go_wp2_with (first | (go_at_call 12; refine (h6.out _ HA2.out).mono ?_; rintro e w' ⟨rfl, rfl⟩) | (go_at_call 11; refine hw.out.mono ?_; rintro e w5 ⟨rfl, hb⟩))
  go_ret
  have c2 := (below_draws (Below.refl w.heap.size w) m).trans hb2
  exact Holds.mk (c2.trans (hb.mono c2.size))
theorem regNames_walk (r : Int) (w : World) (ha : AbiIs w) (hg : 0 < w.heap.size) :
    Calls Tryd.prog 3 #[.int .i64 r] w (Holds w) := by
  by_cases h : r < 0 ∨ 32 ≤ r
  · exact regNames_no r w ha h
  · obtain ⟨n, rfl⟩ : ∃ n : Nat, r = n := ⟨r.toNat, by omega⟩
    exact regNames_yes n w ha hg (by omega)
theorem regParses_long (s : ByteArray) (w : World) (ha : AbiIs w) (hm : s.size ≤ 9223372036854775807) (h : 100 < s.size) :
    Calls Tryd.prog 4 #[.string s] w (Holds w) := by
  have hw := hid (awake02 w ha)
  clear ha
  go_enter Tryd.func4, Tryd.ntmps4
  go_wp2_with (go_at_call 11; refine hw.out.mono ?_; rintro e w5 ⟨rfl, hb⟩)
  go_ret
  exact Holds.mk hb
theorem regParses_some (s : ByteArray) (r : Nat) (w : World) (ha : AbiIs w) (hg : 0 < w.heap.size) (hm : s.size ≤ 100) (hr : r < 32) (h : isNameB s r = true) (hn : ∀ i, i < r → isNameB s i = false) :
    Calls Tryd.prog 4 #[.string s] w (Holds w) := by
  have Ha := hid ha
  have h1 := hid (regParse_some s r w ha hr h hn)
  have h2 := hid (fun W => refParse_some s r W hr h hn)
  clear ha h hn
  go_enter Tryd.func4, Tryd.ntmps4
  go_wp2_with (first | (go_at_call 12; refine h1.out.mono ?_; rintro e w' ⟨rfl, rfl⟩) | (go_at_call 13; refine (h2.out _).mono ?_; rintro e w2 ⟨rfl, hb2⟩) | fail)
  have Ha2 : AbiIs w2 := AbiIs.below Ha.out hg hb2
  refine (awake02 w2 Ha2).mono ?_
  rintro e w5 ⟨rfl, hb⟩
  clear Ha2
  go_wp2
  go_ret
  exact Holds.mk (hb2.trans (hb.mono hb2.size))
theorem regParses_none (s : ByteArray) (w : World) (ha : AbiIs w) (hg : 0 < w.heap.size) (hm : s.size ≤ 100) (hn : ∀ i, i < 32 → isNameB s i = false) :
    Calls Tryd.prog 4 #[.string s] w (Holds w) := by
  have Ha := hid ha
  have h1 := hid (regParse_none s w ha hn)
  have h2 := hid (fun W => refParse_none s W hn)
  clear ha hn
  go_enter Tryd.func4, Tryd.ntmps4
  go_wp2_with (first | (go_at_call 12; refine h1.out.mono ?_; rintro e w' ⟨rfl, rfl⟩) | (go_at_call 13; refine (h2.out _).mono ?_; rintro e w2 ⟨rfl, hb2⟩) | fail)
  have Ha2 : AbiIs w2 := AbiIs.below Ha.out hg hb2
  refine (awake02 w2 Ha2).mono ?_
  rintro e w5 ⟨rfl, hb⟩
  clear Ha2
  go_wp2
  go_ret
  exact Holds.mk (hb2.trans (hb.mono hb2.size))
theorem least_name (s : ByteArray) (n : Nat) (h : ¬ ∀ i, i < n → isNameB s i = false) : ∃ r, r < n ∧ isNameB s r = true ∧ ∀ i, i < r → isNameB s i = false := by
  induction n with
  | zero => exact absurd (fun i hi => by omega) h
  | succ n ih =>
    by_cases h2 : ∀ i, i < n → isNameB s i = false
    · refine ⟨n, by omega, ?_, h2⟩
      cases hb : isNameB s n with
      | true => rfl
      | false => exact absurd (NotYet.succ h2 hb) h
    · obtain ⟨r, hr, h3, h4⟩ := ih h2
      exact ⟨r, by omega, h3, h4⟩
theorem regParses_walk (s : ByteArray) (w : World) (ha : AbiIs w) (hg : 0 < w.heap.size) (hm : s.size ≤ maxLen) :
    Calls Tryd.prog 4 #[.string s] w (Holds w) := by
  unfold maxLen at hm
  by_cases h : 100 < s.size
  · exact regParses_long s w ha (by omega) h
  · by_cases hn : ∀ i, i < 32 → isNameB s i = false
    · exact regParses_none s w ha hg (by omega) hn
    · obtain ⟨r, hr, h3, h4⟩ := least_name s 32 hn
      exact regParses_some s r w ha hg (by omega) hr h3 h4
theorem regSets_long (a : Option Addr) (len cap : Nat) (r : Int) (w : World) (ha : AbiIs w) (hm : len ≤ 9223372036854775807) (h : 100 < len) :
    Calls Tryd.prog 5 #[.slice a len cap, .int .i64 r] w (Holds w) := by
  have hw := hid (awake02 w ha)
  clear ha
  go_enter Tryd.func5, Tryd.ntmps5
  go_wp2_with (go_at_call 11; refine hw.out.mono ?_; rintro e w5 ⟨rfl, hb⟩)
  go_ret
  exact Holds.mk hb
theorem regSets_short (a : Option Addr) (len cap : Nat) (xs : List Int) (r : Int) (w : World) (ha : AbiIs w) (hg : 0 < w.heap.size) (hl : len = xs.length) (h : len ≤ 100) (hr : RdI .i64 w w.heap.size (.slice a len cap) xs) :
    Calls Tryd.prog 5 #[.slice a len cap, .int .i64 r] w (Holds w) := by
  have Ha := hid ha
  have hx := ofL_lt xs
  have hlen : xs.length ≤ 9223372036854775807 := by omega
  have h1 := hid (regOf_rd hlen hr)
  have h2 := hid (refList_any _ xs w hlen hr)
  have hof := ofL_list (ofL xs) hx
  have hin := inL_has (ofL xs) r
  rw [listP_in] at h2
  clear ha hr hl hlen
  have h3 := hid (fun W => setList_any (ofL xs) W hx)
  have h4 := hid (fun W => setLen_any (ofL xs) W hx)
  have h5 := hid (fun W => has_any (ofL xs) r W hx)
  have hlb := listP_len (ofL xs).testBit 32
  rw [← hin] at h5
  rcases least_bit (ofL xs).testBit 32 with ⟨q, hq, hq1, hq2⟩ | hq
  · have h6 := hid (fun W => first_some (ofL xs) q W hx hq hq1 hq2)
    have hys := listP_least _ 32 q hq hq1 hq2
    clear hq1 hq2
    generalize listP (ofL xs).testBit 32 = ys at *
    generalize ofL xs = x at *
    generalize hbb : inL ys r = bb at *
    have Hbb := hid hbb
    have Hof := hid hof
    clear hbb hin hof
    have hpos : 0 < ys.length := by obtain ⟨t, rfl⟩ := hys; simp
    have hy0 : Hid (ys.getD 0 0 = (q : Int)) := hid (by obtain ⟨t, rfl⟩ := hys; rfl)
    clear hys
    go_enter Tryd.func5, Tryd.ntmps5
    go_wp2_with fail
    refine h1.out.mono ?_
    rintro e w' ⟨rfl, rfl⟩
    go_wp2_with fail
    refine h2.out.mono ?_
    rintro e w2 ⟨v2, rfl, hv2, hb2⟩
    have HV2 := hid hv2
    obtain ⟨a2, cap2, rfl, hc2⟩ := hv2
    obtain ⟨b2, o2, e2, hlt2, hc3⟩ := hc2 hpos
    subst e2
    have hcz := hc3 0 hpos
    rw [hy0.out, Nat.add_zero] at hcz
    have Hcz := hid hcz
    clear hc2 hc3 hcz
    go_wp2_with fail
    refine (h6.out _).mono ?_
    rintro e w' ⟨rfl, rfl⟩
    go_wp2_with fail
    refine (h3.out _).mono ?_
    rintro e w3 ⟨v3, rfl, hv3, hb3⟩
    go_wp2_with fail
    refine (refInts_yes (by omega) hv3 (HV2.out.below hb3)).mono ?_
    rintro e w' ⟨rfl, m, rfl⟩
    go_wp2_with fail
    refine (h4.out _).mono ?_
    rintro e w4 ⟨rfl, hb4⟩
    go_wp2_with fail
    refine (h5.out _).mono ?_
    rintro e w' ⟨rfl, rfl⟩
    go_wp2_with fail
    have HV4 : RdI .i64 w4 _ _ ys := (((HV2.out.below hb3).more hb3.size).draws m).below hb4
    refine (refIn_rd r (by omega) HV4).mono ?_
    rw [Hbb.out]
    rintro e w' ⟨rfl, rfl⟩
    have hc4 : w4.cell? ⟨b2, o2, none⟩ = some (.int .i64 (q : Int)) := (hb4.cell (p := ⟨b2, o2, none⟩) (Nat.lt_of_lt_of_le hlt2 hb3.size)).trans ((hb3.cell (p := ⟨b2, o2, none⟩) hlt2).trans Hcz.out)
    have c2 := hb2.trans ((below_draws hb3 m).mono hb2.size)
    have c3 := c2.trans (hb4.mono c2.size)
    have hof4 := regOf_rd (by omega) HV4
    rw [Hof.out] at hof4
    have Hof4 := hid hof4
    have H4 := hid HV4
    have hw := hid (awake02 w4 (AbiIs.below Ha.out hg c3))
    clear hof4 HV4
    cases bb
    all_goals
      go_wp2_with (first | (go_at_call 14; refine Hof4.out.mono ?_; rintro e w' ⟨rfl, rfl⟩) | (go_at_call 11; refine hw.out.mono ?_; rintro e w5 ⟨rfl, hb5⟩))
      go_ret
      exact Holds.mk (c3.trans (hb5.mono c3.size))
  · have h6 := hid (fun W => first_none (ofL xs) W hx hq)
    have hys := listP_nil _ 32 hq
    clear hq
    generalize ofL xs = x at *
    rw [hys] at h2 h3 h4 h5 hin hof
    clear hys hlb
    generalize hbb : inL [] r = bb at *
    have Hbb := hid hbb
    have Hof := hid hof
    clear hbb hin hof
    go_enter Tryd.func5, Tryd.ntmps5
    go_wp2_with fail
    refine h1.out.mono ?_
    rintro e w' ⟨rfl, rfl⟩
    go_wp2_with fail
    refine h2.out.mono ?_
    rintro e w2 ⟨v2, rfl, hv2, hb2⟩
    have HV2 := hid hv2
    obtain ⟨a2, cap2, rfl, -⟩ := hv2
    go_wp2_with fail
    refine (h6.out _).mono ?_
    rintro e w' ⟨rfl, rfl⟩
    go_wp2_with fail
    refine (h3.out _).mono ?_
    rintro e w3 ⟨v3, rfl, hv3, hb3⟩
    go_wp2_with fail
    refine (refInts_yes (by simp) hv3 (HV2.out.below hb3)).mono ?_
    rintro e w' ⟨rfl, m, rfl⟩
    go_wp2_with fail
    refine (h4.out _).mono ?_
    rintro e w4 ⟨rfl, hb4⟩
    go_wp2_with fail
    refine (h5.out _).mono ?_
    rintro e w' ⟨rfl, rfl⟩
    go_wp2_with fail
    have HV4 : RdI .i64 w4 _ _ [] := (((HV2.out.below hb3).more hb3.size).draws m).below hb4
    refine (refIn_rd r (by simp) HV4).mono ?_
    rw [Hbb.out]
    rintro e w' ⟨rfl, rfl⟩
    have c2 := hb2.trans ((below_draws hb3 m).mono hb2.size)
    have c3 := c2.trans (hb4.mono c2.size)
    have hof4 := regOf_rd (by simp) HV4
    rw [Hof.out] at hof4
    have Hof4 := hid hof4
    have hw := hid (awake02 w4 (AbiIs.below Ha.out hg c3))
    clear hof4 HV4
    cases bb
    all_goals
      go_wp2_with (first | (go_at_call 14; refine Hof4.out.mono ?_; rintro e w' ⟨rfl, rfl⟩) | (go_at_call 11; refine hw.out.mono ?_; rintro e w5 ⟨rfl, hb5⟩))
      go_ret
      exact Holds.mk (c3.trans (hb5.mono c3.size))
theorem regChanges_walk (x : Nat) (r : Int) (w : World) (ha : AbiIs w) (hg : 0 < w.heap.size) (hx : x < 4294967296) :
    Calls Tryd.prog 6 #[.int .u32 x, .int .i64 r] w (Holds w) := by
  have Ha := hid ha
  have h1 := hid (setList_any x w hx)
  have h2 := hid (fun W => with_any x r W hx)
  have h3 := hid (fun W => less_any x r W hx)
  have hlb := listP_len x.testBit 32
  have hin := hid (fun i => inL_has x i)
  generalize listP x.testBit 32 = ys at *
  have ht1 := hid (fun i hi => withZ_test x r i hi)
  have ht2 := hid (fun i hi => lessZ_test x r i hi)
  have hxa := withZ_lt x r hx
  have hxb := lessZ_lt x r hx
  generalize withZ x r = xa at *
  generalize lessZ x r = xb at *
  clear ha
  go_enter Tryd.func6, Tryd.ntmps6
  go_wp2_with fail
  refine h1.out.mono ?_
  rintro e w1 ⟨v, rfl, hv, hb⟩
  have HV := hid hv
  clear hv
  have HB := hid hb
  clear hb
  go_wp2_with (first | (go_at_call 22; refine (h2.out _).mono ?_; rintro e w' ⟨rfl, rfl⟩) | (go_at_call 23; refine (h3.out _).mono ?_; rintro e w' ⟨rfl, rfl⟩))
  go_loop [9] (fun k => ∃ j : Nat, j ≤ 32 ∧ k = .int .i64 j) (fun k => 32 - (intOf k).toNat)
  case atStart => exact ⟨0, Nat.zero_le _, rfl⟩
  case round =>
    obtain ⟨j, hj, rfl⟩ := hrel
    by_cases hlt : j < 32
    · have q0 := hid (fun W => refBit_any x j W (by omega) (by omega))
      have q1 := hid (fun W => has_yes x j W hx hlt)
      have q2 := hid (fun W => has_yes xa j W hxa hlt)
      have q3 := hid (fun W => has_yes xb j W hxb hlt)
      have q4 := refIn_rd (j : Nat) (by omega) HV.out
      rw [hin.out, hasB_yes x j hlt] at q4
      have Q4 := hid q4
      clear q4
      rw [ht1.out j hlt] at q2
      rw [ht2.out j hlt] at q3
      rw [bitN_test] at q0
      by_cases he : (j : Int) = r
      · have e1 : ((j : Int) == r) = true := by simp [he]
        have e2 : ((j : Int) != r) = false := by simp [he]
        rw [decide_eq_true he] at q2 q3
        clear he
        generalize hbb : x.testBit j = bb at *
        clear hbb
        cases bb
        all_goals
          simp only [Bool.not_true, Bool.and_false, Bool.or_true, Bool.toNat_true, Bool.toNat_false] at q0 q2 q3
          go_wp2_with (first | (go_at_call 24; refine (q0.out _).mono ?_; rintro e w' ⟨rfl, rfl⟩) | (go_at_call 20; first | ((with_reducible refine (q1.out _).mono ?_); rintro e w' ⟨rfl, rfl⟩) | ((with_reducible refine (q2.out _).mono ?_); rintro e w' ⟨rfl, rfl⟩) | ((with_reducible refine (q3.out _).mono ?_); rintro e w' ⟨rfl, rfl⟩)) | (go_at_call 21; refine Q4.out.mono ?_; rintro e w' ⟨rfl, rfl⟩))
          go_round
          case rel => exact ⟨j + 1, by omega, by go_num⟩
          case measure => simp [intOf]; omega
      · have e1 : ((j : Int) == r) = false := by simp [he]
        have e2 : ((j : Int) != r) = true := by simp [he]
        rw [decide_eq_false he] at q2 q3
        clear he
        generalize hbb : x.testBit j = bb at *
        clear hbb
        cases bb
        all_goals
          simp only [Bool.not_false, Bool.and_true, Bool.or_false, Bool.toNat_true, Bool.toNat_false] at q0 q2 q3
          go_wp2_with (first | (go_at_call 24; refine (q0.out _).mono ?_; rintro e w' ⟨rfl, rfl⟩) | (go_at_call 20; first | ((with_reducible refine (q1.out _).mono ?_); rintro e w' ⟨rfl, rfl⟩) | ((with_reducible refine (q2.out _).mono ?_); rintro e w' ⟨rfl, rfl⟩) | ((with_reducible refine (q3.out _).mono ?_); rintro e w' ⟨rfl, rfl⟩)) | (go_at_call 21; refine Q4.out.mono ?_; rintro e w' ⟨rfl, rfl⟩))
          go_round
          case rel => exact ⟨j + 1, by omega, by go_num⟩
          case measure => simp [intOf]; omega
    · obtain rfl : j = 32 := by omega
      have hw := hid (awake02 w1 (AbiIs.below Ha.out hg HB.out))
      go_wp2_with (go_at_call 11; refine hw.out.mono ?_; rintro e w5 ⟨rfl, hb5⟩)
      go_ret
      exact Holds.mk (HB.out.trans (hb5.mono HB.out.size))
theorem regNames_law (r : Int) (w : World) (ha : AbiIs w) (hg : 0 < w.heap.size) (_ : (Lit.int .i64 r).wf = true) :
    Calls Tryd.prog 3 #[.int .i64 r] w (Holds w) := regNames_walk r w ha hg
theorem regParses_law (s : ByteArray) (w : World) (ha : AbiIs w) (hg : 0 < w.heap.size) (hs : s.size ≤ maxLen) :
    Calls Tryd.prog 4 #[.string s] w (Holds w) := regParses_walk s w ha hg hs
theorem SliceIn.rd {k : IntKind} {w : World} {a : Option Addr} {len cap : Nat} {zs : List Int} (h : SliceIn k w a len cap zs) : RdI k w w.heap.size (.slice a len cap) (zs.take len) := by
  obtain ⟨hl, hm, hz, _, hc⟩ := h
  have e : (zs.take len).length = len := by rw [List.length_take]; omega
  refine ⟨a, cap, by rw [e], fun hp => ?_⟩
  rw [e] at hp ⊢
  obtain ⟨b, off, ha, hb, hc⟩ := hc (by omega)
  refine ⟨b, off, ha, hb, fun i hi => ?_⟩
  rw [hc i (by omega)]
  simp [List.getD_eq_getElem?_getD, hi]
theorem regSets_law (a : Option Addr) (len cap : Nat) (zs : List Int) (r : Int) (w : World) (ha : AbiIs w) (hg : 0 < w.heap.size) (hs : SliceIn .i64 w a len cap zs) (_ : (Lit.int .i64 r).wf = true) :
    Calls Tryd.prog 5 #[.slice a len cap, .int .i64 r] w (Holds w) := by
  have hr := hs.rd
  obtain ⟨hl, hm, hz, _, _⟩ := hs
  unfold maxLen at hm
  by_cases h : 100 < len
  · exact regSets_long a len cap r w ha (by omega) h
  · exact regSets_short a len cap _ r w ha hg (by rw [List.length_take]; omega) (by omega) hr
theorem regChanges_law (x r : Int) (w : World) (ha : AbiIs w) (hg : 0 < w.heap.size) (hx : (Lit.int .u32 x).wf = true) (_ : (Lit.int .i64 r).wf = true) :
    Calls Tryd.prog 6 #[.int .u32 x, .int .i64 r] w (Holds w) := by
  have hx := bounds_u32 hx
  obtain ⟨x, rfl⟩ : ∃ m : Nat, x = m := ⟨x.toNat, by omega⟩
  exact regChanges_walk x r w ha hg (by omega)
end Go.Proofs.YtpjpcddjbebhjaaDoor
