/- The iterator over a set's elements. -/
import Derived.Test.YthmmmbfjhfocfaaDoorTz14
import Derived.Test.YthmmmbfjhfocfaaDoorRf14
import Derived.Shelf.Abstract
import Derived.Shelf.RegionOpen
import Derived.WalkKit
import Derived.OwnWalkIn
import Derived.TacticsInMore
import Derived.LoopNIn
import Derived.LoopIn
namespace Go.Proofs.YthmmmbfjhfocfaaDoor
open Go Go.RowKit
set_option linter.unusedVariables false
set_option linter.unusedSimpArgs false

theorem TzOk.kc {ok : Nat → TypeId → Prop} {w w' : World} (h : TzOk w) (hk : Kc ok w w') (hn : ∀ t, ¬ ok 0 t) : TzOk w' := fun i v hv => by
  have h1 := h i v hv
  unfold World.cell? at h1 ⊢
  split at h1
  · rename_i cs t fz hc
    rw [hk.cells _ _ _ _ hc (hn t)]
    exact h1
  · cases h1
/-- How many elements below c. -/
def cnt (f : Nat → Bool) : Nat → Nat
  | 0 => 0
  | c + 1 => cnt f c + (if f c = true then 1 else 0)
theorem cnt_succ (f : Nat → Bool) (c : Nat) : cnt f (c + 1) = cnt f c + (if f c = true then 1 else 0) := rfl
/-- The elements below 512, rising. -/
def els (f : Nat → Bool) : List Nat := (List.range 512).filter f
theorem cnt_len (f : Nat → Bool) : ∀ c, cnt f c = ((List.range c).filter f).length
  | 0 => rfl
  | c + 1 => by
    rw [List.range_succ, List.filter_append, List.length_append, ← cnt_len f c, cnt_succ]
    cases h : f c <;> simp [h]
theorem els_at (f : Nat → Bool) {x : Nat} (hx : x < 512) (hf : f x = true) : (els f)[cnt f x]? = some x := by
  unfold els
  have e : List.range 512 = List.range x ++ x :: (List.range (512 - x - 1)).map (· + (x + 1)) := by
    have h1 : 512 = x + ((512 - x - 1) + 1) := by omega
    conv => lhs; rw [h1, List.range_add]
    congr 1
    rw [List.range_succ_eq_map]
    simp
    intro a _; omega
  rw [e, List.filter_append, cnt_len, List.getElem?_append_right (Nat.le_refl _), Nat.sub_self]
  simp [hf]
theorem cnt_512 (f : Nat → Bool) : cnt f 512 = (els f).length := cnt_len f 512
theorem cnt_same {f : Nat → Bool} {c : Nat} : ∀ d, (∀ x, c ≤ x → x < c + d → f x = false) → cnt f (c + d) = cnt f c
  | 0, _ => rfl
  | d + 1, h => by
    have ih := cnt_same d fun x h1 h2 => h x h1 (by omega)
    rw [← Nat.add_assoc, cnt_succ, ih, h (c + d) (by omega) (by omega)]; simp
/-- The elements from c on. -/
def fromF (f : Nat → Bool) (c : Nat) : Nat → Bool := fun x => f x && decide (c ≤ x)
/-- A word that is not zero: its lowest element, and the word without it. -/
theorem wd_low {f : Nat → Bool} {i c : Nat} (h : wd (fromF f c) i ≠ 0) (hc : 64 * i ≤ c) : ∃ t q, t < 64 ∧ wd (fromF f c) i = 2 ^ t * (2 * q + 1) ∧ f (64 * i + t) = true ∧ c ≤ 64 * i + t ∧ cnt f (64 * i + t) = cnt f c ∧ wd (fromF f c) i &&& (wd (fromF f c) i - 1) = wd (fromF f (64 * i + t + 1)) i := by
  obtain ⟨t, q, hv, ht⟩ := oddN 64 _ h (wd_lt _ _)
  have hb : ∀ j, j < 64 → fromF f c (64 * i + j) = if j < t then false else (2 * q + 1).testBit (j - t) := fun j hj => by rw [← wd_bit (fromF f c) i j hj, hv, bit_odd]
  have h1 := hb t ht
  rw [if_neg (by omega), Nat.sub_self] at h1
  have h2 : (2 * q + 1).testBit 0 = true := by simp [Nat.testBit_zero]
  rw [h2] at h1
  unfold fromF at h1
  rw [Bool.and_eq_true, decide_eq_true_eq] at h1
  refine ⟨t, q, ht, hv, h1.1, h1.2, ?_, ?_⟩
  · have := cnt_same (f := f) (c := c) (64 * i + t - c) fun x hx1 hx2 => by
      have h3 := hb (x - 64 * i) (by omega)
      rw [if_pos (by omega), show 64 * i + (x - 64 * i) = x by omega] at h3
      unfold fromF at h3
      rw [decide_eq_true hx1, Bool.and_true] at h3
      exact h3
    rwa [show c + (64 * i + t - c) = 64 * i + t by omega] at this
  · refine wd_ext (Nat.lt_of_le_of_lt Nat.and_le_left (wd_lt _ _)) fun j hj => ?_
    have h4 := hb j hj
    have h5 := Nat.testBit_two_pow_mul_add (2 * q) (b := 0) (i := t) (Nat.two_pow_pos t) j
    rw [Nat.add_zero] at h5
    rw [hv, and_pred, h5]
    unfold fromF at h4 ⊢
    by_cases hjt : j < t
    · rw [if_pos hjt, decide_eq_false (by omega)]; simp
    · rw [if_neg hjt] at h4 ⊢
      by_cases hje : j = t
      · subst hje
        rw [decide_eq_false (by omega)]; simp [Nat.testBit_zero]
      · obtain ⟨m, hm⟩ : ∃ m, j - t = m + 1 := ⟨j - t - 1, by omega⟩
        rw [hm, Nat.testBit_succ, show 2 * q / 2 = q by omega]
        rw [hm, Nat.testBit_succ, show (2 * q + 1) / 2 = q by omega] at h4
        rw [← h4, decide_eq_true (by omega), decide_eq_true (by omega)]
theorem wd_none {f : Nat → Bool} {i c : Nat} (h : wd (fromF f c) i = 0) (hc : 64 * i ≤ c) (hc' : c ≤ 64 * i + 64) : cnt f (64 * (i + 1)) = cnt f c := by
  have := cnt_same (f := f) (c := c) (64 * (i + 1) - c) fun x hx1 hx2 => by
    have h3 := wd_bit (fromF f c) i (x - 64 * i) (by omega)
    rw [h, show 64 * i + (x - 64 * i) = x by omega] at h3
    unfold fromF at h3
    rw [decide_eq_true hx1, Bool.and_true] at h3
    rw [← h3]; simp
  rwa [show c + (64 * (i + 1) - c) = 64 * (i + 1) by omega] at this
theorem wd_from (f : Nat → Bool) (i : Nat) : wd (fromF f (64 * i)) i = wd f i := wd_congr fun j hj => by unfold fromF; simp
theorem all_make (p : Option Addr) (w : World) (F : Fence) (m : Nat) (hF : F.fn 41) (hro : F.round = none) : CallsIn F m Tryd.prog 41 #[.pointer p] w fun e w' => e = .returned (.func (.func 43) #[] #[.pointer (some ⟨w.heap.size, 0, none⟩)]) ∧ w' = w.alloc (.cells #[.pointer p] 66) := by
  refine callsIn_of_wp Tryd.func41 rfl hF ?_ hro
  simp only [Tryd.ntmps41, List.size_toArray, List.length_cons, List.length_nil, Nat.reduceAdd, Nat.reduceSub, Array.replicate_succ, Array.replicate_zero, List.push_toArray, List.append_toArray, List.nil_append, List.cons_append]
  gi_wp2
  go_ret
  exact ⟨rfl, rfl⟩
set_option maxRecDepth 100000 in
set_option maxHeartbeats 1000000 in
theorem all1_tells (st : Bool) (f : Nat → Bool) (F : Nat → Value) (ok : Nat → TypeId → Prop) (Bx b o N : Nat) (t : TypeId) (w : World) (hx : Hb w Bx 66 1 (fun _ => .pointer (some ⟨b, o, none⟩))) (hb : Hb w b t N F) (hs : SetIn F o f) (ho : o + 8 ≤ N) (hG : TzOk w) (h1 : ¬ ok Bx 66) (h2 : ¬ ok b t) (h3 : ∀ t, ¬ ok 0 t) :
    Tells st Tryd.prog 43 #[.pointer (some ⟨Bx, 0, none⟩)] ((els f).map fun (x : Nat) => #[.int .i64 x]) ok w := fun l J Jx W hW hJ hJx hY h0 m => by
  have hxW := (hx.kc hW h1).cell (i := 0) (by omega)
  have hbW := hb.kc hW h2
  have hGW := hG.kc hW h3
  refine callsIn_of_wp Tryd.func43 rfl trivial ?_ rfl
  simp only [Tryd.ntmps43, List.size_toArray, List.length_cons, List.length_nil, Nat.reduceAdd, Nat.reduceSub, Array.replicate_succ, Array.replicate_zero, List.push_toArray, List.append_toArray, List.nil_append, List.cons_append]
  have HY := hid hY
  clear hY
  gi_wp2
  gi_loopw [6] (fun i wr => ∃ j : Nat, j ≤ 8 ∧ i = .int .i64 j ∧ Hb wr b t N F ∧ TzOk wr ∧ J (cnt f (64 * j)) wr) (fun i _ => 8 - (intOf i).toNat)
  case atStart => exact ⟨0, Nat.zero_le _, rfl, hbW, hGW, h0⟩
  case round =>
    obtain ⟨j, hj, rfl, hb1, hG1, hJ1⟩ := hrel
    by_cases hlt : j < 8
    · have c1 := hb1.cell (i := o + j) (by omega)
      rw [hs j hlt] at c1
      have hj' : ((j : Int)).toNat = j := by omega
      gi_wp2
      gi_region
      gi_wp2
      rw [show decide ((j : Int) < 8) = true from decide_eq_true (by omega)]
      gi_loopw [4] (fun v wr => ∃ c : Nat, 64 * j ≤ c ∧ c ≤ 64 * j + 64 ∧ v = u64V (wd (fromF f c) j) ∧ Hb wr b t N F ∧ TzOk wr ∧ J (cnt f c) wr) (fun v _ => (intOf v).toNat)
      case atStart => exact ⟨64 * j, Nat.le_refl _, by omega, by rw [wd_from], hb1, hG1, ownFrom_drew hJ hJ1⟩
      case round =>
        obtain ⟨c, hc1, hc2, rfl, hb2, hG2, hJ2⟩ := hrel
        by_cases hz : wd (fromF f c) j = 0
        · rw [hz]
          gi_wp2
          go_roundw
          case rel => exact ⟨j + 1, by omega, by go_num, hb2, hG2, by rw [wd_none hz hc1 hc2]; exact hJ2⟩
          case measure => simp [intOf]; omega
        · obtain ⟨tb, q, ht, hv, hf, hcl, hcn, hnx⟩ := wd_low hz hc1
          have hlt64 := wd_lt (fromF f c) j
          have HT := hid (fun w hG => (hv ▸ tz_ret tb q ht (by rw [← hv]; exact hlt64) w hG : Calls Tryd.prog 44 #[.int .u64 ((wd (fromF f c) j : Nat) : Int)] w _))
          have hxs : ((els f).map fun (x : Nat) => #[Value.int .i64 x])[cnt f c]? = some #[.int .i64 ((64 * j + tb : Nat) : Int)] := by
            rw [List.getElem?_map, ← hcn, els_at f (by omega) hf]; rfl
          have Hv := hid hv
          have Hx := hid hxs
          have Hn := hid hnx
          clear hv hxs hnx
          generalize hV : wd (fromF f c) j = V at hz HT Hn hlt64 ⊢
          gi_wp2_with ((refine ⟨trivial, (fun h => by cases h), ?_⟩; refine (callsIn_wide.2 (HT.out _ hG2)).mono ?_; rintro e w3 ⟨rfl, rfl⟩; refine Hid.out ?_))
          have hk0 : cnt f c < ((els f).map fun (x : Nat) => #[Value.int .i64 x]).length := (List.getElem?_eq_some_iff.1 Hx.out).1
          obtain ⟨fn, tmps, assign, body, hy, hR⟩ := HY.out (cnt f c) _ w3 (m - 1) Hx.out hJ2
          rw [show ((64 * j + tb : Nat) : Int) = (j : Int) * 64 + tb by omega] at hy
          have hand := hid (u64_and_nat V (V - 1) hlt64 (by omega))
          have hw1 : (V : Int) - 1 = ((V - 1 : Nat) : Int) := by omega
          have Hw1 := hid hw1
          clear hw1
          have Hk0 := hid hk0
          clear hk0
          refine hid ?_
          gi_wp2
          refine ⟨(fun h => by cases h), ?_⟩
          refine hR.mono ?_
          rintro e W5 (⟨rfl, hJ5, hk5⟩ | ⟨_, rfl, hx5⟩)
          · have hb5 := hb2.kc hk5 h2
            have hG5 := hG2.kc hk5 h3
            gi_wp2
            rw [Hw1.out, hand.out, Hn.out]
            go_roundw
            case rel => exact ⟨64 * j + tb + 1, by omega, by omega, rfl, hb5, hG5, by rw [cnt_succ, hf, hcn]; exact hJ5⟩
            case measure =>
              have hle : wd (fromF f (64 * j + tb + 1)) j ≤ V - 1 := by rw [← Hn.out]; exact Nat.and_le_right
              simp [intOf]; omega
          · gi_wp2
            refine bodyPost_ret (results_none rfl _ _ _) rfl ?_
            exact ⟨⟨_, rfl⟩, .inr ⟨cnt f c, Hk0.out, hx5⟩⟩
    · obtain rfl : j = 8 := by omega
      gi_wp2
      go_end0
      exact ⟨⟨_, rfl⟩, .inl (by rw [List.length_map, ← cnt_512]; exact hJ1)⟩
end Go.Proofs.YthmmmbfjhfocfaaDoor
