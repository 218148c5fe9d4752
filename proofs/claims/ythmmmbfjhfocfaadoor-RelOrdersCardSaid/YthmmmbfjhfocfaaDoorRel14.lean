/- Contracts of package rel: New, Len, isElement, Add, Has. -/
import Derived.Test.YthmmmbfjhfocfaaDoorSet14
import Derived.Deep.OwnRows
namespace Go.Proofs.YthmmmbfjhfocfaaDoor
open Go Go.RowKit
set_option linter.unusedVariables false
set_option linter.unusedSimpArgs false

def elF (n : Nat) : Nat → Bool := fun e => decide (e < n)
/-- What New has made before its loop, and what each of its rounds makes of it. -/
def newV (b1 n j : Nat) : Nat → Value := fun i => if i < 8 then u64V (wd (elF j) i) else .slice (some ⟨b1, 0, none⟩) n n
def relV (b1 n : Nat) : Nat → Value := newV b1 n n
def rowsV (m : Nat → Nat → Bool) : Nat → Value := fun k => u64V (wd (m (k / 8)) (k % 8))
/-- The relation at block b0: n elements, the pairs m. -/
structure RelC (w : World) (b0 b1 n : Nat) (m : Nat → Nat → Bool) : Prop where
  hd : Hb w b0 57 9 (relV b1 n)
  rows : Hb w b1 55 (n * 8) (rowsV m)
  ne : b0 ≠ b1
  n512 : n ≤ 512
  inn : ∀ a b, m a b = true → a < n ∧ b < n
theorem setInfo : (Tryd.prog.info? 55).map (fun i => (i.zero, i.size, i.bytes)) = some (some (.agg #[.int .u64 0, .int .u64 0, .int .u64 0, .int .u64 0, .int .u64 0, .int .u64 0, .int .u64 0, .int .u64 0]), 8, 64) := by kernel_rfl
def z8 : Value := .agg #[.int .u64 0, .int .u64 0, .int .u64 0, .int .u64 0, .int .u64 0, .int .u64 0, .int .u64 0, .int .u64 0]
def zc8 : Array Value := #[.int .u64 0, .int .u64 0, .int .u64 0, .int .u64 0, .int .u64 0, .int .u64 0, .int .u64 0, .int .u64 0]
theorem wd_zero (i : Nat) : wd (fun _ => false) i = 0 := (wd_ext (by decide) fun j _ => by simp).symm
theorem elF_0 : elF 0 = fun _ => false := by funext e; simp [elF]
theorem made_get (n k : Nat) (h : k < n * 8) : (madeCells zc8 (n * 8))[k]? = some (rowsV (fun _ _ => false) k) := by
  unfold rowsV
  rw [wd_zero]
  unfold madeCells
  have h8 : k % 8 < 8 := Nat.mod_lt _ (by decide)
  have hz : ∀ j, j < 8 → zc8[j]! = .int .u64 0 := fun j hj => by
    have : j = 0 ∨ j = 1 ∨ j = 2 ∨ j = 3 ∨ j = 4 ∨ j = 5 ∨ j = 6 ∨ j = 7 := by omega
    rcases this with rfl | rfl | rfl | rfl | rfl | rfl | rfl | rfl <;> rfl
  have hs : zc8.size = 8 := by decide +kernel
  simp [h, hs, hz _ h8]
theorem make_set (N : Nat) (hN : N ≤ 512) (v : Int) (hv : v = N) (W : World) : (Instr.makeSlice 52 (.int .i64 v) (.int .i64 v)).run Tryd.prog W = .ok (.slice (some ⟨W.heap.size, 0, none⟩) N N) (W.alloc (.cells (madeCells zc8 (N * 8)) 55)) := by
  obtain ⟨i0, hi, hz0, hz1, hz2⟩ := info_parts setInfo
  have hmk := run_make (P := Tryd.prog) W 52 55 i0 _ Tryd.underlying52 hi hz0 .i64 .i64 N N (by omega) (Int.le_refl _) (by rw [hz2]; omega) (by omega)
  rw [hz1, Int.toNat_natCast] at hmk
  rw [hv]
  exact hmk
theorem newV_in (b1 n j : Nat) : SetIn (newV b1 n j) 0 (elF j) := fun i hi => by unfold newV; rw [Nat.zero_add, if_pos hi]
theorem newV_step (b1 n j : Nat) : setF (newV b1 n j) 0 (fun x => x == j || elF j x) = newV b1 n (j + 1) := by
  have e : (fun x => x == j || elF j x) = elF (j + 1) := by
    funext x
    unfold elF
    by_cases h : x = j
    · subst h; simp
    · have : decide (x < j + 1) = decide (x < j) := by
        by_cases h2 : x < j
        · rw [decide_eq_true h2, decide_eq_true (by omega)]
        · rw [decide_eq_false h2, decide_eq_false (by omega)]
      rw [this]; simp [h]
  rw [e]
  funext k
  unfold setF newV
  by_cases h : k < 8
  · rw [if_pos ⟨by omega, by omega⟩, if_pos h, Nat.sub_zero]
  · rw [if_neg (by omega), if_neg h, if_neg h]
/-- What New answers. -/
def NewR (w : World) (N : Nat) : Ending → World → Prop := fun e w' => ∃ b0 b1, e = .returned (.pointer (some ⟨b0, 0, none⟩)) ∧ RelC w' b0 b1 N (fun _ _ => false) ∧ w.heap.size ≤ b0 ∧ w.heap.size ≤ b1 ∧ Below w.heap.size w w'
theorem new_start (b1 n : Nat) : ∀ i, i < #[Value.int .u64 0, .int .u64 0, .int .u64 0, .int .u64 0, .int .u64 0, .int .u64 0, .int .u64 0, .int .u64 0, .slice (some ⟨b1, 0, none⟩) n n].size → #[Value.int .u64 0, .int .u64 0, .int .u64 0, .int .u64 0, .int .u64 0, .int .u64 0, .int .u64 0, .int .u64 0, .slice (some ⟨b1, 0, none⟩) n n][i]? = some (newV b1 n 0 i) := fun i hi => by
  have hi : i < 9 := hi
  unfold newV
  rw [elF_0]
  by_cases h8 : i < 8
  · rw [if_pos h8, wd_zero]
    have : i = 0 ∨ i = 1 ∨ i = 2 ∨ i = 3 ∨ i = 4 ∨ i = 5 ∨ i = 6 ∨ i = 7 := by omega
    rcases this with rfl | rfl | rfl | rfl | rfl | rfl | rfl | rfl <;> rfl
  · obtain rfl : i = 8 := by omega
    rfl
theorem new_mid (N : Nat) (hN : N ≤ 512) (w : World) : Calls Tryd.prog 9 #[.int .i64 N] w (NewR w N) := by
  have hN5 : N ≤ 512 := by have := hN; omega
  have hmk := make_set N (by have := hN; omega) N (by have := hN; omega)
  go_enter Tryd.func9, Tryd.ntmps9
  go_wp2
  have hr0 := (Hb.new w (madeCells zc8 (N * 8)) 55 (f := rowsV fun _ _ => false) (fun i hi => made_get _ i (by rw [size_madeCells] at hi; exact hi)))
  rw [size_madeCells] at hr0
  have hr1 := hr0.alloc (.cells #[.int .u64 0, .int .u64 0, .int .u64 0, .int .u64 0, .int .u64 0, .int .u64 0, .int .u64 0, .int .u64 0, .slice (some ⟨w.heap.size, 0, none⟩) N N] 57)
  have hh1 := Hb.new (w.alloc (.cells (madeCells zc8 (N * 8)) 55)) #[.int .u64 0, .int .u64 0, .int .u64 0, .int .u64 0, .int .u64 0, .int .u64 0, .int .u64 0, .int .u64 0, .slice (some ⟨w.heap.size, 0, none⟩) N N] 57 (f := newV w.heap.size N 0) (new_start _ _)
  have hB1 : Below w.heap.size w ((w.alloc (.cells (madeCells zc8 (N * 8)) 55)).alloc (.cells #[.int .u64 0, .int .u64 0, .int .u64 0, .int .u64 0, .int .u64 0, .int .u64 0, .int .u64 0, .int .u64 0, .slice (some ⟨w.heap.size, 0, none⟩) N N] 57)) := ((Below.refl _ w).alloc (Nat.le_refl _) _).alloc (by simp) _
  rw [World.size_alloc] at hh1
  generalize (w.alloc (.cells (madeCells zc8 (N * 8)) 55)).alloc _ = W1 at hr1 hh1 hB1 ⊢
  obtain ⟨B, hB⟩ : ∃ B, B = w.heap.size := ⟨_, rfl⟩
  rw [← hB] at hr1 hh1 hB1 ⊢
  have HB := hid hB
  clear hB hr0
  go_loopw [16] (fun k wr => ∃ j : Nat, j ≤ N ∧ k = .int .i64 j ∧ Hb wr (B + 1) 57 9 (newV B N j) ∧ Hb wr B 55 (N * 8) (rowsV fun _ _ => false) ∧ Below B w wr) (fun k _ => N - (intOf k).toNat)
  case atStart => exact ⟨0, Nat.zero_le _, rfl, hh1, hr1, hB1⟩
  case round =>
    obtain ⟨j, hj, rfl, hh, hr, hB⟩ := hrel
    by_cases hlt : j < N
    · have HC := hid (fun W (h : Hb W (B + 1) 57 9 (newV B N j)) => sadd h (newV_in B N j) (by omega) (e := j) (by have := hN; omega))
      have Hh := hid hh
      clear hh
      go_wp2_with (go_at_call 31; refine (HC.out _ Hh.out).mono ?_; rintro e w2 ⟨rfl, hh2, hf2⟩)
      rw [newV_step] at hh2
      have hr2 := hr.fr hf2 (by simp)
      have hB2 := Fr.below hB hf2 (by have := hr.lt; omega) (by simp)
      go_roundw
      case rel => exact ⟨j + 1, by omega, by go_num, hh2, hr2, hB2⟩
      case measure => simp [intOf]; omega
    · obtain rfl : j = N := by omega
      go_wp2
      go_ret
      obtain rfl := HB.out
      exact ⟨_, w.heap.size, rfl, ⟨hh, hr, by omega, by have := hN; omega, fun _ _ h => by cases h⟩, by omega, Nat.le_refl _, hB⟩
theorem new_low (n : Int) (hn : n < 0) (N : Nat) (hN : Hid (N = 0)) (w : World) : Calls Tryd.prog 9 #[.int .i64 n] w (NewR w N) := by
  have hN5 : N ≤ 512 := by have := hN.out; omega
  have hmk := make_set N (by have := hN.out; omega) 0 (by have := hN.out; omega)
  go_enter Tryd.func9, Tryd.ntmps9
  go_wp2
  have hr0 := (Hb.new w (madeCells zc8 (N * 8)) 55 (f := rowsV fun _ _ => false) (fun i hi => made_get _ i (by rw [size_madeCells] at hi; exact hi)))
  rw [size_madeCells] at hr0
  have hr1 := hr0.alloc (.cells #[.int .u64 0, .int .u64 0, .int .u64 0, .int .u64 0, .int .u64 0, .int .u64 0, .int .u64 0, .int .u64 0, .slice (some ⟨w.heap.size, 0, none⟩) N N] 57)
  have hh1 := Hb.new (w.alloc (.cells (madeCells zc8 (N * 8)) 55)) #[.int .u64 0, .int .u64 0, .int .u64 0, .int .u64 0, .int .u64 0, .int .u64 0, .int .u64 0, .int .u64 0, .slice (some ⟨w.heap.size, 0, none⟩) N N] 57 (f := newV w.heap.size N 0) (new_start _ _)
  have hB1 : Below w.heap.size w ((w.alloc (.cells (madeCells zc8 (N * 8)) 55)).alloc (.cells #[.int .u64 0, .int .u64 0, .int .u64 0, .int .u64 0, .int .u64 0, .int .u64 0, .int .u64 0, .int .u64 0, .slice (some ⟨w.heap.size, 0, none⟩) N N] 57)) := ((Below.refl _ w).alloc (Nat.le_refl _) _).alloc (by simp) _
  rw [World.size_alloc] at hh1
  generalize (w.alloc (.cells (madeCells zc8 (N * 8)) 55)).alloc _ = W1 at hr1 hh1 hB1 ⊢
  obtain ⟨B, hB⟩ : ∃ B, B = w.heap.size := ⟨_, rfl⟩
  rw [← hB] at hr1 hh1 hB1 ⊢
  have HB := hid hB
  clear hB hr0
  go_loopw [16] (fun k wr => ∃ j : Nat, j ≤ N ∧ k = .int .i64 j ∧ Hb wr (B + 1) 57 9 (newV B N j) ∧ Hb wr B 55 (N * 8) (rowsV fun _ _ => false) ∧ Below B w wr) (fun k _ => N - (intOf k).toNat)
  case atStart => exact ⟨0, Nat.zero_le _, rfl, hh1, hr1, hB1⟩
  case round =>
    obtain ⟨j, hj, rfl, hh, hr, hB⟩ := hrel
    by_cases hlt : j < N
    · have HC := hid (fun W (h : Hb W (B + 1) 57 9 (newV B N j)) => sadd h (newV_in B N j) (by omega) (e := j) (by have := hN.out; omega))
      have Hh := hid hh
      clear hh
      go_wp2_with (go_at_call 31; refine (HC.out _ Hh.out).mono ?_; rintro e w2 ⟨rfl, hh2, hf2⟩)
      rw [newV_step] at hh2
      have hr2 := hr.fr hf2 (by simp)
      have hB2 := Fr.below hB hf2 (by have := hr.lt; omega) (by simp)
      go_roundw
      case rel => exact ⟨j + 1, by omega, by go_num, hh2, hr2, hB2⟩
      case measure => simp [intOf]; omega
    · obtain rfl : j = N := by omega
      go_wp2
      go_ret
      obtain rfl := HB.out
      exact ⟨_, w.heap.size, rfl, ⟨hh, hr, by omega, by have := hN.out; omega, fun _ _ h => by cases h⟩, by omega, Nat.le_refl _, hB⟩
theorem new_high (n : Int) (hn : 512 < n) (N : Nat) (hN : Hid (N = 512)) (w : World) : Calls Tryd.prog 9 #[.int .i64 n] w (NewR w N) := by
  have hN5 : N ≤ 512 := by have := hN.out; omega
  have hmk := make_set N (by have := hN.out; omega) 512 (by have := hN.out; omega)
  go_enter Tryd.func9, Tryd.ntmps9
  go_wp2
  have hr0 := (Hb.new w (madeCells zc8 (N * 8)) 55 (f := rowsV fun _ _ => false) (fun i hi => made_get _ i (by rw [size_madeCells] at hi; exact hi)))
  rw [size_madeCells] at hr0
  have hr1 := hr0.alloc (.cells #[.int .u64 0, .int .u64 0, .int .u64 0, .int .u64 0, .int .u64 0, .int .u64 0, .int .u64 0, .int .u64 0, .slice (some ⟨w.heap.size, 0, none⟩) N N] 57)
  have hh1 := Hb.new (w.alloc (.cells (madeCells zc8 (N * 8)) 55)) #[.int .u64 0, .int .u64 0, .int .u64 0, .int .u64 0, .int .u64 0, .int .u64 0, .int .u64 0, .int .u64 0, .slice (some ⟨w.heap.size, 0, none⟩) N N] 57 (f := newV w.heap.size N 0) (new_start _ _)
  have hB1 : Below w.heap.size w ((w.alloc (.cells (madeCells zc8 (N * 8)) 55)).alloc (.cells #[.int .u64 0, .int .u64 0, .int .u64 0, .int .u64 0, .int .u64 0, .int .u64 0, .int .u64 0, .int .u64 0, .slice (some ⟨w.heap.size, 0, none⟩) N N] 57)) := ((Below.refl _ w).alloc (Nat.le_refl _) _).alloc (by simp) _
  rw [World.size_alloc] at hh1
  generalize (w.alloc (.cells (madeCells zc8 (N * 8)) 55)).alloc _ = W1 at hr1 hh1 hB1 ⊢
  obtain ⟨B, hB⟩ : ∃ B, B = w.heap.size := ⟨_, rfl⟩
  rw [← hB] at hr1 hh1 hB1 ⊢
  have HB := hid hB
  clear hB hr0
  go_loopw [16] (fun k wr => ∃ j : Nat, j ≤ N ∧ k = .int .i64 j ∧ Hb wr (B + 1) 57 9 (newV B N j) ∧ Hb wr B 55 (N * 8) (rowsV fun _ _ => false) ∧ Below B w wr) (fun k _ => N - (intOf k).toNat)
  case atStart => exact ⟨0, Nat.zero_le _, rfl, hh1, hr1, hB1⟩
  case round =>
    obtain ⟨j, hj, rfl, hh, hr, hB⟩ := hrel
    by_cases hlt : j < N
    · have HC := hid (fun W (h : Hb W (B + 1) 57 9 (newV B N j)) => sadd h (newV_in B N j) (by omega) (e := j) (by have := hN.out; omega))
      have Hh := hid hh
      clear hh
      go_wp2_with (go_at_call 31; refine (HC.out _ Hh.out).mono ?_; rintro e w2 ⟨rfl, hh2, hf2⟩)
      rw [newV_step] at hh2
      have hr2 := hr.fr hf2 (by simp)
      have hB2 := Fr.below hB hf2 (by have := hr.lt; omega) (by simp)
      go_roundw
      case rel => exact ⟨j + 1, by omega, by go_num, hh2, hr2, hB2⟩
      case measure => simp [intOf]; omega
    · obtain rfl : j = N := by omega
      go_wp2
      go_ret
      obtain rfl := HB.out
      exact ⟨_, w.heap.size, rfl, ⟨hh, hr, by omega, by have := hN.out; omega, fun _ _ h => by cases h⟩, by omega, Nat.le_refl _, hB⟩
/-- How many elements New makes. -/
def clN (n : Int) : Nat := (min (max n 0) 512).toNat
theorem clN_le (n : Int) : clN n ≤ 512 := by unfold clN; omega
theorem clN_self (n : Nat) (h : n ≤ 512) : clN n = n := by unfold clN; omega
theorem new_ret (n : Int) (w : World) : Calls Tryd.prog 9 #[.int .i64 n] w (NewR w (clN n)) := by
  by_cases h1 : n < 0
  · exact new_low n h1 _ (hid (by unfold clN; omega)) w
  · by_cases h2 : 512 < n
    · exact new_high n h2 _ (hid (by unfold clN; omega)) w
    · obtain ⟨N, rfl⟩ := Int.eq_ofNat_of_zero_le (show 0 ≤ n by omega)
      rw [clN_self N (by omega)]; exact new_mid N (by omega) w
end Go.Proofs.YthmmmbfjhfocfaaDoor
