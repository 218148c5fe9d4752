/- W14, Mem15, Set14, Rel14. -/
import Derived.Test.YtchjjbcmbdmlgaaK02
import Derived.Test.YtchjjbcmbdmlgaaRows
import Derived.Deep.MidRow
import Derived.Deep.WholeRow
import Derived.RegionTactic
import Derived.ChangeAlike
import Derived.LoopTactic
import Derived.Deep.OwnRows
set_option linter.unusedVariables false
set_option linter.unusedSimpArgs false
namespace Go.Proofs.Ytchjjbcmbdmlgaa
open Go Go.RowKit
def wdN (g : Nat → Bool) : Nat → Nat
  | 0 => 0
  | k + 1 => wdN g k + (if g k = true then 2 ^ k else 0)
theorem wdN_lt (g : Nat → Bool) : ∀ k, wdN g k < 2 ^ k
  | 0 => by simp [wdN]
  | k + 1 => by
    have := wdN_lt g k
    unfold wdN
    rw [Nat.pow_succ]
    split <;> omega
theorem wdN_bit (g : Nat → Bool) : ∀ k j, (wdN g k).testBit j = (decide (j < k) && g j)
  | 0, j => by simp [wdN]
  | k + 1, j => by
    have hlt := wdN_lt g k
    have ih := wdN_bit g k j
    unfold wdN
    by_cases hk : g k = true
    · have hor : wdN g k + 2 ^ k = 2 ^ k ||| wdN g k := by
        have := Nat.two_pow_add_eq_or_of_lt hlt 1
        simp at this
        omega
      rw [if_pos hk, hor, Nat.testBit_or, ih, Nat.testBit_two_pow]
      by_cases hj : j = k
      · subst hj; simp [hk]
      · have e1 : decide (k = j) = false := decide_eq_false (fun h => hj h.symm)
        have e2 : decide (j < k + 1) = decide (j < k) := by
          by_cases h : j < k
          · rw [decide_eq_true h, decide_eq_true (by omega)]
          · rw [decide_eq_false h, decide_eq_false (by omega)]
        rw [e1, e2]; simp
    · rw [if_neg hk, Nat.add_zero, ih]
      by_cases hj : j = k
      · subst hj; simp [hk]
      · have e2 : decide (j < k + 1) = decide (j < k) := by
          by_cases h : j < k
          · rw [decide_eq_true h, decide_eq_true (by omega)]
          · rw [decide_eq_false h, decide_eq_false (by omega)]
        rw [e2]
def wd (f : Nat → Bool) (i : Nat) : Nat := wdN (fun j => f (64 * i + j)) 64
theorem wd_lt (f : Nat → Bool) (i : Nat) : wd f i < 18446744073709551616 := wdN_lt _ 64
theorem wd_bit (f : Nat → Bool) (i j : Nat) (h : j < 64) : (wd f i).testBit j = f (64 * i + j) := by
  unfold wd; rw [wdN_bit]; simp [h]
theorem wd_ext {f : Nat → Bool} {i x : Nat} (hx : x < 18446744073709551616) (h : ∀ j, j < 64 → x.testBit j = f (64 * i + j)) : x = wd f i := by
  refine Nat.eq_of_testBit_eq fun j => ?_
  by_cases hj : j < 64
  · rw [h j hj, wd_bit f i j hj]
  · have hp : (2 : Nat) ^ 64 ≤ 2 ^ j := Nat.pow_le_pow_right (by decide) (by omega)
    have e : (2 : Nat) ^ 64 = 18446744073709551616 := rfl
    rw [Nat.testBit_lt_two_pow (by omega), Nat.testBit_lt_two_pow (by have := wd_lt f i; omega)]
theorem wd_congr {f g : Nat → Bool} {i : Nat} (h : ∀ j, j < 64 → f (64 * i + j) = g (64 * i + j)) : wd f i = wd g i :=
  wd_ext (wd_lt f i) fun j hj => by rw [wd_bit f i j hj, h j hj]
theorem pow64_lt {k : Nat} (h : k < 64) : 2 ^ k < 18446744073709551616 := Nat.lt_of_lt_of_le (Nat.pow_lt_pow_right (by decide) h) (Nat.le_refl _)
theorem wrap_pow64 {k : Nat} (h : k < 64) : IntKind.u64.wrap (2 ^ k) = ((2 ^ k : Nat) : Int) := by
  have := pow64_lt h
  have e : ((2 : Int) ^ k) = ((2 ^ k : Nat) : Int) := by simp
  rw [e, IntKind.wrap_u64]
  generalize (2 : Nat) ^ k = p at this ⊢
  omega
theorem wd_add {f : Nat → Bool} {e : Nat} : wd f (e / 64) ||| 2 ^ (e % 64) = wd (fun x => x == e || f x) (e / 64) := by
  have h1 := wd_lt f (e / 64)
  have h2 := pow64_lt (Nat.mod_lt e (by decide : 0 < 64))
  refine wd_ext (Nat.or_lt_two_pow (n := 64) h1 h2) fun j hj => ?_
  rw [Nat.testBit_or, wd_bit _ _ _ hj, Nat.testBit_two_pow]
  by_cases hk : e % 64 = j
  · rw [decide_eq_true hk, show (64 * (e / 64) + j == e) = true from by simp; omega]; simp
  · rw [decide_eq_false hk, show (64 * (e / 64) + j == e) = false from by simp; omega]; simp
theorem wd_add_other {f : Nat → Bool} {e i : Nat} (h : i ≠ e / 64) : wd (fun x => x == e || f x) i = wd f i :=
  wd_congr fun j hj => by rw [show (64 * i + j == e) = false from by simp; omega]; rfl
theorem wd_has (f : Nat → Bool) (e : Nat) : ((((wd f (e / 64) : Nat) : Int) / 2 ^ (e % 64)).tmod 2 == 1) = f e := by
  have h := wd_bit f (e / 64) (e % 64) (Nat.mod_lt e (by decide))
  rw [show 64 * (e / 64) + e % 64 = e from Nat.div_add_mod e 64] at h
  rw [← h, Nat.testBit_eq_decide_div_mod_eq]
  have : ((wd f (e / 64) : Nat) : Int) / 2 ^ (e % 64) = ((wd f (e / 64) / 2 ^ (e % 64) : Nat) : Int) := by simp
  rw [this, Int.tmod_eq_emod_of_nonneg (Int.natCast_nonneg _)]
  by_cases hb : wd f (e / 64) / 2 ^ (e % 64) % 2 = 1
  · rw [decide_eq_true hb]; simp; omega
  · rw [decide_eq_false hb]; simp; omega
abbrev u64V (x : Nat) : Value := .int .u64 (x : Int)
def setF (F : Nat → Value) (o : Nat) (g : Nat → Bool) : Nat → Value := fun k => if o ≤ k ∧ k < o + 8 then u64V (wd g (k - o)) else F k
def SetIn (F : Nat → Value) (o : Nat) (f : Nat → Bool) : Prop := ∀ i, i < 8 → F (o + i) = u64V (wd f i)
end Go.Proofs.Ytchjjbcmbdmlgaa
namespace Go.Proofs.Ytchjjbcmbdmlgaa
open Go Go.RowKit
def updR (F : Nat → Value) (o : Nat) (vs : List Value) : Nat → Value := fun k => if o ≤ k ∧ k < o + vs.length then vs.getD (k - o) undef else F k
theorem updR_out {F : Nat → Value} {o k : Nat} {vs : List Value} (h : k < o ∨ o + vs.length ≤ k) : updR F o vs k = F k := by
  unfold updR; rw [if_neg (by omega)]
theorem updR_in {F : Nat → Value} {o : Nat} {vs : List Value} {j : Nat} (h : j < vs.length) : updR F o vs (o + j) = vs.getD j undef := by
  unfold updR; rw [if_pos ⟨by omega, by omega⟩, Nat.add_sub_cancel_left]
section
variable {w : World} {b N : Nat} {t : TypeId} {F : Nat → Value}
theorem Hb.range (h : Hb w b t N F) {o : Nat} {vs : List Value} (hv : ∀ j, j < vs.length → vs[j]? = some (F (o + j))) (hn : o + vs.length ≤ N) : w.rangeAt b o vs := fun j v hj => by
  have hl : j < vs.length := (List.getElem?_eq_some_iff.1 hj).1
  rw [h.cell (by omega), ← hv j hl, hj]
theorem Hb.there (h : Hb w b t N F) {o n : Nat} (hn : o + n ≤ N) : w.there b o n := fun j hj => ⟨by rw [h.cell (by omega)]; rfl, h.free _⟩
theorem Hb.sets : ∀ {vs : List Value} {w : World} {F : Nat → Value} {o : Nat}, Hb w b t N F → Hb (w.setCells b o vs) b t N (updR F o vs)
  | [], w, F, o, h => h.congr fun i _ => by rw [updR_out (by simp; omega)]
  | v :: r, w, F, o, h => by
    rw [World.setCells]
    refine (Hb.sets (vs := r) (h.set v)).congr fun i hi => ?_
    unfold updR updF
    by_cases h1 : i = o
    · subst h1; rw [if_neg (by omega), if_pos rfl, if_pos ⟨by omega, by simp⟩, Nat.sub_self]; rfl
    · by_cases h2 : o + 1 ≤ i ∧ i < o + 1 + r.length
      · rw [if_pos h2, if_pos ⟨by omega, by simp; omega⟩, show i - o = i - (o + 1) + 1 by omega]; simp
      · rw [if_neg h2, if_neg h1, if_neg (by simp; omega)]
end
theorem Fr.sets {T : List Nat} {a : World} {b : Nat} (hp : a.heap.size ≤ b ∨ b ∈ T) : ∀ (vs : List Value) {w : World} (o : Nat), Fr T a w → Fr T a (w.setCells b o vs)
  | [], _, _, h => h
  | v :: r, w, o, h => by
    rw [World.setCells]
    exact Fr.sets hp r (o + 1) (h.set hp v)
structure Rg where
  v : Int
  k : Bool
  s : Nat → Bool
def setC (s : Nat → Bool) (j : Nat) : Value := u64V (wd s j)
abbrev setA (s : Nat → Bool) : Array Value := #[u64V (wd s 0), u64V (wd s 1), u64V (wd s 2), u64V (wd s 3), u64V (wd s 4), u64V (wd s 5), u64V (wd s 6), u64V (wd s 7), u64V (wd s 8), u64V (wd s 9), u64V (wd s 10), u64V (wd s 11), u64V (wd s 12), u64V (wd s 13), u64V (wd s 14), u64V (wd s 15)]
theorem ret_cell {P : Program} {fn : Func} {tmps : Array Value} {s : Tmp} {t : TypeId} {b o : Nat} {v : Value} {w : World} (hr : fn.results = #[.cell s t]) (hs : tmps.getD s undef = .pointer (some ⟨b, o, none⟩)) (hl : (loadVar t ⟨b, o, none⟩).run P w = .ok v w) : (results fn tmps).run P w = .ok v w := by
  unfold results
  rw [hr]
  rw [Array.getD_eq_getD_getElem?] at hs
  simp [hs, asAddr, hl, Sem.run_bind]
theorem ret_cell2 {P : Program} {fn : Func} {tmps : Array Value} {s s' : Tmp} {t : TypeId} {b o : Nat} {v v' : Value} {w : World} (hr : fn.results = #[.cell s t, .tmp s']) (hs : tmps.getD s undef = .pointer (some ⟨b, o, none⟩)) (hs' : tmps.getD s' undef = v') (hl : (loadVar t ⟨b, o, none⟩).run P w = .ok v w) : (results fn tmps).run P w = .ok (.tuple #[v, v']) w := by
  unfold results
  rw [hr]
  rw [Array.getD_eq_getD_getElem?] at hs hs'
  simp [hs, hs', asAddr, hl, Sem.run_bind]
section
variable {w : World} {b N o : Nat} {t : TypeId} {F : Nat → Value} {r : Rg} {s : Nat → Bool}
end
end Go.Proofs.Ytchjjbcmbdmlgaa
namespace Go.Proofs.Ytchjjbcmbdmlgaa
open Go Go.RowKit
def PutsS (w : World) (b : Nat) (t : TypeId) (N : Nat) (F : Nat → Value) (o : Nat) (g : Nat → Bool) : Ending → World → Prop := fun e w' => e = .returned (.tuple #[]) ∧ Hb w' b t N (setF F o g) ∧ Fr [b] w w'
theorem setF_one {F : Nat → Value} {o : Nat} {f g : Nat → Bool} {i : Nat} (hs : SetIn F o f) (hi : i < 8) (ho : ∀ j, j < 8 → j ≠ i → wd g j = wd f j) {N : Nat} : ∀ k, k < N → updF F (o + i) (u64V (wd g i)) k = setF F o g k := fun k _ => by
  unfold setF
  by_cases hk : k = o + i
  · subst hk; rw [updF_same, if_pos ⟨by omega, by omega⟩, Nat.add_sub_cancel_left]
  · rw [updF_other _ _ hk]
    by_cases h : o ≤ k ∧ k < o + 8
    · rw [if_pos h]
      have := hs (k - o) (by omega)
      rw [show o + (k - o) = k by omega] at this
      rw [this, ho (k - o) (by omega) (by omega)]
    · rw [if_neg h]
theorem sadd {w : World} {b N o : Nat} {t : TypeId} {F : Nat → Value} {f : Nat → Bool} {e : Nat} (h : Hb w b t N F) (hs : SetIn F o f) (ho : o + 8 ≤ N) (he : e < 512) :
    Calls Try.prog 46 #[.pointer (some ⟨b, o, none⟩), .int .i64 e] w (PutsS w b t N F o (fun x => x == e || f x)) := by
  have hi : e / 64 < 8 := by omega
  have h1 := h.cell (i := o + e / 64) (by omega)
  rw [hs _ hi] at h1
  have hfr := h.free (o + e / 64)
  have h2 : ((e : Int) / 64).toNat = e / 64 := by omega
  have hp := wrap_pow64 (Nat.mod_lt e (by decide : 0 < 64))
  have hor := u64_or_nat (wd f (e / 64)) (2 ^ (e % 64)) (wd_lt _ _) (pow64_lt (Nat.mod_lt e (by decide)))
  rw [wd_add] at hor
  have hset := (h.set (i := o + e / 64) (u64V (wd (fun x => x == e || f x) (e / 64)))).congr (setF_one hs hi fun j _ hj => wd_add_other hj)
  have hF : Fr [b] w (w.setCell ⟨b, o + e / 64, none⟩ (u64V (wd (fun x => x == e || f x) (e / 64)))) := (Fr.refl _ w).set (.inr (by simp)) _
  have Hs := hid hset
  have HF := hid hF
  have Hp := hid hp
  have Hor := hid hor
  clear hset hF hp hor h
  go_enter Try.func46, Try.ntmps46
  go_wp2
  go_region
  rw [Hp.out, Hor.out]
  go_end0
  exact ⟨rfl, Hs.out, HF.out.drew⟩
theorem shas {w : World} {b N o : Nat} {t : TypeId} {F : Nat → Value} {f : Nat → Bool} {e : Nat} (h : Hb w b t N F) (hs : SetIn F o f) (ho : o + 8 ≤ N) (he : e < 512) :
    Calls Try.prog 33 #[.pointer (some ⟨b, o, none⟩), .int .i64 e] w fun en w' => en = .returned (.bool (f e)) ∧ w' = w := by
  have hi : e / 64 < 8 := by omega
  have h1 := h.cell (i := o + e / 64) (by omega)
  rw [hs _ hi] at h1
  have h2 : ((e : Int) / 64).toNat = e / 64 := by omega
  have Hh := hid (wd_has f e)
  clear h
  go_enter Try.func33, Try.ntmps33
  go_wp2
  go_ret
  rw [Hh.out]
  exact ⟨rfl, rfl⟩
end Go.Proofs.Ytchjjbcmbdmlgaa
namespace Go.Proofs.Ytchjjbcmbdmlgaa
open Go Go.RowKit
def elF (n : Nat) : Nat → Bool := fun e => decide (e < n)
def newV (b1 n j : Nat) : Nat → Value := fun i => if i < 8 then u64V (wd (elF j) i) else .slice (some ⟨b1, 0, none⟩) n n
def relV (b1 n : Nat) : Nat → Value := newV b1 n n
def rowsV (m : Nat → Nat → Bool) : Nat → Value := fun k => u64V (wd (m (k / 8)) (k % 8))
structure RelC (w : World) (b0 b1 n : Nat) (m : Nat → Nat → Bool) : Prop where
  hd : Hb w b0 74 9 (relV b1 n)
  rows : Hb w b1 71 (n * 8) (rowsV m)
  ne : b0 ≠ b1
  n512 : n ≤ 512
  inn : ∀ a b, m a b = true → a < n ∧ b < n
theorem setInfo : (Try.prog.info? 71).map (fun i => (i.zero, i.size, i.bytes)) = some (some (.agg #[.int .u64 0, .int .u64 0, .int .u64 0, .int .u64 0, .int .u64 0, .int .u64 0, .int .u64 0, .int .u64 0]), 8, 64) := by kernel_rfl
def zc8 : Array Value := #[.int .u64 0, .int .u64 0, .int .u64 0, .int .u64 0, .int .u64 0, .int .u64 0, .int .u64 0, .int .u64 0]
theorem wd_zero (i : Nat) : wd (fun _ => false) i = 0 := (wd_ext (by decide) fun j _ => by simp).symm
theorem elF_0 : elF 0 = fun _ => false := by funext e; simp [elF]
theorem made_get (n k : Nat) (h : k < n * 8) : (madeCells zc8 (n * 8))[k]? = some (rowsV (fun _ _ => false) k) := by
  unfold rowsV
  rw [wd_zero]
  unfold madeCells
  have h8 : k % 8 < 8 := Nat.mod_lt _ (by decide)
  have hz : ∀ j, j < 8 → zc8[j]! = .int .u64 0 := fun j hj => by
    have : j = 0 ∨ j = 1 ∨ j = 2 ∨ j = 3 ∨ j = 4 ∨ j = 5 ∨ j = 6 ∨ j = 7 := by omega
    rcases this with rfl | rfl | rfl | rfl | rfl | rfl | rfl | rfl <;> rfl
  have hs : zc8.size = 8 := by decide +kernel
  simp [h, hs, hz _ h8]
theorem make_set (N : Nat) (hN : N ≤ 512) (v : Int) (hv : v = N) (W : World) : (Instr.makeSlice 72 (.int .i64 v) (.int .i64 v)).run Try.prog W = .ok (.slice (some ⟨W.heap.size, 0, none⟩) N N) (W.alloc (.cells (madeCells zc8 (N * 8)) 71)) := by
  obtain ⟨i0, hi, hz0, hz1, hz2⟩ := info_parts setInfo
  have hmk := run_make (P := Try.prog) W 72 71 i0 _ Try.underlying72 hi hz0 .i64 .i64 N N (by omega) (Int.le_refl _) (by rw [hz2]; omega) (by omega)
  rw [hz1, Int.toNat_natCast] at hmk
  rw [hv]
  exact hmk
theorem newV_in (b1 n j : Nat) : SetIn (newV b1 n j) 0 (elF j) := fun i hi => by unfold newV; rw [Nat.zero_add, if_pos hi]
theorem newV_step (b1 n j : Nat) : setF (newV b1 n j) 0 (fun x => x == j || elF j x) = newV b1 n (j + 1) := by
  have e : (fun x => x == j || elF j x) = elF (j + 1) := by
    funext x
    unfold elF
    by_cases h : x = j
    · subst h; simp
    · have : decide (x < j + 1) = decide (x < j) := by
        by_cases h2 : x < j
        · rw [decide_eq_true h2, decide_eq_true (by omega)]
        · rw [decide_eq_false h2, decide_eq_false (by omega)]
      rw [this]; simp [h]
  rw [e]
  funext k
  unfold setF newV
  by_cases h : k < 8
  · rw [if_pos ⟨by omega, by omega⟩, if_pos h, Nat.sub_zero]
  · rw [if_neg (by omega), if_neg h, if_neg h]
def NewR (w : World) (N : Nat) : Ending → World → Prop := fun e w' => ∃ b0 b1, e = .returned (.pointer (some ⟨b0, 0, none⟩)) ∧ RelC w' b0 b1 N (fun _ _ => false) ∧ w.heap.size ≤ b0 ∧ w.heap.size ≤ b1 ∧ Below w.heap.size w w'
theorem new_start (b1 n : Nat) : ∀ i, i < #[Value.int .u64 0, .int .u64 0, .int .u64 0, .int .u64 0, .int .u64 0, .int .u64 0, .int .u64 0, .int .u64 0, .slice (some ⟨b1, 0, none⟩) n n].size → #[Value.int .u64 0, .int .u64 0, .int .u64 0, .int .u64 0, .int .u64 0, .int .u64 0, .int .u64 0, .int .u64 0, .slice (some ⟨b1, 0, none⟩) n n][i]? = some (newV b1 n 0 i) := fun i hi => by
  have hi : i < 9 := hi
  unfold newV
  rw [elF_0]
  by_cases h8 : i < 8
  · rw [if_pos h8, wd_zero]
    have : i = 0 ∨ i = 1 ∨ i = 2 ∨ i = 3 ∨ i = 4 ∨ i = 5 ∨ i = 6 ∨ i = 7 := by omega
    rcases this with rfl | rfl | rfl | rfl | rfl | rfl | rfl | rfl <;> rfl
  · obtain rfl : i = 8 := by omega
    rfl
theorem new_mid (N : Nat) (hN : N ≤ 512) (w : World) : Calls Try.prog 26 #[.int .i64 N] w (NewR w N) := by
  have hN5 : N ≤ 512 := by have := hN; omega
  have hmk := make_set N (by have := hN; omega) N (by have := hN; omega)
  go_enter Try.func26, Try.ntmps26
  go_wp2
  have hr0 := (Hb.new w (madeCells zc8 (N * 8)) 71 (f := rowsV fun _ _ => false) (fun i hi => made_get _ i (by rw [size_madeCells] at hi; exact hi)))
  rw [size_madeCells] at hr0
  have hr1 := hr0.alloc (.cells #[.int .u64 0, .int .u64 0, .int .u64 0, .int .u64 0, .int .u64 0, .int .u64 0, .int .u64 0, .int .u64 0, .slice (some ⟨w.heap.size, 0, none⟩) N N] 74)
  have hh1 := Hb.new (w.alloc (.cells (madeCells zc8 (N * 8)) 71)) #[.int .u64 0, .int .u64 0, .int .u64 0, .int .u64 0, .int .u64 0, .int .u64 0, .int .u64 0, .int .u64 0, .slice (some ⟨w.heap.size, 0, none⟩) N N] 74 (f := newV w.heap.size N 0) (new_start _ _)
  have hB1 : Below w.heap.size w ((w.alloc (.cells (madeCells zc8 (N * 8)) 71)).alloc (.cells #[.int .u64 0, .int .u64 0, .int .u64 0, .int .u64 0, .int .u64 0, .int .u64 0, .int .u64 0, .int .u64 0, .slice (some ⟨w.heap.size, 0, none⟩) N N] 74)) := ((Below.refl _ w).alloc (Nat.le_refl _) _).alloc (by simp) _
  rw [World.size_alloc] at hh1
  generalize (w.alloc (.cells (madeCells zc8 (N * 8)) 71)).alloc _ = W1 at hr1 hh1 hB1 ⊢
  obtain ⟨B, hB⟩ : ∃ B, B = w.heap.size := ⟨_, rfl⟩
  rw [← hB] at hr1 hh1 hB1 ⊢
  have HB := hid hB
  clear hB hr0
  go_loopw [16] (fun k wr => ∃ j : Nat, j ≤ N ∧ k = .int .i64 j ∧ Hb wr (B + 1) 74 9 (newV B N j) ∧ Hb wr B 71 (N * 8) (rowsV fun _ _ => false) ∧ Below B w wr) (fun k _ => N - (intOf k).toNat)
  case atStart => exact ⟨0, Nat.zero_le _, rfl, hh1, hr1, hB1⟩
  case round =>
    obtain ⟨j, hj, rfl, hh, hr, hB⟩ := hrel
    by_cases hlt : j < N
    · have HC := hid (fun W (h : Hb W (B + 1) 74 9 (newV B N j)) => sadd h (newV_in B N j) (by omega) (e := j) (by have := hN; omega))
      have Hh := hid hh
      clear hh
      go_wp2_with (go_at_call 46; refine (HC.out _ Hh.out).mono ?_; rintro e w2 ⟨rfl, hh2, hf2⟩)
      rw [newV_step] at hh2
      have hr2 := hr.fr hf2 (by simp)
      have hB2 := Fr.below hB hf2 (by have := hr.lt; omega) (by simp)
      go_roundw
      case rel => exact ⟨j + 1, by omega, by go_num, hh2, hr2, hB2⟩
      case measure => simp [intOf]; omega
    · obtain rfl : j = N := by omega
      go_wp2
      go_ret
      obtain rfl := HB.out
      exact ⟨_, w.heap.size, rfl, ⟨hh, hr, by omega, by have := hN; omega, fun _ _ h => by cases h⟩, by omega, Nat.le_refl _, hB⟩
end Go.Proofs.Ytchjjbcmbdmlgaa
