/- Contracts of the sets of package rel: add, remove, has, join, keep. -/
import Derived.Test.YthmmmbfjhfocfaaDoorRows
import Derived.Test.YthmmmbfjhfocfaaDoorW14
import Derived.RegionTactic
import Derived.ChangeAlike
import Derived.LoopTactic
namespace Go.Proofs.YthmmmbfjhfocfaaDoor
open Go Go.RowKit
set_option linter.unusedVariables false
set_option linter.unusedSimpArgs false

/-- A call that answers nothing, and puts the set g at o into block b. -/
def PutsS (w : World) (b : Nat) (t : TypeId) (N : Nat) (F : Nat → Value) (o : Nat) (g : Nat → Bool) : Ending → World → Prop := fun e w' => e = .returned (.tuple #[]) ∧ Hb w' b t N (setF F o g) ∧ Fr [b] w w'
theorem setF_one {F : Nat → Value} {o : Nat} {f g : Nat → Bool} {i : Nat} (hs : SetIn F o f) (hi : i < 8) (ho : ∀ j, j < 8 → j ≠ i → wd g j = wd f j) {N : Nat} : ∀ k, k < N → updF F (o + i) (u64V (wd g i)) k = setF F o g k := fun k _ => by
  unfold setF
  by_cases hk : k = o + i
  · subst hk; rw [updF_same, if_pos ⟨by omega, by omega⟩, Nat.add_sub_cancel_left]
  · rw [updF_other _ _ hk]
    by_cases h : o ≤ k ∧ k < o + 8
    · rw [if_pos h]
      have := hs (k - o) (by omega)
      rw [show o + (k - o) = k by omega] at this
      rw [this, ho (k - o) (by omega) (by omega)]
    · rw [if_neg h]
theorem sadd {w : World} {b N o : Nat} {t : TypeId} {F : Nat → Value} {f : Nat → Bool} {e : Nat} (h : Hb w b t N F) (hs : SetIn F o f) (ho : o + 8 ≤ N) (he : e < 512) :
    Calls Tryd.prog 31 #[.pointer (some ⟨b, o, none⟩), .int .i64 e] w (PutsS w b t N F o (fun x => x == e || f x)) := by
  have hi : e / 64 < 8 := by omega
  have h1 := h.cell (i := o + e / 64) (by omega)
  rw [hs _ hi] at h1
  have hfr := h.free (o + e / 64)
  have h2 : ((e : Int) / 64).toNat = e / 64 := by omega
  have hp := wrap_pow64 (Nat.mod_lt e (by decide : 0 < 64))
  have hor := u64_or_nat (wd f (e / 64)) (2 ^ (e % 64)) (wd_lt _ _) (pow64_lt (Nat.mod_lt e (by decide)))
  rw [wd_add] at hor
  have hset := (h.set (i := o + e / 64) (u64V (wd (fun x => x == e || f x) (e / 64)))).congr (setF_one hs hi fun j _ hj => wd_add_other hj)
  have hF : Fr [b] w (w.setCell ⟨b, o + e / 64, none⟩ (u64V (wd (fun x => x == e || f x) (e / 64)))) := (Fr.refl _ w).set (.inr (by simp)) _
  have Hs := hid hset
  have HF := hid hF
  have Hp := hid hp
  have Hor := hid hor
  clear hset hF hp hor h
  go_enter Tryd.func31, Tryd.ntmps31
  go_wp2
  go_region
  rw [Hp.out, Hor.out]
  go_end0
  exact ⟨rfl, Hs.out, HF.out.drew⟩
theorem sdel {w : World} {b N o : Nat} {t : TypeId} {F : Nat → Value} {f : Nat → Bool} {e : Nat} (h : Hb w b t N F) (hs : SetIn F o f) (ho : o + 8 ≤ N) (he : e < 512) :
    Calls Tryd.prog 40 #[.pointer (some ⟨b, o, none⟩), .int .i64 e] w (PutsS w b t N F o (fun x => !(x == e) && f x)) := by
  have hi : e / 64 < 8 := by omega
  have h1 := h.cell (i := o + e / 64) (by omega)
  rw [hs _ hi] at h1
  have hfr := h.free (o + e / 64)
  have h2 : ((e : Int) / 64).toNat = e / 64 := by omega
  have hp := wrap_pow64 (Nat.mod_lt e (by decide : 0 < 64))
  have hor := u64_andNot_nat (wd f (e / 64)) (2 ^ (e % 64)) (wd_lt _ _) (pow64_lt (Nat.mod_lt e (by decide)))
  rw [wd_del] at hor
  have hset := (h.set (i := o + e / 64) (u64V (wd (fun x => !(x == e) && f x) (e / 64)))).congr (setF_one hs hi fun j _ hj => wd_del_other hj)
  have hF : Fr [b] w (w.setCell ⟨b, o + e / 64, none⟩ (u64V (wd (fun x => !(x == e) && f x) (e / 64)))) := (Fr.refl _ w).set (.inr (by simp)) _
  have Hs := hid hset
  have HF := hid hF
  have Hp := hid hp
  have Hor := hid hor
  clear hset hF hp hor h
  go_enter Tryd.func40, Tryd.ntmps40
  go_wp2
  go_region
  rw [Hp.out, Hor.out]
  go_end0
  exact ⟨rfl, Hs.out, HF.out.drew⟩
theorem shas {w : World} {b N o : Nat} {t : TypeId} {F : Nat → Value} {f : Nat → Bool} {e : Nat} (h : Hb w b t N F) (hs : SetIn F o f) (ho : o + 8 ≤ N) (he : e < 512) :
    Calls Tryd.prog 34 #[.pointer (some ⟨b, o, none⟩), .int .i64 e] w fun en w' => en = .returned (.bool (f e)) ∧ w' = w := by
  have hi : e / 64 < 8 := by omega
  have h1 := h.cell (i := o + e / 64) (by omega)
  rw [hs _ hi] at h1
  have h2 : ((e : Int) / 64).toNat = e / 64 := by omega
  have Hh := hid (wd_has f e)
  clear h
  go_enter Tryd.func34, Tryd.ntmps34
  go_wp2
  go_ret
  rw [Hh.out]
  exact ⟨rfl, rfl⟩

/-- The first j words of the set g in the place of F's. -/
def setP (F : Nat → Value) (o : Nat) (g : Nat → Bool) (j : Nat) : Nat → Value := fun k => if o ≤ k ∧ k < o + j then u64V (wd g (k - o)) else F k
theorem setP_0 (F : Nat → Value) (o : Nat) (g : Nat → Bool) : setP F o g 0 = F := by funext k; unfold setP; rw [if_neg (by omega)]
theorem setP_8 (F : Nat → Value) (o : Nat) (g : Nat → Bool) : setP F o g 8 = setF F o g := rfl
theorem setP_step {F : Nat → Value} {o : Nat} {g : Nat → Bool} {j : Nat} : updF (setP F o g j) (o + j) (u64V (wd g j)) = setP F o g (j + 1) := by
  funext k
  unfold setP updF
  by_cases hk : k = o + j
  · subst hk; rw [if_pos rfl, if_pos ⟨by omega, by omega⟩, Nat.add_sub_cancel_left]
  · rw [if_neg hk]
    show (if o ≤ k ∧ k < o + j then _ else _) = _
    by_cases h : o ≤ k ∧ k < o + j
    · rw [if_pos h, if_pos ⟨h.1, by omega⟩]
    · rw [if_neg h, if_neg (by omega)]

theorem sjoin {w : World} {b N o b2 o2 : Nat} {t : TypeId} {F : Nat → Value} {f g : Nat → Bool} (h : Hb w b t N F) (hs : SetIn F o f) (ho : o + 8 ≤ N) (hg : ∀ i, i < 8 → w.cell? ⟨b2, o2 + i, none⟩ = some (u64V (wd g i))) (hd : b2 ≠ b ∨ o2 = o ∨ o2 + 8 ≤ o ∨ o + 8 ≤ o2) (hlt : b2 < w.heap.size) (hN : b2 = b → o2 + 8 ≤ N) :
    Calls Tryd.prog 37 #[.pointer (some ⟨b, o, none⟩), .pointer (some ⟨b2, o2, none⟩)] w (PutsS w b t N F o (fun x => f x || g x)) := by
  have HG := hid hg
  have HS := hid hs
  clear hg hs
  go_enter Tryd.func37, Tryd.ntmps37
  go_wp2
  go_loopw [7] (fun k wr => ∃ j : Nat, j ≤ 8 ∧ k = .int .i64 j ∧ Hb wr b t N (setP F o (fun x => f x || g x) j) ∧ Fr [b] w wr) (fun k _ => 8 - (intOf k).toNat)
  case atStart => exact ⟨0, Nat.zero_le _, rfl, by rw [setP_0]; exact h, Fr.refl _ _⟩
  case round =>
    obtain ⟨j, hj, rfl, hb, hf⟩ := hrel
    by_cases hlt8 : j < 8
    · have c1 := hb.cell (i := o + j) (by omega)
      have e1 : setP F o (fun x => f x || g x) j (o + j) = u64V (wd f j) := by unfold setP; rw [if_neg (by omega)]; exact HS.out j hlt8
      rw [e1] at c1
      have c2 : wr.cell? ⟨b2, o2 + j, none⟩ = some (u64V (wd g j)) := by
        by_cases hbb : b2 = b
        · subst hbb
          have hN' := hN rfl
          rw [hb.cell (by omega)]
          have e2 : setP F o (fun x => f x || g x) j (o2 + j) = F (o2 + j) := by unfold setP; rw [if_neg (by omega)]
          rw [e2, ← h.cell (by omega)]
          exact HG.out j hlt8
        · rw [World.cell?_of_block (w := w) (a := ⟨b2, o2 + j, none⟩) (hf.block b2 hlt (by simpa using hbb))]
          exact HG.out j hlt8
      have f1 := hb.free (o + j)
      have hn := hb.set (i := o + j) (u64V (wd (fun x => f x || g x) j))
      rw [setP_step] at hn
      have hF : Fr [b] w (wr.setCell ⟨b, o + j, none⟩ (u64V (wd (fun x => f x || g x) j))) := hf.set (.inr (by simp)) _
      have Hw := hid (u64_or_nat (wd f j) (wd g j) (wd_lt _ _) (wd_lt _ _))
      have Hn := hid hn
      have HF := hid hF
      have hj' : ((j : Int)).toNat = j := by omega
      clear hb hf hn hF e1 h
      go_wp2
      go_region
      go_wp2
      go_region
      go_wp2
      rw [Hw.out, wd_or]
      go_roundw
      case rel => exact ⟨j + 1, by omega, by go_num, Hn.out, HF.out.drew.drew⟩
      case measure => simp [intOf]; omega
    · obtain rfl : j = 8 := by omega
      go_wp2
      go_end0
      exact ⟨rfl, hb, hf⟩

theorem skeep {w : World} {b N o b2 o2 : Nat} {t : TypeId} {F : Nat → Value} {f g : Nat → Bool} (h : Hb w b t N F) (hs : SetIn F o f) (ho : o + 8 ≤ N) (hg : ∀ i, i < 8 → w.cell? ⟨b2, o2 + i, none⟩ = some (u64V (wd g i))) (hd : b2 ≠ b ∨ o2 = o ∨ o2 + 8 ≤ o ∨ o + 8 ≤ o2) (hlt : b2 < w.heap.size) (hN : b2 = b → o2 + 8 ≤ N) :
    Calls Tryd.prog 38 #[.pointer (some ⟨b, o, none⟩), .pointer (some ⟨b2, o2, none⟩)] w (PutsS w b t N F o (fun x => f x && g x)) := by
  have HG := hid hg
  have HS := hid hs
  clear hg hs
  go_enter Tryd.func38, Tryd.ntmps38
  go_wp2
  go_loopw [7] (fun k wr => ∃ j : Nat, j ≤ 8 ∧ k = .int .i64 j ∧ Hb wr b t N (setP F o (fun x => f x && g x) j) ∧ Fr [b] w wr) (fun k _ => 8 - (intOf k).toNat)
  case atStart => exact ⟨0, Nat.zero_le _, rfl, by rw [setP_0]; exact h, Fr.refl _ _⟩
  case round =>
    obtain ⟨j, hj, rfl, hb, hf⟩ := hrel
    by_cases hlt8 : j < 8
    · have c1 := hb.cell (i := o + j) (by omega)
      have e1 : setP F o (fun x => f x && g x) j (o + j) = u64V (wd f j) := by unfold setP; rw [if_neg (by omega)]; exact HS.out j hlt8
      rw [e1] at c1
      have c2 : wr.cell? ⟨b2, o2 + j, none⟩ = some (u64V (wd g j)) := by
        by_cases hbb : b2 = b
        · subst hbb
          have hN' := hN rfl
          rw [hb.cell (by omega)]
          have e2 : setP F o (fun x => f x && g x) j (o2 + j) = F (o2 + j) := by unfold setP; rw [if_neg (by omega)]
          rw [e2, ← h.cell (by omega)]
          exact HG.out j hlt8
        · rw [World.cell?_of_block (w := w) (a := ⟨b2, o2 + j, none⟩) (hf.block b2 hlt (by simpa using hbb))]
          exact HG.out j hlt8
      have f1 := hb.free (o + j)
      have hn := hb.set (i := o + j) (u64V (wd (fun x => f x && g x) j))
      rw [setP_step] at hn
      have hF : Fr [b] w (wr.setCell ⟨b, o + j, none⟩ (u64V (wd (fun x => f x && g x) j))) := hf.set (.inr (by simp)) _
      have Hw := hid (u64_and_nat (wd f j) (wd g j) (wd_lt _ _) (wd_lt _ _))
      have Hn := hid hn
      have HF := hid hF
      have hj' : ((j : Int)).toNat = j := by omega
      clear hb hf hn hF e1 h
      go_wp2
      go_region
      go_wp2
      go_region
      go_wp2
      rw [Hw.out, wd_and]
      go_roundw
      case rel => exact ⟨j + 1, by omega, by go_num, Hn.out, HF.out.drew.drew⟩
      case measure => simp [intOf]; omega
    · obtain rfl : j = 8 := by omega
      go_wp2
      go_end0
      exact ⟨rfl, hb, hf⟩
end Go.Proofs.YthmmmbfjhfocfaaDoor
