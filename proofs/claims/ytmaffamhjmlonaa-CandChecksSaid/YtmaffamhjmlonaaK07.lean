/- Kit01, Ref01. -/
import Derived.WalkKit
import Derived.WalkSpells
import Derived.WalkLawsBesides
import Derived.Deep.QuietTactic
import Derived.BigQuiet
import Derived.Deep.Draws
import Derived.Test.YtmaffamhjmlonaaRows
import Derived.Laws.BitsAllLaws
set_option linter.unusedVariables false
set_option linter.unusedSimpArgs false
namespace Go.Proofs.Ytmaffamhjmlonaa
open Go.RowKit
theorem hid {p : Prop} (h : p) : Hid p := h
def Qt (w : World) (v : Value) : Ending -> World -> Prop := fun e w' => e = .returned v /\ ∃ m, w' = w.drewN m
theorem Qt.mk (w : World) (v : Value) (m : Nat) : Qt w v (.returned v) (w.drewN m) := ⟨rfl, m, rfl⟩
theorem Qt.mk0 (w : World) (v : Value) : Qt w v (.returned v) w := ⟨rfl, 0, rfl⟩
theorem Qt.eq (w : World) {v v' : Value} (m : Nat) (h : v' = v) : Qt w v (.returned v') (w.drewN m) := ⟨by rw [h], m, rfl⟩
theorem below_draws {B : Nat} {a w : World} (h : Below B a w) (n : Nat) : Below B a (w.drewN n) := ⟨h.os, h.tape, h.output, h.size, h.block⟩
abbrev byteV (b : Nat) : Value := .int .u8 (b : Int)
def RdB (w : World) (B : Nat) (v : Value) (xs : List Nat) : Prop :=
 ∃ a cap, v = .slice a xs.length cap /\ (0 < xs.length -> ∃ b off, a = some ⟨b, off, none⟩ /\ b < B /\ ∀ i, i < xs.length -> w.cell? ⟨b, off + i, none⟩ = some (.int .u8 (xs.getD i 0 : Nat)))
theorem RdB.below {w w' : World} {B : Nat} {v : Value} {xs : List Nat} (h : RdB w B v xs) (hb : Below B w w') : RdB w' B v xs := by
 obtain ⟨a, cap, hv, hc⟩ := h
 refine ⟨a, cap, hv, fun hp => ?_⟩
 obtain ⟨b, off, ha, hlt, hcell⟩ := hc hp
 exact ⟨b, off, ha, hlt, fun i hi => (hb.cell (p := ⟨b, off + i, none⟩) hlt).trans (hcell i hi)⟩
theorem RdB.more {w : World} {B B' : Nat} {v : Value} {xs : List Nat} (h : RdB w B v xs) (hB : B <= B') : RdB w B' v xs := by
 obtain ⟨a, cap, hv, hc⟩ := h
 refine ⟨a, cap, hv, fun hp => ?_⟩
 obtain ⟨b, off, ha, hlt, hcell⟩ := hc hp
 exact ⟨b, off, ha, Nat.lt_of_lt_of_le hlt hB, hcell⟩
end Go.Proofs.Ytmaffamhjmlonaa
namespace Go.Proofs.Ytmaffamhjmlonaa
open Go.RowKit
theorem refSame_none (w : World) (a b : Option Addr) (ca cb : Nat) :
   Calls Try.prog 12 #[.slice a 0 ca, .slice b 0 cb] w (Qt w (.bool true)) := by
 go_enter Try.func12, Try.ntmps12
 go_wp2
 refine wp_loop_rounds 1 ?_
 rw [rounds_succ]
 go_wp2
 go_ret
 exact Qt.mk0 _ _
theorem refSame_some (w : World) (b off b' off' n ca cb : Nat) (f : Nat -> Int) (hm : n <= 9223372036854775807)
   (hf : ∀ i, i < n -> w.cell? ⟨b, off + i, none⟩ = some (.int .u8 (f i))) (hg : ∀ i, i < n -> w.cell? ⟨b', off' + i, none⟩ = some (.int .u8 (f i))) :
   Calls Try.prog 12 #[.slice (some ⟨b, off, none⟩) n ca, .slice (some ⟨b', off', none⟩) n cb] w (Qt w (.bool true)) := by
 have hne : ((n : Int) != n) = false := by simp
 have Hf := hid hf
 have Hg := hid hg
 clear hf hg
 go_enter Try.func12, Try.ntmps12
 go_wp2
 go_loopw [5] (fun k wr => ∃ j m : Nat, j <= n /\ k = .int .i64 j /\ wr = w.drewN m) (fun k _ => n - (intOf k).toNat)
 case atStart => exact ⟨0, 0, Nat.zero_le _, rfl, rfl⟩
 case round =>
   obtain ⟨j, m, hj, rfl, rfl⟩ := hrel
   by_cases hlt : j < n
   . have h1 := Hf.out j hlt
     have h2 := Hg.out j hlt
     clear Hf Hg
     go_wp2
     go_quiet (fail)
     go_wp2
     go_roundw
     case rel => exact ⟨j + 1, _, by omega, by go_num, rfl⟩
     case measure => simp [intOf]; omega
   . go_wp2
     go_ret
     exact Qt.mk _ _ _
theorem refSame_yes {w : World} {B B' : Nat} {u v : Value} {xs : List Nat} (hm : xs.length <= 9223372036854775807) (hu : RdB w B u xs) (hv : RdB w B' v xs) :
   Calls Try.prog 12 #[u, v] w (Qt w (.bool true)) := by
 obtain ⟨a, ca, rfl, h1⟩ := hu
 obtain ⟨b, cb, rfl, h2⟩ := hv
 rcases Nat.eq_zero_or_pos xs.length with h0 | h0
 . rw [h0]; exact refSame_none w a b ca cb
 . obtain ⟨b1, o1, rfl, _, h1⟩ := h1 h0
   obtain ⟨b2, o2, rfl, _, h2⟩ := h2 h0
   exact refSame_some w b1 o1 b2 o2 _ ca cb (fun i => (xs.getD i 0 : Nat)) hm h1 h2
end Go.Proofs.Ytmaffamhjmlonaa
