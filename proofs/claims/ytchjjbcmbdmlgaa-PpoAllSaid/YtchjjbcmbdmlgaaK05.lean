/- SimV, GlT, Kit03, Find03. -/
import Derived.Test.YtchjjbcmbdmlgaaK01
import Derived.Test.YtchjjbcmbdmlgaaK04
import Derived.Test.YtchjjbcmbdmlgaaRows
import Derived.KernelRfl
set_option linter.unusedVariables false
set_option linter.unusedSimpArgs false
namespace Go.Proofs.Ytchjjbcmbdmlgaa.Sim
open Go Go.RowKit
def simVal (E : Env) (fuel : Nat) (fl : List (List Bool)) (orc : List Bool) (f : FuncId) (args : List Value) : Option (Value × List (Bool × Bool)) :=
  match simCall E fuel fl orc f args with
  | some (v, l, _) => some (v, l)
  | none => none
theorem ret {P : Program} {gl : Nat → Option (List Value)} {c : Tab} (hc : TabOk P gl c) {fuel : Nat} (fls : List (List Bool)) (orc : List Bool) {f : FuncId} {args : List Value} {v : Value} (l : List (Bool × Bool))
    (h : simVal { P := P, glob := gl, call := c } fuel fls orc f args = some (v, l)) (hl : ∀ p ∈ l, p.1 = p.2) (w : World) (hG : GlobOk gl w) : Ret P f args.toArray v w := by
  unfold simVal at h
  split at h
  · rename_i u l' mem hs
    simp only [Option.some.injEq, Prod.mk.injEq] at h
    obtain ⟨rfl, rfl⟩ := h
    exact simCall_below (E := { P := P, glob := gl, call := c }) (callOk_of hc) hs hl w hG
  · cases h
theorem retP {P : Program} {gl : Nat → Option (List Value)} {c : Tab} {pc : PTab} (hc : TabOk P gl c) (hp : PTabOk P gl pc) {fuel : Nat} (fls : List (List Bool)) (orc : List Bool) {f : FuncId} {args : List Value} {v : Value} (l : List (Bool × Bool))
    (h : simVal { P := P, glob := gl, call := c, pcall := pc } fuel fls orc f args = some (v, l)) (hl : ∀ p ∈ l, p.1 = p.2) (w : World) (hG : GlobOk gl w) : Ret P f args.toArray v w := by
  unfold simVal at h
  split at h
  · rename_i u l' mem hs
    simp only [Option.some.injEq, Prod.mk.injEq] at h
    obtain ⟨rfl, rfl⟩ := h
    exact simCall_below (E := { P := P, glob := gl, call := c, pcall := pc }) ⟨hc, hp⟩ hs hl w hG
  · cases h
def runs (E : Env) (fuel : Nat) (f : FuncId) (args : Nat → List Value) (g : Nat → Value) (n : Nat) : Bool :=
  match simCall E fuel [] [] f (args n) with
  | some (v, [], _) => eqV v (g n)
  | _ => false
theorem runs_ret {P : Program} {gl : Nat → Option (List Value)} {c : Tab} (hc : TabOk P gl c) {fuel : Nat} {f : FuncId} {args : Nat → List Value} {g : Nat → Value} {N : Nat}
    (h : (List.range N).all (runs { P := P, glob := gl, call := c } fuel f args g) = true) (n : Nat) (hn : n < N) (w : World) (hG : GlobOk gl w) : Ret P f (args n).toArray (g n) w := by
  have h1 := List.all_eq_true.mp h n (List.mem_range.mpr hn)
  unfold runs at h1
  split at h1
  · rename_i v m hs
    rw [← eqV_eq _ _ h1]
    exact simCall_below (E := { P := P, glob := gl, call := c }) (callOk_of hc) hs (fun p hp => by cases hp) w hG
  · cases h1
end Go.Proofs.Ytchjjbcmbdmlgaa.Sim
namespace Go.Proofs.Ytchjjbcmbdmlgaa
abbrev Gl := Nat → Option (List Go.Value)
end Go.Proofs.Ytchjjbcmbdmlgaa
namespace Go.Proofs.Ytchjjbcmbdmlgaa
open Go.RowKit
def RdS (w : World) (B : Nat) (v : Value) (xs : List ByteArray) : Prop :=
  ∃ a cap, v = .slice a xs.length cap ∧ (0 < xs.length → ∃ b off, a = some ⟨b, off, none⟩ ∧ b < B ∧ ∀ i, i < xs.length → w.cell? ⟨b, off + i, none⟩ = some (.string (xs.getD i ByteArray.empty)))
theorem RdS.below {w w' : World} {B : Nat} {v : Value} {xs : List ByteArray} (h : RdS w B v xs) (hb : Below B w w') : RdS w' B v xs := by
  obtain ⟨a, cap, hv, hc⟩ := h
  refine ⟨a, cap, hv, fun hp => ?_⟩
  obtain ⟨b, off, ha, hlt, hcell⟩ := hc hp
  exact ⟨b, off, ha, hlt, fun i hi => (hb.cell (p := ⟨b, off + i, none⟩) hlt).trans (hcell i hi)⟩
def MkS (w : World) (xs : List ByteArray) : Ending → World → Prop := fun e w' => ∃ v, e = .returned v ∧ RdS w' w'.heap.size v xs ∧ Below w.heap.size w w'
end Go.Proofs.Ytchjjbcmbdmlgaa
namespace Go.Proofs.Ytchjjbcmbdmlgaa
open Go.RowKit Sim
theorem ret_bool3 {a b : Bool} (h : a = b) : Ending.returned (.bool a) = .returned (.bool b) := by rw [h]
def opT : List ByteArray := opL.tail
theorem opT_len : opT.length = 87 := by decide +kernel
theorem opT_get' : ∀ n : Fin 87, (opT.getD n.val ByteArray.empty).toList = (opS (n.val + 1)).toList := by decide +kernel
theorem bytesEq {a b : ByteArray} (h : a.toList = b.toList) : a = b := by
  have : a.data.toList = b.data.toList := by rw [← ByteArray.toList_eq, ← ByteArray.toList_eq]; exact h
  cases a; cases b; simp at this; simp [this]
theorem opT_get (n : Nat) (h : n < 87) : opT.getD n ByteArray.empty = opS (n + 1) := bytesEq (opT_get' ⟨n, h⟩)
theorem refNames_any (w : World) : Calls Try.prog 97 #[] w (MkS w opT) := by
  have h : simMake { P := Try.prog, glob := fun _ => none, call := noT } 1000 [] [] 97 [] = some (opT.map Value.string, 0, 87, 87, []) := by kernel_rfl
  refine (simMake_ok (callOk_none _ _) h (fun _ h => by cases h) w (GlobOk.none w)).mono fun e w' ⟨b, he, h1, h2, h3, h4⟩ => ?_
  subst he
  refine ⟨_, rfl, ⟨some ⟨b, 0, none⟩, 87, by rw [opT_len], fun _ => ⟨b, 0, rfl, h2, fun i hi => ?_⟩⟩, h4⟩
  rw [Nat.zero_add]
  exact h3 i _ (by rw [List.getElem?_map, List.getElem?_eq_getElem hi, List.getD_eq_getElem?_getD, List.getElem?_eq_getElem hi]; rfl)
theorem refName_out (op : Int) (w : World) (h : op < 1 ∨ 87 < op) : Calls Try.prog 85 #[.int .i64 op] w fun e w' => e = .returned (.string ⟨#[]⟩) ∧ Below w.heap.size w w' := by
  by_cases h0 : op < 1
  all_goals
    go_enter Try.func85, Try.ntmps85
    go_wp2_with fail
    go_ret
    exact ⟨rfl, Below.refl _ _⟩
theorem refName_in (n : Nat) (w : World) (h1 : 1 ≤ n) (h2 : n < 88) : Calls Try.prog 85 #[.int .i64 (n : Nat)] w fun e w' => e = .returned (.string (opS n)) ∧ Below w.heap.size w w' := by
  have hn := hid (refNames_any w)
  have hs := hid (opT_get (n - 1) (by omega))
  go_enter Try.func85, Try.ntmps85
  go_wp2_with fail
  refine hn.out.mono ?_
  rintro e w1 ⟨v, rfl, ⟨a, cap, rfl, hc⟩, hb⟩
  obtain ⟨b, off, rfl, hlt, hc⟩ := hc (by rw [opT_len]; omega)
  have hl : opT.length = 87 := opT_len
  have h0 := hc (n - 1) (by rw [hl]; omega)
  rw [hs.out] at h0
  rw [hl]
  have hcast : ((n : Int) - 1).toNat = n - 1 := by omega
  have Hb := hid hb
  clear hc hb hl
  go_wp2_with fail
  go_ret
  exact ⟨rfl, Hb.out⟩
theorem has_any (op : Int) (s : ByteArray) (w : World) (hs : s.size ≤ 100) (hl : ∀ w, Calls Try.prog 84 #[.int .i64 op] w fun e w' => e = .returned (.int .u8 (letZ op)) ∧ w = w') :
    Calls Try.prog 63 #[.int .i64 op, .string s] w fun e w' => e = .returned (.bool (hasB op s)) ∧ Below w.heap.size w w' := by
  have Hl := hid hl
  clear hl
  go_enter Try.func63, Try.ntmps63
  go_wp2
  go_loopw [5] (fun k wr => ∃ j m : Nat, j ≤ s.size ∧ k = .int .i64 j ∧ wr = w.drewN m ∧ ((s.data.toList.take j).any fun c => (c.toNat : Int) == letZ op) = false) (fun k _ => s.size - (intOf k).toNat)
  case atStart => exact ⟨0, 0, Nat.zero_le _, rfl, rfl, rfl⟩
  case round =>
    obtain ⟨j, m, hj, rfl, rfl, hno⟩ := hrel
    have Hno := hid hno
    clear hno
    by_cases hlt : j < s.size
    · go_wp2_with fail
      go_quiet ((go_at_call 84; exact Qt.at1 (Qt.of_same (Hl.out _))))
      have ht : s.data.toList.take (j + 1) = s.data.toList.take j ++ [s[j]] := by rw [List.take_succ_eq_append_getElem (by simpa using hlt)]; rfl
      have Ht := hid ht
      clear ht
      go_wp2
      · have h : (letZ op == (s[j].toNat : Int)) = true := by assumption
        go_ret
        refine ⟨ret_bool3 ?_, below_draws (below_draws (Below.refl _ _) _) _⟩
        unfold hasB
        rw [← List.take_append_drop (j + 1) s.data.toList, Ht.out, List.any_append, List.any_append]
        rw [beq_iff_eq] at h
        simp [h]
      · have h : (letZ op == (s[j].toNat : Int)) = false := by assumption
        go_roundw
        case rel =>
          refine ⟨j + 1, _, by omega, by go_num, rfl, ?_⟩
          rw [Ht.out, List.any_append, Hno.out]
          rw [beq_eq_false_iff_ne] at h
          simp
          exact fun e => h e.symm
        case measure => simp [intOf]; omega
    · obtain rfl : j = s.size := by omega
      go_wp2
      go_ret
      refine ⟨ret_bool3 ?_, below_draws (Below.refl _ _) _⟩
      have := Hno.out
      rw [List.take_of_length_le (by simp)] at this
      exact this.symm
end Go.Proofs.Ytchjjbcmbdmlgaa
