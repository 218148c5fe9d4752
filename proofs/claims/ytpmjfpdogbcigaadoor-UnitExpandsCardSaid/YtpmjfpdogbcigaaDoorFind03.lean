/- Contracts of the searches of layer 3: the operation of a name; the reference's names; a letter among letters. -/
import Derived.Test.YtpmjfpdogbcigaaDoorRows
import Derived.Test.YtpmjfpdogbcigaaDoorPlain03
import Derived.Test.YtpmjfpdogbcigaaDoorKit03
import Derived.Test.YtpmjfpdogbcigaaDoorSimCalls
import Derived.Test.YtpmjfpdogbcigaaDoorPlain01
import Derived.KernelRfl
namespace Go.Proofs.YtpmjfpdogbcigaaDoor
open Go.RowKit Sim

theorem ret_tup {a b : Int} {c d : Bool} (h : a = b) (h' : c = d) : Ending.returned (.tuple #[.int .i64 a, .bool c]) = .returned (.tuple #[.int .i64 b, .bool d]) := by rw [h, h']
theorem ret_bool3 {a b : Bool} (h : a = b) : Ending.returned (.bool a) = .returned (.bool b) := by rw [h]
/-- The reference's names: those from operation 1 on. -/
def opT : List ByteArray := opL.tail
theorem opT_len : opT.length = 87 := by decide +kernel
theorem opT_get' : ∀ n : Fin 87, (opT.getD n.val ByteArray.empty).toList = (opS (n.val + 1)).toList := by decide +kernel
theorem bytesEq {a b : ByteArray} (h : a.toList = b.toList) : a = b := by
  have : a.data.toList = b.data.toList := by rw [← ByteArray.toList_eq, ← ByteArray.toList_eq]; exact h
  cases a; cases b; simp at this; simp [this]
theorem opT_get (n : Nat) (h : n < 87) : opT.getD n ByteArray.empty = opS (n + 1) := bytesEq (opT_get' ⟨n, h⟩)
theorem refNames_any (w : World) : Calls Tryd.prog 59 #[] w (MkS w opT) := by
  have h : simMake { P := Tryd.prog, glob := fun _ => none, call := noT } 1000 [] [] 59 [] = some (opT.map Value.string, 0, 87, 87, []) := by kernel_rfl
  refine (simMake_ok (callOk_none _ _) h (fun _ h => by cases h) w (GlobOk.none w)).mono fun e w' ⟨b, he, h1, h2, h3, h4⟩ => ?_
  subst he
  refine ⟨_, rfl, ⟨some ⟨b, 0, none⟩, 87, by rw [opT_len], fun _ => ⟨b, 0, rfl, h2, fun i hi => ?_⟩⟩, h4⟩
  rw [Nat.zero_add]
  exact h3 i _ (by rw [List.getElem?_map, List.getElem?_eq_getElem hi, List.getD_eq_getElem?_getD, List.getElem?_eq_getElem hi]; rfl)
theorem refName_out (op : Int) (w : World) (h : op < 1 ∨ 87 < op) : Calls Tryd.prog 47 #[.int .i64 op] w fun e w' => e = .returned (.string ⟨#[]⟩) ∧ Below w.heap.size w w' := by
  by_cases h0 : op < 1
  all_goals
    go_enter Tryd.func47, Tryd.ntmps47
    go_wp2_with fail
    go_ret
    exact ⟨rfl, Below.refl _ _⟩
theorem refName_in (n : Nat) (w : World) (h1 : 1 ≤ n) (h2 : n < 88) : Calls Tryd.prog 47 #[.int .i64 (n : Nat)] w fun e w' => e = .returned (.string (opS n)) ∧ Below w.heap.size w w' := by
  have hn := hid (refNames_any w)
  have hs := hid (opT_get (n - 1) (by omega))
  go_enter Tryd.func47, Tryd.ntmps47
  go_wp2_with fail
  refine hn.out.mono ?_
  rintro e w1 ⟨v, rfl, ⟨a, cap, rfl, hc⟩, hb⟩
  obtain ⟨b, off, rfl, hlt, hc⟩ := hc (by rw [opT_len]; omega)
  have hl : opT.length = 87 := opT_len
  have h0 := hc (n - 1) (by rw [hl]; omega)
  rw [hs.out] at h0
  rw [hl]
  have hcast : ((n : Int) - 1).toNat = n - 1 := by omega
  have Hb := hid hb
  clear hc hb hl
  go_wp2_with fail
  go_ret
  exact ⟨rfl, Hb.out⟩
theorem has_any (op : Int) (s : ByteArray) (w : World) (hs : s.size ≤ 100) (hl : ∀ w, Calls Tryd.prog 29 #[.int .i64 op] w fun e w' => e = .returned (.int .u8 (letZ op)) ∧ w = w') :
    Calls Tryd.prog 35 #[.int .i64 op, .string s] w fun e w' => e = .returned (.bool (hasB op s)) ∧ Below w.heap.size w w' := by
  have Hl := hid hl
  clear hl
  go_enter Tryd.func35, Tryd.ntmps35
  go_wp2
  go_loopw [5] (fun k wr => ∃ j m : Nat, j ≤ s.size ∧ k = .int .i64 j ∧ wr = w.drewN m ∧ ((s.data.toList.take j).any fun c => (c.toNat : Int) == letZ op) = false) (fun k _ => s.size - (intOf k).toNat)
  case atStart => exact ⟨0, 0, Nat.zero_le _, rfl, rfl, rfl⟩
  case round =>
    obtain ⟨j, m, hj, rfl, rfl, hno⟩ := hrel
    have Hno := hid hno
    clear hno
    by_cases hlt : j < s.size
    · go_wp2_with fail
      go_quiet ((go_at_call 29; exact Qt.at1 (Qt.of_same (Hl.out _))))
      have ht : s.data.toList.take (j + 1) = s.data.toList.take j ++ [s[j]] := by rw [List.take_succ_eq_append_getElem (by simpa using hlt)]; rfl
      have Ht := hid ht
      clear ht
      go_wp2
      · have h : (letZ op == (s[j].toNat : Int)) = true := by assumption
        go_ret
        refine ⟨ret_bool3 ?_, below_draws (below_draws (Below.refl _ _) _) _⟩
        unfold hasB
        rw [← List.take_append_drop (j + 1) s.data.toList, Ht.out, List.any_append, List.any_append]
        rw [beq_iff_eq] at h
        simp [h]
      · have h : (letZ op == (s[j].toNat : Int)) = false := by assumption
        go_roundw
        case rel =>
          refine ⟨j + 1, _, by omega, by go_num, rfl, ?_⟩
          rw [Ht.out, List.any_append, Hno.out]
          rw [beq_eq_false_iff_ne] at h
          simp
          exact fun e => h e.symm
        case measure => simp [intOf]; omega
    · obtain rfl : j = s.size := by omega
      go_wp2
      go_ret
      refine ⟨ret_bool3 ?_, below_draws (Below.refl _ _) _⟩
      have := Hno.out
      rw [List.take_of_length_le (by simp)] at this
      exact this.symm
end Go.Proofs.YtpmjfpdogbcigaaDoor
