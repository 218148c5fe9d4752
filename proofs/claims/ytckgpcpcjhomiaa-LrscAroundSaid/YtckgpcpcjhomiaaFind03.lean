/- Contracts of the searches of layer 3: the operation of a name; the reference's names; a letter among letters. -/
import Derived.Test.YtckgpcpcjhomiaaRows
import Derived.Test.YtckgpcpcjhomiaaPlain03
import Derived.Test.YtckgpcpcjhomiaaKit03
import Derived.Test.YtckgpcpcjhomiaaSimV
import Derived.Test.YtckgpcpcjhomiaaPlain01
import Derived.KernelRfl
namespace Go.Proofs.Ytckgpcpcjhomiaa
open Go.RowKit Sim

theorem ret_tup {a b : Int} {c d : Bool} (h : a = b) (h' : c = d) : Ending.returned (.tuple #[.int .i64 a, .bool c]) = .returned (.tuple #[.int .i64 b, .bool d]) := by rw [h, h']
theorem ret_bool3 {a b : Bool} (h : a = b) : Ending.returned (.bool a) = .returned (.bool b) := by rw [h]
/-- The reference's names: those from operation 1 on. -/
def opT : List ByteArray := opL.tail
theorem opT_len : opT.length = 87 := by decide +kernel
theorem opT_get' : ∀ n : Fin 87, (opT.getD n.val ByteArray.empty).toList = (opS (n.val + 1)).toList := by decide +kernel
theorem bytesEq {a b : ByteArray} (h : a.toList = b.toList) : a = b := by
  have : a.data.toList = b.data.toList := by rw [← ByteArray.toList_eq, ← ByteArray.toList_eq]; exact h
  cases a; cases b; simp at this; simp [this]
theorem opT_get (n : Nat) (h : n < 87) : opT.getD n ByteArray.empty = opS (n + 1) := bytesEq (opT_get' ⟨n, h⟩)
theorem has_any (op : Int) (s : ByteArray) (w : World) (hs : s.size ≤ 100) (hl : ∀ w, Calls Try.prog 43 #[.int .i64 op] w fun e w' => e = .returned (.int .u8 (letZ op)) ∧ w = w') :
    Calls Try.prog 42 #[.int .i64 op, .string s] w fun e w' => e = .returned (.bool (hasB op s)) ∧ Below w.heap.size w w' := by
  have Hl := hid hl
  clear hl
  go_enter Try.func42, Try.ntmps42
  go_wp2
  go_loopw [5] (fun k wr => ∃ j m : Nat, j ≤ s.size ∧ k = .int .i64 j ∧ wr = w.drewN m ∧ ((s.data.toList.take j).any fun c => (c.toNat : Int) == letZ op) = false) (fun k _ => s.size - (intOf k).toNat)
  case atStart => exact ⟨0, 0, Nat.zero_le _, rfl, rfl, rfl⟩
  case round =>
    obtain ⟨j, m, hj, rfl, rfl, hno⟩ := hrel
    have Hno := hid hno
    clear hno
    by_cases hlt : j < s.size
    · go_wp2_with fail
      go_quiet ((go_at_call 43; exact Qt.at1 (Qt.of_same (Hl.out _))))
      have ht : s.data.toList.take (j + 1) = s.data.toList.take j ++ [s[j]] := by rw [List.take_succ_eq_append_getElem (by simpa using hlt)]; rfl
      have Ht := hid ht
      clear ht
      go_wp2
      · have h : (letZ op == (s[j].toNat : Int)) = true := by assumption
        go_ret
        refine ⟨ret_bool3 ?_, below_draws (below_draws (Below.refl _ _) _) _⟩
        unfold hasB
        rw [← List.take_append_drop (j + 1) s.data.toList, Ht.out, List.any_append, List.any_append]
        rw [beq_iff_eq] at h
        simp [h]
      · have h : (letZ op == (s[j].toNat : Int)) = false := by assumption
        go_roundw
        case rel =>
          refine ⟨j + 1, _, by omega, by go_num, rfl, ?_⟩
          rw [Ht.out, List.any_append, Hno.out]
          rw [beq_eq_false_iff_ne] at h
          simp
          exact fun e => h e.symm
        case measure => simp [intOf]; omega
    · obtain rfl : j = s.size := by omega
      go_wp2
      go_ret
      refine ⟨ret_bool3 ?_, below_draws (Below.refl _ _) _⟩
      have := Hno.out
      rw [List.take_of_length_le (by simp)] at this
      exact this.symm
end Go.Proofs.Ytckgpcpcjhomiaa
