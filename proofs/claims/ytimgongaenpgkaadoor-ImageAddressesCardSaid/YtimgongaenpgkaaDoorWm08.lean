/- Contracts of package word on lists of bytes: Long, Word, Number. -/
import Derived.Test.YtimgongaenpgkaaDoorBytesL
import Derived.Test.YtimgongaenpgkaaDoorWordMem
namespace Go.Proofs.YtimgongaenpgkaaDoor
open Go.RowKit Sim S2
set_option linter.unusedVariables false
set_option linter.unusedSimpArgs false

/-- A list's bytes, as numbers. -/
def byN (el : Nat → List Value) (i : Nat) : Nat := (S2.intOf (el i)).toNat % 256
theorem byN_lt (el : Nat → List Value) (i : Nat) : byN el i < 256 := Nat.mod_lt _ (by decide)
def isB (n : Nat) (el : Nat → List Value) : Prop := ∀ j, j < n → el j = [.int .u8 ((byN el j : Nat) : Int)]
/-- The word and the doubleword that a list begins with; the kernel does not look into them. -/
theorem wwZ_ex : ∃ f : (Nat → List Value) → Int, ∀ el, f el = ((joinN (byN el) 4 : Nat) : Int) := ⟨_, fun _ => rfl⟩
noncomputable def wwZ : (Nat → List Value) → Int := Classical.choose wwZ_ex
theorem wwZ_eq (el : Nat → List Value) : wwZ el = ((joinN (byN el) 4 : Nat) : Int) := Classical.choose_spec wwZ_ex el
theorem nnZ_ex : ∃ f : (Nat → List Value) → Int, ∀ el, f el = i64N (joinN (byN el) 8) := ⟨_, fun _ => rfl⟩
noncomputable def nnZ : (Nat → List Value) → Int := Classical.choose nnZ_ex
theorem nnZ_eq (el : Nat → List Value) : nnZ el = i64N (joinN (byN el) 8) := Classical.choose_spec nnZ_ex el
theorem wwZ_rng (el : Nat → List Value) : 0 ≤ wwZ el ∧ wwZ el < 4294967296 := by
  have := joinN_lt (byN el) 4 (fun i => byN_lt el i)
  rw [wwZ_eq]; omega
theorem args2e {w : World} {e : LE} {y : Value} {vals : List Value} (h : ArgsOk w [.inr e, .inl y] vals) : ∃ u, vals = [u, y] ∧ InB w.heap.size w e u := by
  cases vals with
  | nil => exact h.elim
  | cons v r => exact ⟨v, by rw [args1 h.2], h.1⟩
theorem long_own (x : Int) (w : World) :
    Calls Tryd.prog 23 #[.int .i64 x] w (MkO 5 w (bytesN (u64N x) 8)) := by
  have hv := u64N_lt x
  have hu := u64N_eq x
  go_enter Tryd.func23, Tryd.ntmps23
  go_wp2_with (go_at_call 37; refine (split_own (u64N x) 8 _ (by omega) (by omega)).mono ?_; rintro e w' ⟨u, rfl, hu, hb⟩)
  go_ret
  exact ⟨_, rfl, hu, hb⟩
noncomputable def lLong : LTab := lrow 23 fun args => match args with
  | [.inl (.int .i64 x)] => some (false, [.inr (bytesE 8 (byteZ (IntKind.u64.wrap x)))], true)
  | _ => none
theorem lLong_ok {gl : Nat → Option (List Value)} : LTabOk Tryd.prog gl lLong := .row fun args tup res h w vals hG ha => by
  split at h
  · rename_i x
    simp only [Option.some.injEq, Prod.mk.injEq] at h
    obtain ⟨rfl, rfl, _⟩ := h
    rw [args1 ha]
    refine lret_bytes (x := u64N x) (fun i _ => ?_) (long_own x w)
    rw [byteZ_eq]
    have : (IntKind.u64.wrap x).toNat = u64N x := by
      rw [u64N_eq x]; exact Int.toNat_natCast _
    rw [this]
  · cases h
end Go.Proofs.YtimgongaenpgkaaDoor
