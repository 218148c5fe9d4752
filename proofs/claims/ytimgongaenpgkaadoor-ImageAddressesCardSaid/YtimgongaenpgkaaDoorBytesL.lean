/- Contracts of layer 1 on lists of bytes, for the evaluator with lists. -/
import Derived.Test.YtimgongaenpgkaaDoorS2I
import Derived.Test.YtimgongaenpgkaaDoorWordMem
import Derived.Test.YtimgongaenpgkaaDoorRef01
namespace Go.Proofs.YtimgongaenpgkaaDoor
open Go.RowKit Sim S2
set_option linter.unusedVariables false
set_option linter.unusedSimpArgs false

/-- A byte of a number; the kernel does not look into it. -/
theorem byteZ_ex : ∃ g : Int → Nat → Int, ∀ x i, g x i = ((byteN x.toNat i : Nat) : Int) := ⟨_, fun _ _ => rfl⟩
noncomputable def byteZ : Int → Nat → Int := Classical.choose byteZ_ex
theorem byteZ_eq (x : Int) (i : Nat) : byteZ x i = ((byteN x.toNat i : Nat) : Int) := Classical.choose_spec byteZ_ex x i
/-- A list of bytes. -/
def bytesE (n : Nat) (g : Nat → Int) : LE := ⟨5, 1, n, fun i => [.int .u8 (g i)], true, false, true⟩
theorem flat_one (h : Nat → Value) : ∀ (n : Nat), (List.range n).flatMap (fun i => [h i]) = (List.range n).map h
  | 0 => rfl
  | n + 1 => by rw [List.range_succ, List.flatMap_append, flat_one h n, List.map_append]; rfl
theorem bytesE_own {B : Nat} {w : World} {n : Nat} {g : Nat → Int} {x : Nat} {v : Value} (hg : ∀ i, i < n → g i = ((byteN x i : Nat) : Int)) (h : w.ownsRow B 5 1 v (bytesN x n).length ((bytesN x n).map byteV)) : OwnB B w (bytesE n g) v := by
  refine ⟨⟨by show 0 < 1; omega, fun j hj => ⟨rfl, rfl⟩⟩, ?_⟩
  rw [bytesN_len] at h
  have e : (bytesE n g).flat = (bytesN x n).map byteV := by
    unfold LE.flat
    show (List.range n).flatMap (fun i => [Value.int .u8 (g i)]) = _
    rw [flat_one]
    unfold bytesN
    rw [List.map_map]
    exact List.map_congr_left fun i hi => by
      show Value.int .u8 (g i) = byteV (byteN x i)
      rw [hg i (List.mem_range.mp hi)]
  rw [e]; exact h
theorem lret_bytes {f : FuncId} {vals : List Value} {w : World} {n x : Nat} {g : Nat → Int} (hg : ∀ i, i < n → g i = ((byteN x i : Nat) : Int)) (h : Calls Tryd.prog f vals.toArray w (MkO 5 w (bytesN x n))) : LRet Tryd.prog f vals false [.inr (bytesE n g)] w :=
  h.mono fun e w' ⟨v, he, ho, hb⟩ => ⟨[v], he, outOk_one (bytesE_own hg ho), hb⟩
theorem args1 {w : World} {x : Value} {vals : List Value} (h : ArgsOk w [.inl x] vals) : vals = [x] := by
  cases vals with
  | nil => exact h.elim
  | cons v r =>
    cases r with
    | nil => rw [show v = x from h.1]
    | cons _ _ => exact h.2.elim
theorem args2 {w : World} {x y : Value} {vals : List Value} (h : ArgsOk w [.inl x, .inl y] vals) : vals = [x, y] := by
  cases vals with
  | nil => exact h.elim
  | cons v r => rw [args1 h.2, show v = x from h.1]
noncomputable def lBytes : LTab := lrow 22 fun args => match args with
  | [.inl (.int .u32 x)] => some (false, [.inr (bytesE 4 (byteZ x))], pre (decide (0 ≤ x ∧ x < 4294967296)))
  | _ => none
theorem lBytes_ok {gl : Nat → Option (List Value)} : LTabOk Tryd.prog gl lBytes := .row fun args tup res h w vals hG ha => by
  split at h
  · rename_i x
    simp only [Option.some.injEq, Prod.mk.injEq, pre, decide_eq_true_eq] at h
    obtain ⟨rfl, rfl, h0, h1⟩ := h
    obtain ⟨x, rfl⟩ := Int.eq_ofNat_of_zero_le h0
    rw [args1 ha]
    exact lret_bytes (fun i _ => by rw [byteZ_eq, Int.toNat_natCast]) (bytes_own x w (by omega))
  · cases h
end Go.Proofs.YtimgongaenpgkaaDoor
