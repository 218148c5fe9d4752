/- Contracts of layer 1 on lists of bytes, for the evaluator with lists. -/
import Derived.Test.YtimgongaenpgkaaS2I
import Derived.Test.YtimgongaenpgkaaWordMem
import Derived.Test.YtimgongaenpgkaaRef01
namespace Go.Proofs.Ytimgongaenpgkaa
open Go.RowKit Sim S2
set_option linter.unusedVariables false
set_option linter.unusedSimpArgs false

/-- A byte of a number; the kernel does not look into it. -/
theorem byteZ_ex : ∃ g : Int → Nat → Int, ∀ x i, g x i = ((byteN x.toNat i : Nat) : Int) := ⟨_, fun _ _ => rfl⟩
noncomputable def byteZ : Int → Nat → Int := Classical.choose byteZ_ex
theorem byteZ_eq (x : Int) (i : Nat) : byteZ x i = ((byteN x.toNat i : Nat) : Int) := Classical.choose_spec byteZ_ex x i
/-- A list of bytes. -/
def bytesE (n : Nat) (g : Nat → Int) : LE := ⟨5, 1, n, fun i => [.int .u8 (g i)], true, false, true⟩
theorem flat_one (h : Nat → Value) : ∀ (n : Nat), (List.range n).flatMap (fun i => [h i]) = (List.range n).map h
  | 0 => rfl
  | n + 1 => by rw [List.range_succ, List.flatMap_append, flat_one h n, List.map_append]; rfl
theorem bytesE_own {B : Nat} {w : World} {n : Nat} {g : Nat → Int} {x : Nat} {v : Value} (hg : ∀ i, i < n → g i = ((byteN x i : Nat) : Int)) (h : w.ownsRow B 5 1 v (bytesN x n).length ((bytesN x n).map byteV)) : OwnB B w (bytesE n g) v := by
  refine ⟨⟨by show 0 < 1; omega, fun j hj => ⟨rfl, rfl⟩⟩, ?_⟩
  rw [bytesN_len] at h
  have e : (bytesE n g).flat = (bytesN x n).map byteV := by
    unfold LE.flat
    show (List.range n).flatMap (fun i => [Value.int .u8 (g i)]) = _
    rw [flat_one]
    unfold bytesN
    rw [List.map_map]
    exact List.map_congr_left fun i hi => by
      show Value.int .u8 (g i) = byteV (byteN x i)
      rw [hg i (List.mem_range.mp hi)]
  rw [e]; exact h
theorem lret_bytes {f : FuncId} {vals : List Value} {w : World} {n x : Nat} {g : Nat → Int} (hg : ∀ i, i < n → g i = ((byteN x i : Nat) : Int)) (h : Calls Try.prog f vals.toArray w (MkO 5 w (bytesN x n))) : LRet Try.prog f vals false [.inr (bytesE n g)] w :=
  h.mono fun e w' ⟨v, he, ho, hb⟩ => ⟨[v], he, outOk_one (bytesE_own hg ho), hb⟩
theorem args1 {w : World} {x : Value} {vals : List Value} (h : ArgsOk w [.inl x] vals) : vals = [x] := by
  cases vals with
  | nil => exact h.elim
  | cons v r =>
    cases r with
    | nil => rw [show v = x from h.1]
    | cons _ _ => exact h.2.elim
theorem args2 {w : World} {x y : Value} {vals : List Value} (h : ArgsOk w [.inl x, .inl y] vals) : vals = [x, y] := by
  cases vals with
  | nil => exact h.elim
  | cons v r => rw [args1 h.2, show v = x from h.1]
noncomputable def lBytes : LTab := lrow 18 fun args => match args with
  | [.inl (.int .u32 x)] => some (false, [.inr (bytesE 4 (byteZ x))], pre (decide (0 ≤ x ∧ x < 4294967296)))
  | _ => none
theorem lBytes_ok {gl : Nat → Option (List Value)} : LTabOk Try.prog gl lBytes := .row fun args tup res h w vals hG ha => by
  split at h
  · rename_i x
    simp only [Option.some.injEq, Prod.mk.injEq, pre, decide_eq_true_eq] at h
    obtain ⟨rfl, rfl, h0, h1⟩ := h
    obtain ⟨x, rfl⟩ := Int.eq_ofNat_of_zero_le h0
    rw [args1 ha]
    exact lret_bytes (fun i _ => by rw [byteZ_eq, Int.toNat_natCast]) (bytes_own x w (by omega))
  · cases h
noncomputable def lRefBytes : LTab := lrow 26 fun args => match args with
  | [.inl (.int .u64 x), .inl (.int .i64 n)] => some (false, [.inr (bytesE n.toNat (byteZ x))], pre (decide (0 ≤ x ∧ x < 18446744073709551616 ∧ 0 ≤ n ∧ n ≤ 65536)))
  | _ => none
theorem lRefBytes_ok {gl : Nat → Option (List Value)} : LTabOk Try.prog gl lRefBytes := .row fun args tup res h w vals hG ha => by
  split at h
  · rename_i x n
    simp only [Option.some.injEq, Prod.mk.injEq, pre, decide_eq_true_eq] at h
    obtain ⟨rfl, rfl, h0, h1, h2, h3⟩ := h
    obtain ⟨x, rfl⟩ := Int.eq_ofNat_of_zero_le h0
    obtain ⟨n, rfl⟩ := Int.eq_ofNat_of_zero_le h2
    rw [args2 ha, Int.toNat_natCast]
    exact lret_bytes (fun i _ => by rw [byteZ_eq, Int.toNat_natCast]) (refBytes_own x n w (by omega) (by omega))
  · cases h
/-- Two lists of the same bytes. -/
def sameBytes (e e' : LE) : Prop := ∃ xs : List Nat, e.size = 1 ∧ e'.size = 1 ∧ e.n = xs.length ∧ e'.n = xs.length ∧ xs.length ≤ 1000000000000 ∧ ∀ i, i < xs.length → e.el i = [byteV (xs.getD i 0)] ∧ e'.el i = [byteV (xs.getD i 0)]
theorem rdB_of {B : Nat} {w : World} {e : LE} {v : Value} {xs : List Nat} (h : InB B w e v) (h1 : e.size = 1) (h2 : e.n = xs.length) (h3 : ∀ i, i < xs.length → e.el i = [byteV (xs.getD i 0)]) : RdB w B v xs := by
  obtain ⟨_, a, cap, hv, _, hc⟩ := h
  refine ⟨a, cap, by rw [← h2]; exact hv, fun hp => ?_⟩
  obtain ⟨b, off, ha, hb, hcell⟩ := hc (by omega)
  refine ⟨b, off, ha, hb, fun i hi => ?_⟩
  have := hcell i (by omega) 0 (byteV (xs.getD i 0)) (by rw [h3 i hi]; rfl)
  rw [h1, Nat.mul_one, Nat.add_zero] at this
  exact this
noncomputable def lRefSame : LTab := lrow 11 fun args => match args with
  | [.inr e, .inr e'] => some (false, [.inl (.bool true)], pre (propB (sameBytes e e')))
  | _ => none
theorem lRefSame_ok {gl : Nat → Option (List Value)} : LTabOk Try.prog gl lRefSame := .row fun args tup res h w vals hG ha => by
  split at h
  · rename_i e e'
    simp only [Option.some.injEq, Prod.mk.injEq] at h
    obtain ⟨rfl, rfl, hp⟩ := h
    obtain ⟨xs, h1, h2, h3, h4, h5, h6⟩ := propB_ok.mp hp
    cases vals with
    | nil => exact ha.elim
    | cons u r =>
      cases r with
      | nil => exact ha.2.elim
      | cons v r =>
        cases r with
        | cons _ _ => exact ha.2.2.elim
        | nil =>
          have r1 := rdB_of ha.1 h1 h3 (fun i hi => (h6 i hi).1)
          have r2 := rdB_of ha.2.1 h2 h4 (fun i hi => (h6 i hi).2)
          exact (refSame_yes (by omega) r1 r2).mono fun e w' ⟨he, m, hm⟩ => ⟨[.bool true], he, outOk_val _ _ _, hm ▸ below_draws (Below.refl _ _) m⟩
  · cases h
end Go.Proofs.Ytimgongaenpgkaa
