/- Contracts of the answers by definition for layer 7: Half, Eval, Taken, Amo, operation by operation. -/
import Derived.Test.YtpmjfpdogbcigaaDoorMoved07
namespace Go.Proofs.YtpmjfpdogbcigaaDoor
open Go.RowKit Sim S2
set_option linter.unusedVariables false
set_option linter.unusedSimpArgs false

theorem movZ_ex : ∃ f : Int → Int → Bool → Int → Int → Int, ∀ a n up x wd, f a n up x wd = i64N (sumB (mvB (u64N a) n.toNat up x.toNat wd.toNat) 64) := ⟨_, fun _ _ _ _ _ => rfl⟩
noncomputable def movZ : Int → Int → Bool → Int → Int → Int := Classical.choose movZ_ex
theorem movZ_eq (a n : Int) (up : Bool) (x wd : Int) : movZ a n up x wd = i64N (sumB (mvB (u64N a) n.toNat up x.toNat wd.toNat) 64) := Classical.choose_spec movZ_ex a n up x wd
theorem btZ_ex : ∃ f : Int → Int → Int, ∀ v i, f v i = (bitN v.toNat i.toNat : Nat) := ⟨_, fun _ _ => rfl⟩
noncomputable def btZ : Int → Int → Int := Classical.choose btZ_ex
theorem btZ_eq (v i : Int) : btZ v i = (bitN v.toNat i.toNat : Nat) := Classical.choose_spec btZ_ex v i
theorem hafZ_ex : ∃ f : Int → Int, ∀ v, f v = wrap32 v := ⟨_, fun _ => rfl⟩
noncomputable def hafZ : Int → Int := Classical.choose hafZ_ex
theorem hafZ_eq (v : Int) : hafZ v = wrap32 v := Classical.choose_spec hafZ_ex v
def mvC (n x wd : Int) : Bool := decide (0 ≤ n ∧ n ≤ 63 ∧ 0 ≤ x ∧ x ≤ 1 ∧ 0 ≤ wd ∧ wd ≤ 64)
noncomputable def decMoved : List Value → Option (Value × Bool)
  | [.int .i64 a, .int .i64 n, .bool up, .int .i64 x, .int .i64 wd] => some (.int .i64 (movZ a n up x wd), pre (mvC n x wd))
  | _ => none
noncomputable def pRefMoved : PTab := prowD 48 decMoved
theorem pRefMoved_ok {gl : Nat → Option (List Value)} : PTabOk Tryd.prog gl pRefMoved := .rowD fun args u hd w hG => by
  unfold decMoved at hd
  split at hd
  · rename_i a n up x wd
    simp only [Option.some.injEq, Prod.mk.injEq, pre] at hd
    obtain ⟨rfl, hc⟩ := hd
    unfold mvC at hc
    obtain ⟨n0, n1, x0, x1, w0, w1⟩ := of_decide_eq_true hc
    obtain ⟨n, rfl⟩ := Int.eq_ofNat_of_zero_le n0
    obtain ⟨x, rfl⟩ := Int.eq_ofNat_of_zero_le x0
    obtain ⟨wd, rfl⟩ := Int.eq_ofNat_of_zero_le w0
    rw [movZ_eq, Int.toNat_natCast, Int.toNat_natCast, Int.toNat_natCast]
    exact refMoved_any a n x wd up (by omega) (by omega) (by omega) w
  · cases hd
noncomputable def decBit7 : List Value → Option (Value × Bool)
  | [.int .u64 v, .int .i64 i] => some (.int .i64 (btZ v i), pre (u64C v && decide (0 ≤ i ∧ i ≤ 64)))
  | _ => none
noncomputable def pRefBit : PTab := prowD 45 decBit7
theorem pRefBit_ok {gl : Nat → Option (List Value)} : PTabOk Tryd.prog gl pRefBit := .rowD fun args u hd w hG => by
  unfold decBit7 at hd
  split at hd
  · rename_i v i
    simp only [Option.some.injEq, Prod.mk.injEq, pre, Bool.and_eq_true, u64C_iff, decide_eq_true_eq] at hd
    obtain ⟨rfl, ⟨v0, v1⟩, i0, i1⟩ := hd
    obtain ⟨v, rfl⟩ := Int.eq_ofNat_of_zero_le v0
    obtain ⟨i, rfl⟩ := Int.eq_ofNat_of_zero_le i0
    rw [btZ_eq, Int.toNat_natCast, Int.toNat_natCast]
    exact Ret.of_same (refBit_any v i w (by omega) (by omega))
  · cases hd
noncomputable def decSg7 : List Value → Option (Value × Bool)
  | [.int .u64 v, .int .i64 32] => some (.int .i64 (hafZ v), pre (u64C v))
  | _ => none
theorem sign32 (v : Nat) : signN v 32 = wrap32 v := by
  unfold signN bitN wrap32
  simp only [Nat.reducePow, Nat.reduceSub]
  omega
noncomputable def pRefSg : PTab := prowD 28 decSg7
theorem pRefSg_ok {gl : Nat → Option (List Value)} : PTabOk Tryd.prog gl pRefSg := .rowD fun args u hd w hG => by
  unfold decSg7 at hd
  split at hd
  · rename_i v
    simp only [Option.some.injEq, Prod.mk.injEq, pre, u64C_iff] at hd
    obtain ⟨rfl, v0, v1⟩ := hd
    obtain ⟨v, rfl⟩ := Int.eq_ofNat_of_zero_le v0
    rw [hafZ_eq, ← sign32]
    exact Ret.of_same (refSign_any v 32 w (by omega) (by omega) (by omega))
  · cases hd
noncomputable def env7h : S2.Env := envq Tryd.prog (fun _ => none) noT pRefSg noL
theorem env7h_ok : CallOk env7h := envq_ok (.none _ _) pRefSg_ok (.none _ _)
theorem refHalf_sim (v : Int) : simF env7h 1000 10 [] [] 62 [[true]] [.inl (.int .i64 v)] = some (false, [.inl (.int .i64 (hafZ (IntKind.u64.wrap v)))], [(pre (u64C (IntKind.u64.wrap v)), true)], []) := by kernel_rfl
theorem refHalf_ret (v : Int) (w : World) : Ret Tryd.prog 62 #[.int .i64 v] (.int .i64 (hafZ v)) w := by
  refine (ret7 env7h_ok _ _ (refHalf_sim v) (all_cons (u64C_wrap v) all_nil) Tryd.func62 w [.int .i64 v] (GlobOk.none w) ⟨rfl, trivial⟩).of_eq ?_
  rw [hafZ_eq, hafZ_eq, wrapU]
  congr 1
  unfold wrap32; omega
noncomputable def tRefHalf : Tab := row 62 decI fun x => .int .i64 (hafZ x)
theorem tRefHalf_ok {gl : Nat → Option (List Value)} : TabOk Tryd.prog gl tRefHalf := tabI fun x w _ => refHalf_ret x w
/-! ### ref07.Eval -/
noncomputable def env7e : S2.Env := envq Tryd.prog (fun _ => none) (orT tRefName tRefHalf) (orP pRefMoved <| orP pRefBit <| orP pRefDiv <| orP pRefDivU <| orP pRefMul pRefUpper) noL
theorem env7e_ok : CallOk env7e := envq_ok (tRefName_ok.or tRefHalf_ok) (pRefMoved_ok.or <| pRefBit_ok.or <| pRefDiv_ok.or <| pRefDivU_ok.or <| pRefMul_ok.or pRefUpper_ok) (.none _ _)
end Go.Proofs.YtpmjfpdogbcigaaDoor
