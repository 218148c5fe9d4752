/- Num13, Bytes13. -/
import Derived.Test.YtmaffamhjmlonaaCand13
import Derived.Test.YtmaffamhjmlonaaSameF13
set_option linter.unusedVariables false
set_option linter.unusedSimpArgs false
namespace Go.Proofs.Ytmaffamhjmlonaa
open Go.RowKit Sim S2
def byE (B : List Int) : LE := ⟨5, 1, B.length, fun j => [.int .u8 ((B[j]?).getD 0)], true, false, true⟩
theorem joinB_app {n : Nat} {f g h : Nat -> List Value} {m : Nat} (h1 : ∀ i, i < n -> f i = h i) (h2 : ∀ i, i < m -> g i = h (n + i)) : ∀ i, i < n + m -> joinE n f g i = h i := fun i hi => by
 unfold joinE
 cases hb : Nat.blt i n
 . have hx : ¬ i < n := fun hc => by rw [<- Nat.blt_eq, hb] at hc; cases hc
   show g (i - n) = h i
   rw [h2 (i - n) (by omega)]
   congr 1; omega
 . exact h1 i (by simpa [Nat.blt_eq] using hb)
def a1b (B : List Int) (x : Int) : LE := ⟨5, 1, B.length + 1, joinE B.length (byE B).el (tabE [[.int .u8 x]]), true, false, true⟩
theorem app1b (B : List Int) (x : Int) : sameE (a1b B x) (byE (B ++ [x])) := ⟨rfl, rfl, by simp [a1b, byE], rfl, rfl, joinB_app (fun i hi => by
   show [Value.int .u8 ((B[i]?).getD 0)] = [Value.int .u8 (((B ++ [x])[i]?).getD 0)]
   rw [List.getElem?_append_left hi]) (fun i hi => by
   obtain rfl : i = 0 := Nat.lt_one_iff.mp hi
   show [Value.int .u8 x] = [Value.int .u8 (((B ++ [x])[B.length + 0]?).getD 0)]
   simp)⟩
noncomputable def nuV (u : Int) : Int := IntKind.u8.wrap (arZ .add .u64 (arZ .rem .u64 u 128) 128)
theorem nuV_eq (u : Nat) (hu : u < 18446744073709551616) : nuV u = ((u % 128 + 128 : Nat) : Int) := by
 unfold nuV
 rw [arZ_eq, arZ_eq]
 simp only [arF]
 rw [IntKind.wrap_u64, IntKind.wrap_u8, Int.tmod_eq_emod_of_nonneg (by omega)]; omega
def grN (u : Nat) : Nat := skipN (fun j => decide (127 < u / 128 ^ j)) 10 0
def grB (u : Nat) : Nat -> List Int
 | 0 => []
 | j + 1 => grB u j ++ [((u / 128 ^ j % 128 + 128 : Nat) : Int)]
theorem grB_len (u : Nat) : ∀ j, (grB u j).length = j
 | 0 => rfl
 | j + 1 => by show (grB u j ++ [_]).length = j + 1; rw [List.length_append, grB_len u j]; rfl
def vbL (u : Nat) : List Int := grB u (grN u) ++ [((u / 128 ^ grN u : Nat) : Int)]
theorem gr_lt (u : Nat) (hu : u < 18446744073709551616) : grN u < 10 := by
 have h1 := skipN_le (fun j => decide (127 < u / 128 ^ j)) 10 0
 have h2 := skipN_all (fun j => decide (127 < u / 128 ^ j)) 10 0 9 (by omega)
 unfold grN
 rcases Nat.lt_or_ge (skipN (fun j => decide (127 < u / 128 ^ j)) 10 0) 10 with h | h
 . exact h
 . have := of_decide_eq_true (h2 (by omega))
   rw [show (128 ^ 9 : Nat) = 9223372036854775808 by decide] at this
   omega
def zgN (n : Int) : Nat := if n < 0 then (2 * (-(n + 1)) + 1).toNat else (2 * n).toNat
end Go.Proofs.Ytmaffamhjmlonaa
namespace Go.Proofs.Ytmaffamhjmlonaa
open Go.RowKit Sim S2
def inE (N : List Int) : LE := ⟨3, 1, N.length, fun j => [.int .i64 ((N[j]?).getD 0)], true, false, true⟩
def CnBd (gl : Gl) (c : Cn) : Prop := c.hn <= 10000 /\ c.rn <= 10000 /\ (∀ i, i < c.hn -> lenV (c.hv gl i) <= 10000) /\ ∀ i, i < c.rn -> lenV (c.rv gl i) <= 10000
def flI (r : Rc) : Int := bif r.fl then 2 else bif r.wt then 1 else 0
def recL (r : Rc) : List Int := [r.pc, r.val, r.sh, r.sa, flI r]
noncomputable def hrL (gl : Gl) (v : Value) : Nat -> List Int
 | 0 => []
 | k + 1 => hrL gl v k ++ recL (rcG gl v k)
noncomputable def hsL (gl : Gl) (c : Cn) : Nat -> List Int
 | 0 => []
 | i + 1 => hsL gl c i ++ ([(lenV (c.hv gl i) : Int)] ++ hrL gl (c.hv gl i) (lenV (c.hv gl i)))
noncomputable def rrL (gl : Gl) (v : Value) : Nat -> List Int
 | 0 => []
 | k + 1 => rrL gl v k ++ [(rfG gl v k).h, (rfG gl v k).a]
noncomputable def rsL (gl : Gl) (c : Cn) : Nat -> List Int
 | 0 => []
 | i + 1 => rsL gl c i ++ ([raG gl c.r i, (lenV (c.rv gl i) : Int)] ++ rrL gl (c.rv gl i) (lenV (c.rv gl i)))
theorem hrL_len (gl : Gl) (v : Value) : ∀ k, (hrL gl v k).length = 5 * k
 | 0 => rfl
 | k + 1 => by show (hrL gl v k ++ recL _).length = _; rw [List.length_append, hrL_len gl v k]; show 5 * k + 5 = _; omega
theorem rrL_len (gl : Gl) (v : Value) : ∀ k, (rrL gl v k).length = 2 * k
 | 0 => rfl
 | k + 1 => by show (rrL gl v k ++ [_, _]).length = _; rw [List.length_append, rrL_len gl v k]; show 2 * k + 2 = _; omega
theorem hsL_len {gl : Gl} {c : Cn} (h : ∀ i, i < c.hn -> lenV (c.hv gl i) <= 10000) : ∀ i, i <= c.hn -> (hsL gl c i).length <= 50001 * i
 | 0, _ => Nat.le_refl _
 | i + 1, hi => by
   have h1 := hsL_len h i (by omega)
   have h2 := h i (by omega)
   show (hsL gl c i ++ ([_] ++ hrL gl (c.hv gl i) _)).length <= _
   rw [List.length_append, List.length_append, hrL_len]
   show (hsL gl c i).length + (1 + 5 * lenV (c.hv gl i)) <= _
   omega
theorem rsL_len {gl : Gl} {c : Cn} (h : ∀ i, i < c.rn -> lenV (c.rv gl i) <= 10000) : ∀ i, i <= c.rn -> (rsL gl c i).length <= 20002 * i
 | 0, _ => Nat.le_refl _
 | i + 1, hi => by
   have h1 := rsL_len h i (by omega)
   have h2 := h i (by omega)
   show (rsL gl c i ++ ([_, _] ++ rrL gl (c.rv gl i) _)).length <= _
   rw [List.length_append, List.length_append, rrL_len]
   show (rsL gl c i).length + (2 + 2 * lenV (c.rv gl i)) <= _
   omega
end Go.Proofs.Ytmaffamhjmlonaa
