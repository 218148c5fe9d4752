/- Layer 13: all of a candidate's numbers are Go's. -/
import Derived.Test.YtmaffamhjmlonaaHby13
import Derived.Test.YtmaffamhjmlonaaOpen13
set_option linter.unusedVariables false
set_option linter.unusedSimpArgs false
namespace Go.Proofs.Ytmaffamhjmlonaa
open Go Go.RowKit Sim S2
theorem wfI_in {x : Int} (h : wfI x) : inI x = true := decide_eq_true h
theorem nat_inI {n : Nat} (h : n <= 9223372036854775807) : inI (n : Int) = true := wfI_in ⟨by omega, by omega⟩
theorem recL_in {r : Rc} (h : wfRc r) : ∀ x ∈ recL r, inI x = true := fun x hx => by
 obtain ⟨h1, h2, h3, h4⟩ := h
 unfold recL at hx
 simp only [List.mem_cons, List.not_mem_nil, or_false] at hx
 rcases hx with rfl | rfl | rfl | rfl | rfl
 . exact wfI_in h1
 . exact wfI_in h2
 . exact wfI_in h3
 . exact wfI_in h4
 . unfold flI
   cases r.fl <;> cases r.wt <;> rfl
theorem hrL_in {gl : Gl} {v : Value} : ∀ n, (∀ k, k < n -> wfRc (rcG gl v k)) -> ∀ x ∈ hrL gl v n, inI x = true
 | 0, _, x, hx => by cases hx
 | n + 1, h, x, hx => by
   rcases List.mem_append.mp (show x ∈ hrL gl v n ++ recL _ from hx) with h1 | h1
   . exact hrL_in n (fun k hk => h k (by omega)) x h1
   . exact recL_in (h n (by omega)) x h1
theorem rrL_in {gl : Gl} {v : Value} : ∀ n, (∀ k, k < n -> wfRf (rfG gl v k)) -> ∀ x ∈ rrL gl v n, inI x = true
 | 0, _, x, hx => by cases hx
 | n + 1, h, x, hx => by
   rcases List.mem_append.mp (show x ∈ rrL gl v n ++ [_, _] from hx) with h1 | h1
   . exact rrL_in n (fun k hk => h k (by omega)) x h1
   . simp only [List.mem_cons, List.not_mem_nil, or_false] at h1
     rcases h1 with rfl | rfl
     . exact wfI_in (h n (by omega)).1
     . exact wfI_in (h n (by omega)).2
theorem hsL_in {gl : Gl} {c : Cn} (sc : CnSm gl c) (hw : CnWf gl c) : ∀ n, n <= c.hn -> ∀ x ∈ hsL gl c n, inI x = true
 | 0, _, x, hx => by cases hx
 | n + 1, hn, x, hx => by
   rcases List.mem_append.mp (show x ∈ hsL gl c n ++ ([(lenV (c.hv gl n) : Int)] ++ hrL gl (c.hv gl n) (lenV (c.hv gl n))) from hx) with h1 | h1
   . exact hsL_in sc hw n (by omega) x h1
   . rcases List.mem_append.mp h1 with h2 | h2
     . obtain rfl := List.mem_singleton.mp h2
       exact nat_inI (sc.2.2.1 n (by omega))
     . exact hrL_in _ (hw.rc n (by omega)) x h2
theorem rsL_in {gl : Gl} {c : Cn} (sc : CnSm gl c) (hw : CnWf gl c) : ∀ n, n <= c.rn -> ∀ x ∈ rsL gl c n, inI x = true
 | 0, _, x, hx => by cases hx
 | n + 1, hn, x, hx => by
   rcases List.mem_append.mp (show x ∈ rsL gl c n ++ ([raG gl c.r n, (lenV (c.rv gl n) : Int)] ++ rrL gl (c.rv gl n) (lenV (c.rv gl n))) from hx) with h1 | h1
   . exact rsL_in sc hw n (by omega) x h1
   . rcases List.mem_append.mp h1 with h2 | h2
     . simp only [List.mem_cons, List.not_mem_nil, or_false] at h2
       rcases h2 with rfl | rfl
       . exact wfI_in (hw.ra n (by omega))
       . exact nat_inI (sc.2.2.2 n (by omega))
     . exact rrL_in _ (hw.rf n (by omega)) x h2
theorem cnIn_of {gl : Gl} {c : Cn} (sc : CnSm gl c) (hw : CnWf gl c) : CnIn gl c := fun j hj => by
 have hx : ((numL13 gl c)[j]?).getD 0 ∈ numL13 gl c := by
   rw [List.getElem?_eq_getElem hj]
   exact List.getElem_mem hj
 revert hx
 generalize ((numL13 gl c)[j]?).getD 0 = x
 intro hx
 rcases List.mem_append.mp (show x ∈ (([(c.hn : Int)] ++ hsL gl c c.hn) ++ [(c.rn : Int)]) ++ rsL gl c c.rn from hx) with h1 | h1
 . rcases List.mem_append.mp h1 with h2 | h2
   . rcases List.mem_append.mp h2 with h3 | h3
     . obtain rfl := List.mem_singleton.mp h3
       exact nat_inI sc.1
     . exact hsL_in sc hw _ (Nat.le_refl _) x h3
   . obtain rfl := List.mem_singleton.mp h2
     exact nat_inI sc.2.1
 . exact rsL_in sc hw _ (Nat.le_refl _) x h1
end Go.Proofs.Ytmaffamhjmlonaa
