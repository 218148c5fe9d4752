/- Layer 13: the reader reads back a candidate that is well made. -/
import Derived.Test.YtmaffamhjmlonaaReadN13
set_option linter.unusedVariables false
set_option linter.unusedSimpArgs false
namespace Go.Proofs.Ytmaffamhjmlonaa
open Go Go.RowKit Sim S2
theorem vbs_cons (x : Int) (N R : List Int) : vbs (x :: N) ++ R = vbL (zgN x) ++ (vbs N ++ R) := by
 show (vbL (zgN x) ++ vbs N) ++ R = _
 rw [List.append_assoc]
theorem vbs_nil (R : List Int) : vbs [] ++ R = R := rfl
def refC (r : Rf) : List Int := [r.h, r.a]
theorem ref_read {r : Rf} (hr : wfRf r) (R : List Int) (b : Bool) : refO (vbs (refC r) ++ R) b = (r, R, b) := by
 have h1 : inI r.h = true := decide_eq_true hr.1
 have h2 : inI r.a = true := decide_eq_true hr.2
 rw [refO_eq]
 unfold refF refC
 rw [vbs_cons, vbs_cons, vbs_nil, num_read h1]
 show ((⟨r.h, (numO (vbL (zgN r.a) ++ R) b).1⟩ : Rf), (numO (vbL (zgN r.a) ++ R) b).2) = _
 rw [num_read h2]
theorem rec_read {r : Rc} (hr : wfRc r) (hb : (r.wt && r.fl) = false) (R : List Int) (b : Bool) : recO (vbs (recL r) ++ R) b = (r, R, b) := by
 have h1 : inI r.pc = true := decide_eq_true hr.1
 have h2 : inI r.val = true := decide_eq_true hr.2.1
 have h3 : inI (flI r) = true := by unfold flI; cases r.fl <;> cases r.wt <;> rfl
 have e : vbs (recL r) ++ R = vbL (zgN r.pc) ++ (vbL (zgN r.val) ++ (vbs (refC ⟨r.sh, r.sa⟩) ++ (vbL (zgN (flI r)) ++ R))) := by
   unfold recL refC
   rw [vbs_cons, vbs_cons, vbs_cons, vbs_cons, vbs_cons, vbs_cons, vbs_cons, vbs_nil, vbs_nil]
 rw [recO_eq, e]
 unfold recF
 simp only
 rw [num_read h1]
 simp only
 rw [num_read h2]
 simp only
 rw [ref_read (r := ⟨r.sh, r.sa⟩) ⟨hr.2.2.1, hr.2.2.2⟩]
 simp only
 rw [num_read h3]
 rcases r with ⟨p, v, s, a, wt, fl⟩
 cases wt <;> cases fl <;> first | rfl | cases hb
theorem stF_read {α : Type} {next : List Int -> Bool -> α × List Int × Bool} {code : α -> List Int} (xs : List α) (hx : ∀ x ∈ xs, ∀ R, next (vbs (code x) ++ R) false = (x, R, false)) (R : List Int) : ∀ j, j <= xs.length -> stF next (vbs (xs.flatMap code) ++ R) false j = (xs.take j, vbs ((xs.drop j).flatMap code) ++ R, false)
 | 0, _ => rfl
 | j + 1, hj => by
   have ih := stF_read xs hx R j (by omega)
   have hj : j < xs.length := hj
   show ((stF next (vbs (xs.flatMap code) ++ R) false j).1 ++ [(next (stF next (vbs (xs.flatMap code) ++ R) false j).2.1 (stF next (vbs (xs.flatMap code) ++ R) false j).2.2).1], (next (stF next (vbs (xs.flatMap code) ++ R) false j).2.1 (stF next (vbs (xs.flatMap code) ++ R) false j).2.2).2) = _
   rw [ih]
   have e : (xs.drop j).flatMap code = code xs[j] ++ (xs.drop (j + 1)).flatMap code := by
     rw [List.drop_eq_getElem_cons hj, List.flatMap_cons]
   simp only
   rw [e, vbs_app, List.append_assoc, hx xs[j] (List.getElem_mem hj)]
   rw [List.take_add_one, List.getElem?_eq_getElem hj]
   rfl
theorem ltF_read {α : Type} {next : List Int -> Bool -> α × List Int × Bool} {code : α -> List Int} {most : Int} (xs : List α) (hm : (xs.length : Int) <= most) (hin : inI (xs.length : Int) = true) (hx : ∀ x ∈ xs, ∀ R, next (vbs (code x) ++ R) false = (x, R, false)) (R : List Int) : ltF next most (vbs ((xs.length : Int) :: xs.flatMap code) ++ R) false = (xs, R, false) := by
 unfold ltF
 rw [vbs_cons, num_read hin]
 simp only [Bool.false_or, qN]
 rw [decide_eq_false (by omega)]
 have hs := stF_read xs hx R
 have hw : wrN next (vbs (xs.flatMap code) ++ R) false xs.length = xs.length := by
   unfold wrN
   have := (skip_iff (P := fun j => !(stF next (vbs (xs.flatMap code) ++ R) false j).2.2) (n := xs.length)).mpr fun i hi => by rw [hs i (by omega)]; rfl
   exact qB this
 rw [if_pos hw, hs _ (Nat.le_refl _), List.take_length, List.drop_length]
 rfl
def harC (L : List Rc) : List Int := (L.length : Int) :: L.flatMap recL
def rowC (p : Int × List Rf) : List Int := p.1 :: (p.2.length : Int) :: p.2.flatMap refC
theorem lc_read {L : List Rc} (hf : FineH L) (hb : ∀ r ∈ L, (r.wt && r.fl) = false) (R : List Int) : lcO (vbs (harC L) ++ R) false = (L, R, false) := by
 have := hf.1
 rw [lcO_eq]
 exact ltF_read L (by omega) (decide_eq_true (by omega)) (fun r hr R => rec_read (hf.2 r hr) (hb r hr) R false) R
theorem row_read {p : Int × List Rf} (hf : FineR p) (R : List Int) : rowO (vbs (rowC p) ++ R) false = (p, R, false) := by
 have h0 := hf.2.1
 have h1 : inI p.1 = true := decide_eq_true hf.1
 have hl : laO (vbs ((p.2.length : Int) :: p.2.flatMap refC) ++ R) false = (p.2, R, false) := by
   rw [laO_eq]
   exact ltF_read p.2 (by omega) (decide_eq_true (by omega)) (fun r hr R => ref_read (hf.2.2 r hr) R false) R
 rw [rowO_eq]
 unfold rowF rowC
 rw [vbs_cons, num_read h1]
 show ((p.1, (laO (vbs ((p.2.length : Int) :: p.2.flatMap refC) ++ R) false).1), (laO (vbs ((p.2.length : Int) :: p.2.flatMap refC) ++ R) false).2) = _
 rw [hl]
theorem hrL_map {gl : Gl} {v : Value} : ∀ n, hrL gl v n = ((List.range n).map (rcG gl v)).flatMap recL
 | 0 => rfl
 | n + 1 => by
   show hrL gl v n ++ recL (rcG gl v n) = _
   rw [hrL_map n, List.range_succ, List.map_append, List.flatMap_append]; simp
theorem rrL_map {gl : Gl} {v : Value} : ∀ n, rrL gl v n = ((List.range n).map (rfG gl v)).flatMap refC
 | 0 => rfl
 | n + 1 => by
   show rrL gl v n ++ refC (rfG gl v n) = _
   rw [rrL_map n, List.range_succ, List.map_append, List.flatMap_append]; simp
theorem hsL_map {gl : Gl} {c : Cn} : ∀ n, hsL gl c n = ((List.range n).map fun i => recsT gl (c.hv gl i)).flatMap harC
 | 0 => rfl
 | n + 1 => by
   show hsL gl c n ++ ([(lenV (c.hv gl n) : Int)] ++ hrL gl (c.hv gl n) (lenV (c.hv gl n))) = _
   rw [hsL_map n, List.range_succ, List.map_append, List.flatMap_append, hrL_map]
   simp [harC, recsT]
theorem rsL_map {gl : Gl} {c : Cn} : ∀ n, rsL gl c n = ((List.range n).map fun i => (raG gl c.r i, stosT gl (c.rv gl i))).flatMap rowC
 | 0 => rfl
 | n + 1 => by
   show rsL gl c n ++ ([raG gl c.r n, (lenV (c.rv gl n) : Int)] ++ rrL gl (c.rv gl n) (lenV (c.rv gl n))) = _
   rw [rsL_map n, List.range_succ, List.map_append, List.flatMap_append, rrL_map]
   simp [rowC, stosT]
theorem byt_eq {gl : Gl} {c : Cn} : bytL gl c = vbs ((c.hn : Int) :: (hartsT gl c).flatMap harC) ++ (vbs ((c.rn : Int) :: (rowsT gl c).flatMap rowC) ++ []) := by
 unfold bytL
 rw [obL_vbs]
 unfold numL13 harL
 rw [vbs_app, vbs_app, hsL_map, rsL_map, List.append_nil, List.append_assoc, <- vbs_app]
 rfl
theorem de_back {gl : Gl} {c : Cn} (hk : chkZ gl c = 0) (hf : Fine (hartsT gl c) (rowsT gl c)) : deH (bytL gl c) = hartsT gl c /\ deR (bytL gl c) = rowsT gl c := by
 have hw := wellC_of hk
 have n1 : (hartsT gl c).length = c.hn := by simp [hartsT]
 have n2 : (rowsT gl c).length = c.rn := by simp [rowsT]
 have f1 := hf.hn
 have f2 := hf.rn
 have hb : ∀ L ∈ hartsT gl c, ∀ r ∈ L, (r.wt && r.fl) = false := fun L hL r hr => by
   obtain ⟨i, hi, rfl⟩ := List.mem_map.mp hL
   obtain ⟨k, hk2, rfl⟩ := List.mem_map.mp hr
   have h := hw.rc i k (List.mem_range.mp hi) (List.mem_range.mp hk2)
   unfold ck3B at h
   cases h1 : (rcG gl (c.hv gl i) k).wt <;> cases h2 : (rcG gl (c.hv gl i) k).fl <;> first | rfl | (rw [h1, h2] at h; simp at h)
 have e1 : ∀ R, xhO (vbs ((c.hn : Int) :: (hartsT gl c).flatMap harC) ++ R) false = (hartsT gl c, R, false) := fun R => by
   rw [xhO_eq, <- n1]
   exact ltF_read _ (by omega) (decide_eq_true (by omega)) (fun L hL R => lc_read (hf.h L hL) (hb L hL) R) R
 have e2 : ∀ R, xrO (vbs ((c.rn : Int) :: (rowsT gl c).flatMap rowC) ++ R) false = (rowsT gl c, R, false) := fun R => by
   rw [xrO_eq, <- n2]
   exact ltF_read _ (by omega) (decide_eq_true (by omega)) (fun p hp R => row_read (hf.r p hp) R) R
 unfold deH deR
 rw [byt_eq, e1, e2]
 exact ⟨rfl, rfl⟩
end Go.Proofs.Ytmaffamhjmlonaa
