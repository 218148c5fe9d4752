/- Layer 10: the laws, walked over what the program's functions answer. -/
import Derived.Test.YtohefnfombkkbaaUnit10
import Derived.Test.YtohefnfombkkbaaOpen09
namespace Go.Proofs.Ytohefnfombkkbaa
open Go.RowKit Sim S2
set_option linter.unusedVariables false
set_option linter.unusedSimpArgs false
/-- What the document asks of the program, as rows (XLaw10 proves them of the program). -/
def tOpP : Tab := row 12 decI fun x => .int .i64 (oppZ x)
noncomputable def tAw10 : Tab := row 7 dec0 fun _ => .bool true
noncomputable def lMay (n : Nat) (f : Nat → It) : LTab := lrow 9 fun args => match args with
  | [.inr e] => some (false, [.inl (.bool (mayU n f))], pre (propB (isItE e n f ∧ n ≤ 1000000000)))
  | _ => none
noncomputable def lLgP (n : Nat) (f : Nat → It) : LTab := lrow 14 fun args => match args with
  | [.inr e] => some (true, [.inr (blE n (lgG n f)), .inl (.int .i64 0)], pre (propB (isItE e n f ∧ n ≤ 1000000 ∧ (∀ j, j < n → wfIt (f j)) ∧ mayU n f = true)))
  | _ => none
noncomputable def lLgN (n : Nat) (f : Nat → It) : LTab := lrow 14 fun args => match args with
  | [.inr e] => some (false, [.inl (.tuple #[.slice none 0 0, .int .i64 1])], pre (propB (isItE e n f ∧ n ≤ 1000000 ∧ (∀ j, j < n → wfIt (f j)) ∧ mayU n f = false)))
  | _ => none
noncomputable def envRN (m : Nat) (f : Nat → It) : S2.Env := envk Try.prog (fun _ => none) true (orT tOpP (orT tOpR tAw10)) noP (lUnitN m f)
noncomputable def envRF (m : Nat) (f : Nat → It) (n : Nat) (g : Nat → It) : S2.Env := envk Try.prog (fun _ => none) true (orT tOpP (orT tOpR tAw10)) noP (orL (lUnitY m f) (orL (lMay n g) (lLgN n g)))
noncomputable def envRY (m : Nat) (f : Nat → It) (n : Nat) (g : Nat → It) : S2.Env := envk Try.prog (fun _ => none) true (orT tOpP (orT tOpR tAw10)) noP (orL (lUnitY m f) (orL (lMay n g) (orL (lLgP n g) (lLongR n g))))
def rlS (m : Nat) (f : Nat → It) (n : Nat) (h : Nat → Bool) (i : Nat) : S2.St := { tmps := [(9, .c 0), (11, .c 1), (12, .inl ([true], .int .i64 i))], own := ⟨[], [blE n h, blE n h]⟩, lo := 0, llo := 0, mem := true, orc := [], obl := [] }
def rlQ : Pick := { ts := [9, 11, 12], bs := [], ls := [0, 1], opn := [12] }
def rlQ0 : Pick := { ts := [9, 11, 12], bs := [], ls := [2, 3], opn := [12] }
def rlP : List Nat := [0, 1, 0, 1, 1, 1, 1, 1, 1, 1, 1]
noncomputable def rlC : Code := codeAt (codeOf Try.prog 4) (0 :: rlP)
theorem isIt_O (n : Nat) (f : Nat → It) (h : n ≤ 1000000000000) : isItE (owE n f) n f := ⟨rfl, rfl, fun _ _ => rfl, h⟩
theorem lMay_ok {gl : Gl} (n : Nat) (f : Nat → It) : LTabOk Try.prog gl (lMay n f) := .row fun args tup res h w vals hG ha => by
  split at h
  · rename_i e
    simp only [Option.some.injEq, Prod.mk.injEq] at h
    obtain ⟨rfl, rfl, hp⟩ := h
    obtain ⟨h1, h2⟩ := propB_ok.mp hp
    match vals, ha with
    | [u], ha => exact refMay10_ret n f h2 w [u] ⟨InB.it ha.1 h1, trivial⟩
    | [], ha => exact ha.elim
    | _ :: _ :: _, ha => exact ha.2.elim
  · cases h
theorem wf_wid {m : Nat} {f : Nat → It} (h : ∀ j, j < m → wfIt (f j)) (a n : Nat) (ha : a ≤ m) : ∀ j, j < m + n → wfIt (widF f a n j) := fun j hj => by
  by_cases h1 : j < a
  · rw [widF_lo f h1]; exact h j (by omega)
  · by_cases h2 : j < a + n
    · rw [widF_mid f h1 h2]; exact ⟨by decide, by decide⟩
    · rw [widF_hi f (by omega)]; exact h _ (by omega)
/-- The program keeps what the document says of Long, Opposite; it is awake. -/
structure Says10 : Prop where
  op : TabOk Try.prog (fun _ => none) tOpP
  aw : TabOk Try.prog (fun _ => none) tAw10
  lp : ∀ n f, LTabOk Try.prog (fun _ => none) (lLgP n f)
  ln : ∀ n f, LTabOk Try.prog (fun _ => none) (lLgN n f)
theorem envRN_ok (hS : Says10) (m : Nat) (f : Nat → It) : CallOk (envRN m f) := envk_ok (nw := true) (hS.op.or (tOpR_ok.or hS.aw)) (.none _ _) (lUnitN_ok m f)
theorem envRF_ok (hS : Says10) (m : Nat) (f : Nat → It) (n : Nat) (g : Nat → It) : CallOk (envRF m f n g) := envk_ok (nw := true) (hS.op.or (tOpR_ok.or hS.aw)) (.none _ _) ((lUnitY_ok m f).or ((lMay_ok n g).or (hS.ln n g)))
theorem envRY_ok (hS : Says10) (m : Nat) (f : Nat → It) (n : Nat) (g : Nat → It) : CallOk (envRY m f n g) := envk_ok (nw := true) (hS.op.or (tOpR_ok.or hS.aw)) (.none _ _) ((lUnitY_ok m f).or ((lMay_ok n g).or ((hS.lp n g).or (lLongR_ok n g))))
theorem ne_self10 (x : Int) : (x != x) = false := by simp
theorem ne_selfB (x : Bool) : (!x == x) = false := by cases x <;> rfl
theorem rl_0 (hS : Says10) (m : Nat) (f : Nat → It) (n : Nat) (g : Nat → It) (N : Nat) (h : Nat → Bool) (i : Nat) (hi : i < N) (hN : N ≤ 1000000) (w : World) : S2.Sem (envRY m f n g) w 73 rlC (rlS m f N h i) none (rlS m f N h (i + 1)) := by
  refine sem_iter (envRY_ok hS m f n g) (GlobOk.none w) (p := rlQ) (fuel := 1000) [true, false] [(pre (inI ((i : Int) + 1)), true), (!h ((i : Int)).toNat == h ((i : Int)).toNat, false), (pre (decide (((i : Int)).toNat < N)), true), (pre (idxB ((i : Int)) N), true), (pre (decide (((i : Int)).toNat < N)), true), (pre (idxB ((i : Int)) N), true), (decide ((i : Int) < (N : Int)), true)] (by kernel_rfl) (by kernel_rfl) ?_
  try simp only [Int.toNat_natCast]
  refine all_cons ?_ <| all_cons ?_ <| all_cons ?_ <| all_cons ?_ <| all_cons ?_ <| all_cons ?_ <| all_cons ?_ <| all_nil
  · exact ob_inI (by omega)
  · exact ne_selfB _
  · exact ob_lt (by omega)
  · exact ob_idx (by omega)
  · exact ob_lt (by omega)
  · exact ob_idx (by omega)
  · exact ob_yes (by omega)
theorem rl_1 (hS : Says10) (m : Nat) (f : Nat → It) (n : Nat) (g : Nat → It) (N : Nat) (h : Nat → Bool) (w : World) : S2.Sem (envRY m f n g) w 73 rlC (rlS m f N h N) (some (some 0)) (rlS m f N h N) := by
  refine sem_iter (envRY_ok hS m f n g) (GlobOk.none w) (p := rlQ) (fuel := 1000) [false] [(decide ((N : Int) < (N : Int)), false)] (by kernel_rfl) (by kernel_rfl) ?_
  try simp only [Int.toNat_natCast]
  refine all_cons ?_ <| all_nil
  · exact ob_no (by omega)
theorem relaxLong_walk (hS : Says10) (m : Nat) (f : Nat → It) (a n : Int) (hw : ∀ j, j < m → wfIt (f j)) (w : World) (vals : List Value) (ha : ArgsOk w [.inr (itE m f), .inl (.int .i64 a), .inl (.int .i64 n)] vals) : LRet Try.prog 4 vals false [.inl (.bool true)] w := by
  have iM0 := isIt0_self m f
  by_cases hs : smallU m a n
  case neg => exact fn_ok (envRN_ok hS m f) (fuel := 1000) (d := 10) (plan := []) (orc := [false]) (fls := [[], [true], [true]]) (l := [(pre (propB (isIt0 (itE m f) m f ∧ ¬smallU m a n)), true), (oppZ n != oppZ n, false)]) (tr := []) (by kernel_rfl) (all_cons (propB_ok.mpr ⟨iM0, hs⟩) <| all_cons (ne_self10 _) all_nil) Try.func4 w vals (GlobOk.none w) ha fun t ht => by cases ht
  obtain ⟨s1, s2, s3, s4, s5⟩ := hs
  have hs : smallU m a n := ⟨s1, s2, s3, s4, s5⟩
  have iM := isItE_self m f (by omega)
  have hN : (m + n.toNat) ≤ 1260 := by omega
  have iN := isIt_O (m + n.toNat) (widF f a.toNat n.toNat) (by omega)
  have hwN := wf_wid hw a.toNat n.toNat (by omega)
  cases hy : mayU (m + n.toNat) (widF f a.toNat n.toNat)
  · exact fn_ok (envRF_ok hS m f (m + n.toNat) (widF f a.toNat n.toNat)) (fuel := 1000) (d := 10) (plan := []) (orc := [false, false, true]) (fls := [[], [true], [true]]) (l := [(!mayU (m + n.toNat) (widF f a.toNat n.toNat), true), (pre (propB (isItE (owE (m + n.toNat) (widF f a.toNat n.toNat)) (m + n.toNat) (widF f a.toNat n.toNat) ∧ (m + n.toNat) ≤ 1000000000)), true), (pre (propB (isItE (owE (m + n.toNat) (widF f a.toNat n.toNat)) (m + n.toNat) (widF f a.toNat n.toNat) ∧ (m + n.toNat) ≤ 1000000 ∧ (∀ (j : Nat), j < (m + n.toNat) → wfIt (widF f a.toNat n.toNat j)) ∧ mayU (m + n.toNat) (widF f a.toNat n.toNat) = false)), true), (false, false), (pre (propB (isItE (itE m f) m f ∧ smallU m a n)), true), (oppZ n != oppZ n, false)]) (tr := []) (by kernel_rfl) (all_cons (by rw [hy]; rfl) <| all_cons (propB_ok.mpr ⟨iN, by omega⟩) <| all_cons (propB_ok.mpr ⟨iN, by omega, hwN, hy⟩) <| all_cons rfl <| all_cons (propB_ok.mpr ⟨iM, hs⟩) <| all_cons (ne_self10 _) all_nil) Try.func4 w vals (GlobOk.none w) ha fun t ht => by cases ht
  · refine fn_ok (envRY_ok hS m f (m + n.toNat) (widF f a.toNat n.toNat)) (fuel := 1000) (d := 30) (plan := [⟨rlP, rlQ0, some (some 0), rlS m f (m + n.toNat) (lgG (m + n.toNat) (widF f a.toNat n.toNat)) (m + n.toNat)⟩]) (orc := [false, false, false, false]) (fls := [[], [true], [true]]) (l := [((((m + n.toNat) : Nat) : Int) != (((m + n.toNat) : Nat) : Int), false), (pre (propB (isItE (owE (m + n.toNat) (widF f a.toNat n.toNat)) (m + n.toNat) (widF f a.toNat n.toNat) ∧ (m + n.toNat) ≤ 1000000000)), true), (!mayU (m + n.toNat) (widF f a.toNat n.toNat), false), (pre (propB (isItE (owE (m + n.toNat) (widF f a.toNat n.toNat)) (m + n.toNat) (widF f a.toNat n.toNat) ∧ (m + n.toNat) ≤ 1000000000)), true), (pre (propB (isItE (owE (m + n.toNat) (widF f a.toNat n.toNat)) (m + n.toNat) (widF f a.toNat n.toNat) ∧ (m + n.toNat) ≤ 1000000 ∧ (∀ (j : Nat), j < (m + n.toNat) → wfIt (widF f a.toNat n.toNat j)) ∧ mayU (m + n.toNat) (widF f a.toNat n.toNat) = true)), true), (false, false), (pre (propB (isItE (itE m f) m f ∧ smallU m a n)), true), (oppZ n != oppZ n, false)]) (tr := [⟨.loop rlC, rlS m f (m + n.toNat) (lgG (m + n.toNat) (widF f a.toNat n.toNat)) 0, some (some 0), rlS m f (m + n.toNat) (lgG (m + n.toNat) (widF f a.toNat n.toNat)) (m + n.toNat)⟩]) (by kernel_rfl) (all_cons (ne_self10 _) <| all_cons (propB_ok.mpr ⟨iN, by omega⟩) <| all_cons (by rw [hy]; rfl) <| all_cons (propB_ok.mpr ⟨iN, by omega⟩) <| all_cons (propB_ok.mpr ⟨iN, by omega, hwN, hy⟩) <| all_cons rfl <| all_cons (propB_ok.mpr ⟨iM, hs⟩) <| all_cons (ne_self10 _) all_nil) Try.func4 w vals (GlobOk.none w) ha fun t ht => ?_
    obtain rfl := List.mem_singleton.mp ht
    exact sem_loop (fun j => rlS m f (m + n.toNat) (lgG (m + n.toNat) (widF f a.toNat n.toNat)) j) (m + n.toNat) (by simp) (fun j hj => rl_0 hS m f (m + n.toNat) (widF f a.toNat n.toNat) (m + n.toNat) (lgG (m + n.toNat) (widF f a.toNat n.toNat)) j hj (by omega) w) (rl_1 hS m f (m + n.toNat) (widF f a.toNat n.toNat) (m + n.toNat) (lgG (m + n.toNat) (widF f a.toNat n.toNat)) w)
/-- As the frame wants it. -/
theorem relaxLong_fr (hS : Says10) (m : Nat) (f : Nat → It) (v : Value) (a n : Int) (w : World) (hw : ∀ j, j < m → wfIt (f j)) (hu : InB w.heap.size w (itE m f) v) : Ret Try.prog 4 #[v, .int .i64 a, .int .i64 n] (.bool true) w :=
  LRet.plain (relaxLong_walk hS m f a n hw w [v, .int .i64 a, .int .i64 n] ⟨hu, rfl, rfl, trivial⟩)
end Go.Proofs.Ytohefnfombkkbaa
