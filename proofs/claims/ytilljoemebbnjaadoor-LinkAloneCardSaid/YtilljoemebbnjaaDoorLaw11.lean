/- Layer 11: the laws, walked over what the document asks of the program's Link and Stub. -/
import Derived.Test.YtilljoemebbnjaaDoorK02
import Derived.Test.YtilljoemebbnjaaDoorRef11
import Derived.Test.YtilljoemebbnjaaDoorRows
set_option linter.unusedVariables false
set_option linter.unusedSimpArgs false
namespace Go.Proofs.YtilljoemebbnjaaDoor
open Go.RowKit Sim S2
noncomputable def envQ (gl : Gl) (p : Pts) : S2.Env := { envk Tryd.prog gl true noT noP noL with lit := true, rowE := ptRow p [21, 29] }
theorem envQ_ok (gl : Gl) (p : Pts) : CallOk (envQ gl p) := envk_ok (nw := true) (.none _ _) (.none _ _) (.none _ _)
def qE (p : Pts) (i : Nat) : LE := ⟨50, 2, i, fun j => [p.uv j, .int .i64 (p.fr j)], true, false, true⟩
def nilP (p : Pts) : Nat → List Value := fun j => [p.uv j, .int .i64 (p.fr j)]
def pqP : List Nat := [0, 1, 0, 1, 1, 1]
noncomputable def pqC : Code := codeAt (codeOf Tryd.prog 6) (0 :: pqP)
def pqS (p : Pts) (e : LE) (s : Int) (i : Nat) : S2.St := { tmps := [(0, .c 0), (4, .c 1), (5, .inl ([true], .int .i64 s)), (6, .inl ([true], .int .i64 i))], own := ⟨[], [rPart p, e]⟩, lo := 0, llo := 0, mem := true, orc := [], obl := [] }
def pqQ0 (p : Pts) : Pick := { ts := [0, 4, 5, 6], bs := [], ls := [0, 1], opn := [5, 6], nil := [(4, 50, 2, nilP p)] }
def pqQ (k : Nat) : Pick := { ts := [0, 4, 5, 6], bs := [], ls := [0, k], opn := [5, 6] }
def pqQR : Pick := { ts := [2, 3], bs := [], ls := [] }
def pqR : S2.St := { tmps := [(2, .inl ([], .slice none 0 0)), (3, .inl ([], .bool false))], own := ⟨[], []⟩, lo := 0, llo := 0, mem := true, orc := [], obl := [] }
def qRaw (p : Pts) (i : Nat) : LE := ⟨50, 2, i + 1, joinE i (qE p i).el (tabE [[p.uv i, .int .i64 (p.fr i)]]), true, false, true⟩
theorem qRaw_same (p : Pts) (i : Nat) : sameE (qRaw p i) (qE p (i + 1)) := ⟨rfl, rfl, rfl, rfl, rfl, joinE_app (fun _ _ => rfl) fun k hk => by
  obtain rfl : k = 0 := by omega
  rfl⟩
def cntU (p : Pts) : Nat → Int
  | 0 => 0
  | j + 1 => cntU p j + p.n j
theorem cntU_rng {p : Pts} {P : Nat} (h : ∀ i, i < P → p.n i ≤ 300) : ∀ j, j ≤ P → 0 ≤ cntU p j ∧ cntU p j ≤ 300 * j
  | 0, _ => ⟨Int.le_refl _, Int.le_refl _⟩
  | j + 1, hj => by
    have h1 := cntU_rng h j (by omega)
    have h2 := h j (by omega)
    show 0 ≤ cntU p j + p.n j ∧ cntU p j + p.n j ≤ 300 * ((j + 1 : Nat) : Int)
    omega
theorem pq_0 (gl : Gl) (p : Pts) (s : Int) (i : Nat) (hi : i < p.P) (h20 : i < 20) (hr : rowG gl (p.uv i) (itE (p.n i) (p.f i))) (hn : p.n i ≤ 300) (hs : 0 ≤ s ∧ s ≤ 100000) (w : World) (hG : GlobOk gl w) : S2.Sem (envQ gl p) w 54 pqC (pqS p (qE p i) s i) none (pqS p (qRaw p i) (s + p.n i) (i + 1)) := by
  refine sem_iter (envQ_ok gl p) hG (p := pqQ 5) (fuel := 1000) [true, true, false] [(pre (inI ((i : Int) + 1)), true), (pre (decide (i + 1 ≤ maxLen ∧ (i + 1) * 32 ≤ 140737488355328 ∧ 0 < 1)), true), (pre (decide ((i : Int).toNat < p.P)), true), (pre (decide ((i : Int).toNat < p.P)), true), (pre (idxB (i : Int) p.P), true), (pre (decide ((i : Int).toNat < p.P)), true), (pre (decide ((i : Int).toNat < p.P)), true), (pre (idxB (i : Int) p.P), true), (pre (inI (s + (p.n (i : Int).toNat : Int))), true), (pre (rowB gl (p.uv (i : Int).toNat) (itE (p.n (i : Int).toNat) (p.f (i : Int).toNat))), true), (pre (decide ((i : Int).toNat < p.P)), true), (pre (decide ((i : Int).toNat < p.P)), true), (pre (idxB (i : Int) p.P), true), (decide ((p.n (i : Int).toNat : Int) > 300), false), (pre (rowB gl (p.uv (i : Int).toNat) (itE (p.n (i : Int).toNat) (p.f (i : Int).toNat))), true), (pre (decide ((i : Int).toNat < p.P)), true), (pre (decide ((i : Int).toNat < p.P)), true), (pre (idxB (i : Int) p.P), true), (decide ((i : Int) < 20), true), (decide ((i : Int) < (p.P : Int)), true)] (by kernel_rfl) (by kernel_rfl) ?_
  try simp only [Int.toNat_natCast]
  refine all_cons ?_ <| all_cons ?_ <| all_cons ?_ <| all_cons ?_ <| all_cons ?_ <| all_cons ?_ <| all_cons ?_ <| all_cons ?_ <| all_cons ?_ <| all_cons ?_ <| all_cons ?_ <| all_cons ?_ <| all_cons ?_ <| all_cons ?_ <| all_cons ?_ <| all_cons ?_ <| all_cons ?_ <| all_cons ?_ <| all_cons ?_ <| all_cons ?_ <| all_nil
  · exact ob_inI (by omega)
  · exact ob_app (by omega) (by decide) (by decide)
  · exact ob_lt (by omega)
  · exact ob_lt (by omega)
  · exact ob_idx (by omega)
  · exact ob_lt (by omega)
  · exact ob_lt (by omega)
  · exact ob_idx (by omega)
  · exact ob_inI (by omega)
  · exact rowB_ok.mpr hr
  · exact ob_lt (by omega)
  · exact ob_lt (by omega)
  · exact ob_idx (by omega)
  · exact ob_no (by omega)
  · exact rowB_ok.mpr hr
  · exact ob_lt (by omega)
  · exact ob_lt (by omega)
  · exact ob_idx (by omega)
  · exact ob_yes (by omega)
  · exact ob_yes (by omega)
theorem pq_big (gl : Gl) (p : Pts) (s : Int) (i : Nat) (hi : i < p.P) (h20 : i < 20) (hr : rowG gl (p.uv i) (itE (p.n i) (p.f i))) (hn : 300 < p.n i) (w : World) (hG : GlobOk gl w) : S2.Sem (envQ gl p) w 54 pqC (pqS p (qE p i) s i) (some none) (pqR) := by
  refine sem_iter (envQ_ok gl p) hG (p := pqQR) (fuel := 1000) [true, true, true] [(decide ((p.n (i : Int).toNat : Int) > 300), true), (pre (rowB gl (p.uv (i : Int).toNat) (itE (p.n (i : Int).toNat) (p.f (i : Int).toNat))), true), (pre (decide ((i : Int).toNat < p.P)), true), (pre (decide ((i : Int).toNat < p.P)), true), (pre (idxB (i : Int) p.P), true), (decide ((i : Int) < 20), true), (decide ((i : Int) < (p.P : Int)), true)] (by kernel_rfl) (by kernel_rfl) ?_
  try simp only [Int.toNat_natCast]
  refine all_cons ?_ <| all_cons ?_ <| all_cons ?_ <| all_cons ?_ <| all_cons ?_ <| all_cons ?_ <| all_cons ?_ <| all_nil
  · exact ob_yes (by omega)
  · exact rowB_ok.mpr hr
  · exact ob_lt (by omega)
  · exact ob_lt (by omega)
  · exact ob_idx (by omega)
  · exact ob_yes (by omega)
  · exact ob_yes (by omega)
theorem pq_end (gl : Gl) (p : Pts) (s : Int) (i : Nat) (hi : ¬ i < p.P) (w : World) (hG : GlobOk gl w) : S2.Sem (envQ gl p) w 54 pqC (pqS p (qE p i) s i) (some (some 0)) (pqS p (qE p i) s i) := by
  refine sem_iter (envQ_ok gl p) hG (p := pqQ 1) (fuel := 1000) [false] [(decide ((i : Int) < (p.P : Int)), false)] (by kernel_rfl) (by kernel_rfl) ?_
  try simp only [Int.toNat_natCast]
  refine all_cons ?_ <| all_nil
  · exact ob_no (by omega)
theorem pq_20 (gl : Gl) (p : Pts) (s : Int) (i : Nat) (hi : i < p.P) (h20 : ¬ i < 20) (w : World) (hG : GlobOk gl w) : S2.Sem (envQ gl p) w 54 pqC (pqS p (qE p i) s i) (some (some 0)) (pqS p (qE p i) s i) := by
  refine sem_iter (envQ_ok gl p) hG (p := pqQ 1) (fuel := 1000) [true, false] [(decide ((i : Int) < 20), false), (decide ((i : Int) < (p.P : Int)), true)] (by kernel_rfl) (by kernel_rfl) ?_
  try simp only [Int.toNat_natCast]
  refine all_cons ?_ <| all_cons ?_ <| all_nil
  · exact ob_no (by omega)
  · exact ob_yes (by omega)
def m20 (p : Pts) : Nat := min p.P 20
def bigU (p : Pts) (j : Nat) : Bool := decide (300 < p.n j)
theorem parts_big (gl : Gl) (p : Pts) (hr : ptsOk gl p) (j : Nat) (hj : fstN (bigU p) (m20 p) = some j) (w : World) (vals : List Value) (hG : GlobOk gl w) (ha : ArgsOk w [.inr (rPart p)] vals) : LRet Tryd.prog 6 vals false [.inl (.tuple #[.slice none 0 0, .bool false])] w := by
  obtain ⟨h1, h2, h3⟩ := fst_some hj
  have hm : m20 p ≤ p.P ∧ m20 p ≤ 20 := by unfold m20; omega
  refine fn_ok (envQ_ok gl p) (fuel := 1000) (d := 30) (plan := [⟨pqP, pqQ0 p, some none, pqR⟩]) (orc := []) (fls := [[]]) (l := []) (tr := [⟨.loop pqC, pqS p (qE p 0) 0 0, some none, pqR⟩]) (by kernel_rfl) (fun _ h => by cases h) Tryd.func6 w vals hG ha fun t ht => ?_
  obtain rfl := List.mem_singleton.mp ht
  have hs : ∀ i, i < j → p.n i ≤ 300 := fun i hi => by have := h3 i hi; unfold bigU at this; simpa using this
  exact sem_loop (fun i => pqS p (qE p i) (cntU p i) i) j (by simp) (fun i hi => by
    have hc := cntU_rng hs i (by omega)
    exact (pq_0 gl p (cntU p i) i (by omega) (by omega) (hr i (by omega)) (hs i hi) (by omega) w hG).same rfl rfl ⟨.refl _, qRaw_same p i, trivial⟩ rfl) (pq_big gl p _ j (by omega) (by omega) (hr j (by omega)) (by unfold bigU at h2; simpa using h2) w hG)
theorem pq_all (gl : Gl) (p : Pts) (hr : ptsOk gl p) (hj : fstN (bigU p) (m20 p) = none) (w : World) (hG : GlobOk gl w) : S2.Sem (envQ gl p) w 54 (.loop pqC) (pqS p (qE p 0) 0 0) (some (some 0)) (pqS p (qE p (m20 p)) (cntU p (m20 p)) (m20 p)) := by
  have hm : m20 p ≤ p.P ∧ m20 p ≤ 20 ∧ (m20 p = p.P ∨ m20 p = 20) := by unfold m20; omega
  have hs : ∀ i, i < m20 p → p.n i ≤ 300 := fun i hi => by have := fst_none hj i hi; unfold bigU at this; simpa using this
  refine sem_loop (fun i => pqS p (qE p i) (cntU p i) i) (m20 p) (by simp) (fun i hi => by
    have hc := cntU_rng hs i (by omega)
    exact (pq_0 gl p (cntU p i) i (by omega) (by omega) (hr i (by omega)) (hs i hi) (by omega) w hG).same rfl rfl ⟨.refl _, qRaw_same p i, trivial⟩ rfl) ?_
  by_cases hP : m20 p < p.P
  · exact pq_20 gl p _ _ hP (by omega) w hG
  · exact pq_end gl p _ _ hP w hG
theorem parts_no1 (gl : Gl) (p : Pts) (hr : ptsOk gl p) (hj : fstN (bigU p) (m20 p) = none) (h : ¬ p.P ≤ 20) (w : World) (vals : List Value) (hG : GlobOk gl w) (ha : ArgsOk w [.inr (rPart p)] vals) : LRet Tryd.prog 6 vals true [.inr (qE p (m20 p)), .inl (.bool false)] w := by
  refine fn_ok (envQ_ok gl p) (fuel := 1000) (d := 30) (plan := [⟨pqP, pqQ0 p, some (some 0), pqS p (qE p (m20 p)) (cntU p (m20 p)) (m20 p)⟩]) (orc := [false]) (fls := [[]]) (l := [(decide ((p.P : Int) ≤ 20), false)]) (tr := [⟨.loop pqC, pqS p (qE p 0) 0 0, some (some 0), pqS p (qE p (m20 p)) (cntU p (m20 p)) (m20 p)⟩]) (by kernel_rfl) ?_ Tryd.func6 w vals hG ha fun t ht => ?_
  · refine all_cons ?_ <| all_nil
    · exact ob_no (by omega)
  · obtain rfl := List.mem_singleton.mp ht
    exact pq_all gl p hr hj w hG
theorem parts_yes (gl : Gl) (p : Pts) (hr : ptsOk gl p) (hj : fstN (bigU p) (m20 p) = none) (h : p.P ≤ 20) (w : World) (vals : List Value) (hG : GlobOk gl w) (ha : ArgsOk w [.inr (rPart p)] vals) : LRet Tryd.prog 6 vals true [.inr (qE p (m20 p)), .inl (.bool (decide (cntU p (m20 p) ≤ 600)))] w := by
  refine fn_ok (envQ_ok gl p) (fuel := 1000) (d := 30) (plan := [⟨pqP, pqQ0 p, some (some 0), pqS p (qE p (m20 p)) (cntU p (m20 p)) (m20 p)⟩]) (orc := [true]) (fls := [[]]) (l := [(decide ((p.P : Int) ≤ 20), true)]) (tr := [⟨.loop pqC, pqS p (qE p 0) 0 0, some (some 0), pqS p (qE p (m20 p)) (cntU p (m20 p)) (m20 p)⟩]) (by kernel_rfl) ?_ Tryd.func6 w vals hG ha fun t ht => ?_
  · refine all_cons ?_ <| all_nil
    · exact ob_yes (by omega)
  · obtain rfl := List.mem_singleton.mp ht
    exact pq_all gl p hr hj w hG
def isPt (e : LE) (p : Pts) : Prop := e.size = 2 ∧ e.n = p.P ∧ ∀ j, j < p.P → e.el j = [p.uv j, .int .i64 (p.fr j)]
theorem InB.pt {B : Nat} {w : World} {e : LE} {v : Value} {p : Pts} (h : InB B w e v) (he : isPt e p) (T : TypeId) : InB B w (ptE T false p) v := by
  obtain ⟨h1, h2, h3⟩ := he
  obtain ⟨⟨k0, k1⟩, a, cap, k2, k3, k4⟩ := h
  rw [h1, h2] at k1 k4
  rw [h2] at k2 k3
  refine ⟨⟨by show 0 < 2; omega, fun j hj => ?_⟩, a, cap, k2, k3, fun hn => ?_⟩
  · have := k1 j hj; rw [h3 j hj] at this; exact this
  · obtain ⟨b, off, q1, q2, q3⟩ := k4 hn
    refine ⟨b, off, q1, q2, fun j hj o c ho => ?_⟩
    have := q3 j hj o c
    rw [h3 j hj] at this
    exact this ho
theorem isPt_self (T : TypeId) (o : Bool) (p : Pts) : isPt (ptE T o p) p := ⟨rfl, rfl, fun _ _ => rfl⟩
theorem isPt_q (p : Pts) (h : p.P ≤ 20) : isPt (qE p (m20 p)) p := ⟨rfl, by show m20 p = p.P; unfold m20; omega, fun _ _ => rfl⟩
def lkC (gl : Gl) (c : Nat) (C : Nat → Int) (p : Pts) (e e' : LE) : Prop := isPt e p ∧ isInts e' c C ∧ ptsOk gl p ∧ lkSm c p
noncomputable def lLkY (gl : Gl) (c : Nat) (C : Nat → Int) (p : Pts) : LTab := lrow 8 fun args => match args with
  | [.inr e, .inr e'] => some (true, lkYes c C p, pre (propB (lkC gl c C p e e' ∧ lkErr c p = 0)))
  | _ => none
noncomputable def lLkN (gl : Gl) (c : Nat) (C : Nat → Int) (p : Pts) : LTab := lrow 8 fun args => match args with
  | [.inr e, .inr e'] => some (false, lkNo (lkErr c p), pre (propB (lkC gl c C p e e' ∧ lkErr c p ≠ 0)))
  | _ => none
noncomputable def lPtB (gl : Gl) (p : Pts) : LTab := lrow 6 fun args => match args with
  | [.inr e] => some (false, [.inl (.tuple #[.slice none 0 0, .bool false])], pre (propB (isPt e p ∧ ptsOk gl p ∧ (fstN (bigU p) (m20 p)).isSome)))
  | _ => none
noncomputable def lPt1 (gl : Gl) (p : Pts) : LTab := lrow 6 fun args => match args with
  | [.inr e] => some (true, [.inr (qE p (m20 p)), .inl (.bool false)], pre (propB (isPt e p ∧ ptsOk gl p ∧ fstN (bigU p) (m20 p) = none ∧ ¬ p.P ≤ 20)))
  | _ => none
noncomputable def lPtY (gl : Gl) (p : Pts) : LTab := lrow 6 fun args => match args with
  | [.inr e] => some (true, [.inr (qE p (m20 p)), .inl (.bool (decide (cntU p (m20 p) ≤ 600)))], pre (propB (isPt e p ∧ ptsOk gl p ∧ fstN (bigU p) (m20 p) = none ∧ p.P ≤ 20)))
  | _ => none
noncomputable def tAw11 : Tab := row 7 dec0 fun _ => .bool true
noncomputable def envI1 (gl : Gl) (p : Pts) : S2.Env := envk Tryd.prog gl true tAw11 noP (lPtB gl p)
noncomputable def envI2 (gl : Gl) (p : Pts) : S2.Env := envk Tryd.prog gl true tAw11 noP (lPt1 gl p)
noncomputable def envI3 (gl : Gl) (p : Pts) : S2.Env := envk Tryd.prog gl true tAw11 noP (lPtY gl p)
noncomputable def stubF (x : Int) : Nat → It
  | 0 => stbI 4 16777216
  | _ => stbI 2 (arZ .add .i64 16777216 (arZ .mul .i64 8 x))
noncomputable def stubE (x : Int) : LE := ⟨44, 10, 2, fun j => itC (stubF x j), true, false, true⟩
noncomputable def lStub : LTab := lrow 13 fun args => match args with
  | [.inl (.int .i64 x)] => some (false, [.inr (stubE x)], true)
  | _ => none
structure SaysLink (gl : Gl) : Prop where
  st : LTabOk Tryd.prog gl lStub
  aw : TabOk Tryd.prog gl tAw11
  ly : ∀ c C p, LTabOk Tryd.prog gl (lLkY gl c C p)
  ln : ∀ c C p, LTabOk Tryd.prog gl (lLkN gl c C p)
theorem lPtB_ok (gl : Gl) (p : Pts) : LTabOk Tryd.prog gl (lPtB gl p) := .row fun args tup res h w vals hG ha => by
  split at h
  · rename_i e
    simp only [Option.some.injEq, Prod.mk.injEq] at h
    obtain ⟨rfl, rfl, hp⟩ := h
    obtain ⟨he, hr, hj⟩ := propB_ok.mp hp
    match vals, ha with
    | [u], ha =>
      have ha2 : ArgsOk w [.inr (rPart p)] [u] := ⟨InB.pt ha.1 he _, trivial⟩
      obtain ⟨j, hj⟩ := Option.isSome_iff_exists.mp hj
      exact parts_big gl p hr j hj w [u] hG ha2
    | [], ha => exact ha.elim
    | _ :: _ :: _, ha => exact ha.2.elim
  · cases h
theorem lPt1_ok (gl : Gl) (p : Pts) : LTabOk Tryd.prog gl (lPt1 gl p) := .row fun args tup res h w vals hG ha => by
  split at h
  · rename_i e
    simp only [Option.some.injEq, Prod.mk.injEq] at h
    obtain ⟨rfl, rfl, hp⟩ := h
    obtain ⟨he, hr, hj, h20⟩ := propB_ok.mp hp
    match vals, ha with
    | [u], ha =>
      have ha2 : ArgsOk w [.inr (rPart p)] [u] := ⟨InB.pt ha.1 he _, trivial⟩
      exact parts_no1 gl p hr hj h20 w [u] hG ha2
    | [], ha => exact ha.elim
    | _ :: _ :: _, ha => exact ha.2.elim
  · cases h
theorem lPtY_ok (gl : Gl) (p : Pts) : LTabOk Tryd.prog gl (lPtY gl p) := .row fun args tup res h w vals hG ha => by
  split at h
  · rename_i e
    simp only [Option.some.injEq, Prod.mk.injEq] at h
    obtain ⟨rfl, rfl, hp⟩ := h
    obtain ⟨he, hr, hj, h20⟩ := propB_ok.mp hp
    match vals, ha with
    | [u], ha =>
      have ha2 : ArgsOk w [.inr (rPart p)] [u] := ⟨InB.pt ha.1 he _, trivial⟩
      exact parts_yes gl p hr hj h20 w [u] hG ha2
    | [], ha => exact ha.elim
    | _ :: _ :: _, ha => exact ha.2.elim
  · cases h
theorem envI1_ok {gl : Gl} (hS : SaysLink gl) (p : Pts) : CallOk (envI1 gl p) := envk_ok (nw := true) hS.aw (.none _ _) (lPtB_ok gl p)
theorem envI2_ok {gl : Gl} (hS : SaysLink gl) (p : Pts) : CallOk (envI2 gl p) := envk_ok (nw := true) hS.aw (.none _ _) (lPt1_ok gl p)
theorem envI3_ok {gl : Gl} (hS : SaysLink gl) (p : Pts) : CallOk (envI3 gl p) := envk_ok (nw := true) hS.aw (.none _ _) (lPtY_ok gl p)
theorem isInts_in (c : Nat) (C : Nat → Int) : isInts (intL false c C) c C := ⟨rfl, rfl, fun _ _ => rfl⟩
theorem lkErr_zero {c : Nat} {p : Pts} (h : lkErr c p = 0) : 1 ≤ p.P ∧ p.P ≤ 8 ∧ c ≤ 200 ∧ lkFr c p ∧ fstN (wrgU c p) p.P = none := by
  unfold lkErr at h
  split at h
  · cases h
  · split at h
    · cases h
    · split at h
      · cases h
      · rename_i a1 a2 a3
        have e : fstN (frB p) p.P = none := by
          cases e : fstN (frB p) p.P with
          | none => rfl
          | some j => exact absurd (.inl (by rw [e]; rfl)) a3
        have a4 : ¬ 4096 < (c : Int) + sumF p p.P := fun hc => a3 (.inr hc)
        refine ⟨by omega, by omega, by omega, ⟨frames_ok e, by omega⟩, ?_⟩
        cases e6 : fstN (wrgU c p) p.P with
        | none => rfl
        | some j =>
          rw [e6] at h
          have h : (bif badU p j then 1 else 33 : Int) = 0 := h
          cases hb : badU p j <;> rw [hb] at h <;> cases h
theorem lkL_up {c : Nat} {p : Pts} (h : lkSm c p) : ∀ (j i : Nat), j + i ≤ p.P → (lkL c p j).length + i ≤ (lkL c p (j + i)).length ∧ ∀ k, k < (lkL c p j).length → (lkL c p (j + i))[k]? = (lkL c p j)[k]?
  | j, 0, _ => ⟨Nat.le_refl _, fun _ _ => rfl⟩
  | j, i + 1, hi => by
    obtain ⟨h1, h2⟩ := lkL_up h j i (by omega)
    obtain ⟨k1, k2, k3⟩ := lkA_len p (j + i) (lkd c p (j + i)) (h.n _ (by omega))
    refine ⟨?_, fun k hk => ?_⟩
    · show _ ≤ (lkL c p (j + i) ++ (lkA p (j + i) (lkd c p (j + i))).map encZ).length
      rw [List.length_append, List.length_map]; omega
    · show (lkL c p (j + i) ++ _)[k]? = _
      rw [List.getElem?_append_left (by omega)]; exact h2 k hk
theorem lkN_up {c : Nat} {p : Pts} (h : lkSm c p) : ∀ (j i : Nat), j + i ≤ p.P → (lkN c p j).length ≤ (lkN c p (j + i)).length ∧ ∀ k, k < (lkN c p j).length → (lkN c p (j + i))[k]? = (lkN c p j)[k]?
  | j, 0, _ => ⟨Nat.le_refl _, fun _ _ => rfl⟩
  | j, i + 1, hi => by
    obtain ⟨h1, h2⟩ := lkN_up h j i (by omega)
    refine ⟨?_, fun k hk => ?_⟩
    · show _ ≤ (lkN c p (j + i) ++ _).length
      rw [List.length_append]; omega
    · show (lkN c p (j + i) ++ _)[k]? = _
      rw [List.getElem?_append_left (by omega)]; exact h2 k hk
theorem m20_P {p : Pts} (h : p.P ≤ 20) : m20 p = p.P := by unfold m20; omega
theorem lkSm_of {p : Pts} {c : Nat} (hj : fstN (bigU p) (m20 p) = none) (h20 : p.P ≤ 20) (hc : c ≤ 300) (hw : ∀ j, j < p.P → ∀ i, i < p.n j → wfIt (p.f j i)) : lkSm c p := ⟨by omega, fun j hj2 => by
  have := fst_none hj j (by rw [m20_P h20]; exact hj2)
  unfold bigU at this
  have : ¬ 300 < p.n j := of_decide_eq_false this
  omega, hw, by omega⟩
noncomputable def envS (gl : Gl) (x : Int) : S2.Env := { envk Tryd.prog gl false tAw11 noP (orL lStub (lRefSameIt 2 (stubF x))) with lit := true }
theorem envS_ok {gl : Gl} (hS : SaysLink gl) (x : Int) : CallOk (envS gl x) := envk_ok (nw := false) hS.aw (.none _ _) (hS.st.or (lRefSameIt_ok _ _))
noncomputable def stubA (x : Int) : Nat → List Value := tabE [itC (stbI 4 16777216), itC (stbI 2 (arZ .add .i64 16777216 (arZ .mul .i64 8 x)))]
theorem isIt_stubE (x : Int) : isItE (stubE x) 2 (stubF x) := ⟨rfl, rfl, fun _ _ => rfl, by decide⟩
theorem isIt_stubA (x : Int) : isItE (rawI 2 (stubA x)) 2 (stubF x) := ⟨rfl, rfl, fun j hj => by
  match j with
  | 0 => rfl
  | 1 => rfl
  | _ + 2 => omega, by decide⟩
theorem linkStubs_ret {gl : Gl} (hS : SaysLink gl) (x : Int) (w : World) (hG : GlobOk gl w) : Ret Tryd.prog 4 #[.int .i64 x] (.bool true) w :=
  (fn_ok (envS_ok hS x) (fuel := 1000) (d := 30) (plan := []) (orc := []) (fls := [[true]]) (args := [.inl (.int .i64 x)]) (l := [(pre (propB (isItE (stubE x) 2 (stubF x) ∧ isItE (rawI 2 (stubA x)) 2 (stubF x))), true), (true, true)]) (tr := []) (by kernel_rfl) (all_cons (propB_ok.mpr ⟨isIt_stubE x, isIt_stubA x⟩) <| all_cons rfl all_nil) Tryd.func4 w [.int .i64 x] hG ⟨rfl, trivial⟩ fun t ht => by cases ht).plain
def fstP (p : Pts) : Pts := ⟨1, p.ua, p.un, p.uc, p.fr, p.uF⟩
def zC : Nat → Int := fun _ => 0
noncomputable def lOwn (a b : LTab) : LTab := fun f args => match args with
  | .inr e :: _ => bif e.own then a f args else b f args
  | _ => none
theorem lOwn_ok {gl : Gl} {a b : LTab} (ha : LTabOk Tryd.prog gl a) (hb : LTabOk Tryd.prog gl b) : LTabOk Tryd.prog gl (lOwn a b) := fun f args tup res h w vals hG hA => by
  unfold lOwn at h
  split at h
  · rename_i e r
    cases ho : e.own
    · rw [ho] at h; exact hb f _ tup res h w vals hG hA
    · rw [ho] at h; exact ha f _ tup res h w vals hG hA
  · cases h
noncomputable def envAN (gl : Gl) (c : Nat) (C : Nat → Int) (p : Pts) : S2.Env := { envk Tryd.prog gl true tAw11 noP (orL (lPtY gl p) (lOwn (lLkN gl c C p) (lLkN gl c zC (fstP p)))) with cut := true }
noncomputable def envAM (gl : Gl) (c : Nat) (C : Nat → Int) (p : Pts) : S2.Env := { envk Tryd.prog gl true tAw11 noP (orL (lPtY gl p) (lOwn (lLkN gl c C p) (lLkY gl c zC (fstP p)))) with cut := true }
noncomputable def envAY (gl : Gl) (c : Nat) (C : Nat → Int) (p : Pts) : S2.Env := { envk Tryd.prog gl true tAw11 noP (orL (lPtY gl p) (lOwn (lLkY gl c C p) (lLkY gl c zC (fstP p)))) with cut := true }
theorem envAN_ok {gl : Gl} (hS : SaysLink gl) (c : Nat) (C : Nat → Int) (p : Pts) : CallOk (envAN gl c C p) := envk_ok (nw := true) hS.aw (.none _ _) ((lPtY_ok gl p).or (lOwn_ok (hS.ln c C p) (hS.ln c zC (fstP p))))
theorem envAM_ok {gl : Gl} (hS : SaysLink gl) (c : Nat) (C : Nat → Int) (p : Pts) : CallOk (envAM gl c C p) := envk_ok (nw := true) hS.aw (.none _ _) ((lPtY_ok gl p).or (lOwn_ok (hS.ln c C p) (hS.ly c zC (fstP p))))
theorem envAY_ok {gl : Gl} (hS : SaysLink gl) (c : Nat) (C : Nat → Int) (p : Pts) : CallOk (envAY gl c C p) := envk_ok (nw := true) hS.aw (.none _ _) ((lPtY_ok gl p).or (lOwn_ok (hS.ly c C p) (hS.ly c zC (fstP p))))
def alP : List Nat := [0, 1, 0, 1, 1, 1, 1, 1, 1, 1]
noncomputable def alC : Code := codeAt (codeOf Tryd.prog 5) (0 :: alP)
def alS (L D K N L1 D1 K1 N1 : List Int) (i : Nat) : S2.St := { tmps := [(7, .inr (0, 0, none)), (8, .c 3), (10, .inr (1, 0, none)), (11, .c 7), (13, .inl ([true], .int .i64 i))], own := ⟨[imZB [.c 0, .c 1, .c 2], imZB [.c 4, .c 5, .c 6]], [w3E L, ntE D, ntE K, ntE N, w3E L1, ntE D1, ntE K1, ntE N1]⟩, lo := 0, llo := 0, mem := true, orc := [], obl := [] }
def alQ0 (l : List Nat) : Pick := { ts := [7, 8, 10, 11, 13], bs := [0, 1], ls := l, opn := [13] }
def alQ : Pick := alQ0 [0, 1, 2, 3, 4, 5, 6, 7]
end Go.Proofs.YtilljoemebbnjaaDoor
