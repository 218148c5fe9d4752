/- Layer 11: the laws, walked over what the document asks of the program's Link and Stub. -/
import Derived.Test.YtilljoemebbnjaaDoorK04
import Derived.Test.YtilljoemebbnjaaDoorRef11
set_option linter.unusedVariables false
set_option linter.unusedSimpArgs false
namespace Go.Proofs.YtilljoemebbnjaaDoor
open Go.RowKit Sim S2
noncomputable def envQ (gl : Gl) (p : Pts) : S2.Env := { envk Tryd.prog gl true noT noP noL with lit := true, rowE := ptRow p [21, 29] }
theorem envQ_ok (gl : Gl) (p : Pts) : CallOk (envQ gl p) := envk_ok (nw := true) (.none _ _) (.none _ _) (.none _ _)
def qE (p : Pts) (i : Nat) : LE := ⟨50, 2, i, fun j => [p.uv j, .int .i64 (p.fr j)], true, false, true⟩
def nilP (p : Pts) : Nat -> List Value := fun j => [p.uv j, .int .i64 (p.fr j)]
def pqP : List Nat := [0, 1, 0, 1, 1, 1]
noncomputable def pqC : Code := codeAt (codeOf Tryd.prog 6) (0 :: pqP)
def pqS (p : Pts) (e : LE) (s : Int) (i : Nat) : S2.St := { tmps := [(0, .c 0), (4, .c 1), (5, .inl ([true], .int .i64 s)), (6, .inl ([true], .int .i64 i))], own := ⟨[], [rPart p, e]⟩, lo := 0, llo := 0, mem := true, orc := [], obl := [] }
def pqQ0 (p : Pts) : Pick := { ts := [0, 4, 5, 6], bs := [], ls := [0, 1], opn := [5, 6], nil := [(4, 50, 2, nilP p)] }
def pqQ (k : Nat) : Pick := { ts := [0, 4, 5, 6], bs := [], ls := [0, k], opn := [5, 6] }
def pqQR : Pick := { ts := [2, 3], bs := [], ls := [] }
def pqR : S2.St := { tmps := [(2, .inl ([], .slice none 0 0)), (3, .inl ([], .bool false))], own := ⟨[], []⟩, lo := 0, llo := 0, mem := true, orc := [], obl := [] }
def qRaw (p : Pts) (i : Nat) : LE := ⟨50, 2, i + 1, joinE i (qE p i).el (tabE [[p.uv i, .int .i64 (p.fr i)]]), true, false, true⟩
theorem qRaw_same (p : Pts) (i : Nat) : sameE (qRaw p i) (qE p (i + 1)) := ⟨rfl, rfl, rfl, rfl, rfl, joinE_app (fun _ _ => rfl) fun k hk => by
 obtain rfl : k = 0 := by omega
 rfl⟩
def cntU (p : Pts) : Nat -> Int
 | 0 => 0
 | j + 1 => cntU p j + p.n j
theorem cntU_rng {p : Pts} {P : Nat} (h : ∀ i, i < P -> p.n i <= 300) : ∀ j, j <= P -> 0 <= cntU p j /\ cntU p j <= 300 * j
 | 0, _ => ⟨Int.le_refl _, Int.le_refl _⟩
 | j + 1, hj => by
   have h1 := cntU_rng h j (by omega)
   have h2 := h j (by omega)
   show 0 <= cntU p j + p.n j /\ cntU p j + p.n j <= 300 * ((j + 1 : Nat) : Int)
   omega
theorem pq_0 (gl : Gl) (p : Pts) (s : Int) (i : Nat) (hi : i < p.P) (h20 : i < 20) (hr : rowG gl (p.uv i) (itE (p.n i) (p.f i))) (hn : p.n i <= 300) (hs : 0 <= s /\ s <= 100000) (w : World) (hG : GlobOk gl w) : S2.Sem (envQ gl p) w 54 pqC (pqS p (qE p i) s i) none (pqS p (qRaw p i) (s + p.n i) (i + 1)) := by
 refine sem_iter (envQ_ok gl p) hG (p := pqQ 5) (fuel := 1000) [true, true, false] [(pre (inI ((i : Int) + 1)), true), (pre (decide (i + 1 <= maxLen /\ (i + 1) * 32 <= 140737488355328 /\ 0 < 1)), true), (pre (decide ((i : Int).toNat < p.P)), true), (pre (decide ((i : Int).toNat < p.P)), true), (pre (idxB (i : Int) p.P), true), (pre (decide ((i : Int).toNat < p.P)), true), (pre (decide ((i : Int).toNat < p.P)), true), (pre (idxB (i : Int) p.P), true), (pre (inI (s + (p.n (i : Int).toNat : Int))), true), (pre (rowB gl (p.uv (i : Int).toNat) (itE (p.n (i : Int).toNat) (p.f (i : Int).toNat))), true), (pre (decide ((i : Int).toNat < p.P)), true), (pre (decide ((i : Int).toNat < p.P)), true), (pre (idxB (i : Int) p.P), true), (decide ((p.n (i : Int).toNat : Int) > 300), false), (pre (rowB gl (p.uv (i : Int).toNat) (itE (p.n (i : Int).toNat) (p.f (i : Int).toNat))), true), (pre (decide ((i : Int).toNat < p.P)), true), (pre (decide ((i : Int).toNat < p.P)), true), (pre (idxB (i : Int) p.P), true), (decide ((i : Int) < 20), true), (decide ((i : Int) < (p.P : Int)), true)] (by kernel_rfl) (by kernel_rfl) ?_
 try simp only [qN]
 refine qF ?_ ?_ ?_ ?_ <| qF ?_ ?_ ?_ ?_ <| qF ?_ ?_ ?_ ?_ <| qF ?_ ?_ ?_ ?_ <| qF ?_ ?_ ?_ ?_ <| qZ
 . exact ob_inI (by omega)
 . exact ob_app (by omega) (by decide) (by decide)
 . exact ob_lt (by omega)
 . exact ob_lt (by omega)
 . exact ob_idx (by omega)
 . exact ob_lt (by omega)
 . exact ob_lt (by omega)
 . exact ob_idx (by omega)
 . exact ob_inI (by omega)
 . exact rowB_ok.mpr hr
 . exact ob_lt (by omega)
 . exact ob_lt (by omega)
 . exact ob_idx (by omega)
 . exact ob_no (by omega)
 . exact rowB_ok.mpr hr
 . exact ob_lt (by omega)
 . exact ob_lt (by omega)
 . exact ob_idx (by omega)
 . exact ob_yes (by omega)
 . exact ob_yes (by omega)
theorem pq_big (gl : Gl) (p : Pts) (s : Int) (i : Nat) (hi : i < p.P) (h20 : i < 20) (hr : rowG gl (p.uv i) (itE (p.n i) (p.f i))) (hn : 300 < p.n i) (w : World) (hG : GlobOk gl w) : S2.Sem (envQ gl p) w 54 pqC (pqS p (qE p i) s i) (some none) (pqR) := by
 refine sem_iter (envQ_ok gl p) hG (p := pqQR) (fuel := 1000) [true, true, true] [(decide ((p.n (i : Int).toNat : Int) > 300), true), (pre (rowB gl (p.uv (i : Int).toNat) (itE (p.n (i : Int).toNat) (p.f (i : Int).toNat))), true), (pre (decide ((i : Int).toNat < p.P)), true), (pre (decide ((i : Int).toNat < p.P)), true), (pre (idxB (i : Int) p.P), true), (decide ((i : Int) < 20), true), (decide ((i : Int) < (p.P : Int)), true)] (by kernel_rfl) (by kernel_rfl) ?_
 try simp only [qN]
 refine qF ?_ ?_ ?_ ?_ <| qA ?_ <| qA ?_ <| qA ?_ <| qZ
 . exact ob_yes (by omega)
 . exact rowB_ok.mpr hr
 . exact ob_lt (by omega)
 . exact ob_lt (by omega)
 . exact ob_idx (by omega)
 . exact ob_yes (by omega)
 . exact ob_yes (by omega)
theorem pq_end (gl : Gl) (p : Pts) (s : Int) (i : Nat) (hi : ¬ i < p.P) (w : World) (hG : GlobOk gl w) : S2.Sem (envQ gl p) w 54 pqC (pqS p (qE p i) s i) (some (some 0)) (pqS p (qE p i) s i) := by
 refine sem_iter (envQ_ok gl p) hG (p := pqQ 1) (fuel := 1000) [false] [(decide ((i : Int) < (p.P : Int)), false)] (by kernel_rfl) (by kernel_rfl) ?_
 try simp only [qN]
 refine qA ?_ <| qZ
 . exact ob_no (by omega)
theorem pq_20 (gl : Gl) (p : Pts) (s : Int) (i : Nat) (hi : i < p.P) (h20 : ¬ i < 20) (w : World) (hG : GlobOk gl w) : S2.Sem (envQ gl p) w 54 pqC (pqS p (qE p i) s i) (some (some 0)) (pqS p (qE p i) s i) := by
 refine sem_iter (envQ_ok gl p) hG (p := pqQ 1) (fuel := 1000) [true, false] [(decide ((i : Int) < 20), false), (decide ((i : Int) < (p.P : Int)), true)] (by kernel_rfl) (by kernel_rfl) ?_
 try simp only [qN]
 refine qA ?_ <| qA ?_ <| qZ
 . exact ob_no (by omega)
 . exact ob_yes (by omega)
def m20 (p : Pts) : Nat := min p.P 20
def bigU (p : Pts) (j : Nat) : Bool := decide (300 < p.n j)
theorem parts_big (gl : Gl) (p : Pts) (hr : ptsOk gl p) (j : Nat) (hj : fstN (bigU p) (m20 p) = some j) (w : World) (vals : List Value) (hG : GlobOk gl w) (ha : ArgsOk w [.inr (rPart p)] vals) : LRet Tryd.prog 6 vals false [.inl (.tuple #[.slice none 0 0, .bool false])] w := by
 obtain ⟨h1, h2, h3⟩ := fst_some hj
 have hm : m20 p <= p.P /\ m20 p <= 20 := by unfold m20; omega
 refine fn_ok (envQ_ok gl p) (fuel := 1000) (d := 30) (plan := [⟨pqP, pqQ0 p, some none, pqR⟩]) (orc := []) (fls := [[]]) (l := []) (tr := [⟨.loop pqC, pqS p (qE p 0) 0 0, some none, pqR⟩]) (by kernel_rfl) (fun _ h => by cases h) Tryd.func6 w vals hG ha fun t ht => ?_
 obtain rfl := List.mem_singleton.mp ht
 have hs : ∀ i, i < j -> p.n i <= 300 := fun i hi => by have := h3 i hi; unfold bigU at this; simpa using this
 exact sem_loop (fun i => pqS p (qE p i) (cntU p i) i) j (by simp) (fun i hi => by
   have hc := cntU_rng hs i (by omega)
   exact (pq_0 gl p (cntU p i) i (by omega) (by omega) (hr i (by omega)) (hs i hi) (by omega) w hG).same rfl rfl ⟨.refl _, qRaw_same p i, trivial⟩ rfl) (pq_big gl p _ j (by omega) (by omega) (hr j (by omega)) (by unfold bigU at h2; simpa using h2) w hG)
theorem pq_all (gl : Gl) (p : Pts) (hr : ptsOk gl p) (hj : fstN (bigU p) (m20 p) = none) (w : World) (hG : GlobOk gl w) : S2.Sem (envQ gl p) w 54 (.loop pqC) (pqS p (qE p 0) 0 0) (some (some 0)) (pqS p (qE p (m20 p)) (cntU p (m20 p)) (m20 p)) := by
 have hm : m20 p <= p.P /\ m20 p <= 20 /\ (m20 p = p.P \/ m20 p = 20) := by unfold m20; omega
 have hs : ∀ i, i < m20 p -> p.n i <= 300 := fun i hi => by have := fst_none hj i hi; unfold bigU at this; simpa using this
 refine sem_loop (fun i => pqS p (qE p i) (cntU p i) i) (m20 p) (by simp) (fun i hi => by
   have hc := cntU_rng hs i (by omega)
   exact (pq_0 gl p (cntU p i) i (by omega) (by omega) (hr i (by omega)) (hs i hi) (by omega) w hG).same rfl rfl ⟨.refl _, qRaw_same p i, trivial⟩ rfl) ?_
 by_cases hP : m20 p < p.P
 . exact pq_20 gl p _ _ hP (by omega) w hG
 . exact pq_end gl p _ _ hP w hG
theorem parts_no1 (gl : Gl) (p : Pts) (hr : ptsOk gl p) (hj : fstN (bigU p) (m20 p) = none) (h : ¬ p.P <= 20) (w : World) (vals : List Value) (hG : GlobOk gl w) (ha : ArgsOk w [.inr (rPart p)] vals) : LRet Tryd.prog 6 vals true [.inr (qE p (m20 p)), .inl (.bool false)] w := by
 refine fn_ok (envQ_ok gl p) (fuel := 1000) (d := 30) (plan := [⟨pqP, pqQ0 p, some (some 0), pqS p (qE p (m20 p)) (cntU p (m20 p)) (m20 p)⟩]) (orc := [false]) (fls := [[]]) (l := [(decide ((p.P : Int) <= 20), false)]) (tr := [⟨.loop pqC, pqS p (qE p 0) 0 0, some (some 0), pqS p (qE p (m20 p)) (cntU p (m20 p)) (m20 p)⟩]) (by kernel_rfl) ?_ Tryd.func6 w vals hG ha fun t ht => ?_
 . refine qA ?_ <| qZ
   . exact ob_no (by omega)
 . obtain rfl := List.mem_singleton.mp ht
   exact pq_all gl p hr hj w hG
theorem parts_yes (gl : Gl) (p : Pts) (hr : ptsOk gl p) (hj : fstN (bigU p) (m20 p) = none) (h : p.P <= 20) (w : World) (vals : List Value) (hG : GlobOk gl w) (ha : ArgsOk w [.inr (rPart p)] vals) : LRet Tryd.prog 6 vals true [.inr (qE p (m20 p)), .inl (.bool (decide (cntU p (m20 p) <= 600)))] w := by
 refine fn_ok (envQ_ok gl p) (fuel := 1000) (d := 30) (plan := [⟨pqP, pqQ0 p, some (some 0), pqS p (qE p (m20 p)) (cntU p (m20 p)) (m20 p)⟩]) (orc := [true]) (fls := [[]]) (l := [(decide ((p.P : Int) <= 20), true)]) (tr := [⟨.loop pqC, pqS p (qE p 0) 0 0, some (some 0), pqS p (qE p (m20 p)) (cntU p (m20 p)) (m20 p)⟩]) (by kernel_rfl) ?_ Tryd.func6 w vals hG ha fun t ht => ?_
 . refine qA ?_ <| qZ
   . exact ob_yes (by omega)
 . obtain rfl := List.mem_singleton.mp ht
   exact pq_all gl p hr hj w hG
def isPt (e : LE) (p : Pts) : Prop := e.size = 2 /\ e.n = p.P /\ ∀ j, j < p.P -> e.el j = [p.uv j, .int .i64 (p.fr j)]
theorem InB.pt {B : Nat} {w : World} {e : LE} {v : Value} {p : Pts} (h : InB B w e v) (he : isPt e p) (T : TypeId) : InB B w (ptE T false p) v := by
 obtain ⟨h1, h2, h3⟩ := he
 obtain ⟨⟨k0, k1⟩, a, cap, k2, k3, k4⟩ := h
 rw [h1, h2] at k1 k4
 rw [h2] at k2 k3
 refine ⟨⟨by show 0 < 2; omega, fun j hj => ?_⟩, a, cap, k2, k3, fun hn => ?_⟩
 . have := k1 j hj; rw [h3 j hj] at this; exact this
 . obtain ⟨b, off, q1, q2, q3⟩ := k4 hn
   refine ⟨b, off, q1, q2, fun j hj o c ho => ?_⟩
   have := q3 j hj o c
   rw [h3 j hj] at this
   exact this ho
theorem isPt_self (T : TypeId) (o : Bool) (p : Pts) : isPt (ptE T o p) p := ⟨rfl, rfl, fun _ _ => rfl⟩
theorem isPt_q (p : Pts) (h : p.P <= 20) : isPt (qE p (m20 p)) p := ⟨rfl, by show m20 p = p.P; unfold m20; omega, fun _ _ => rfl⟩
def lkC (gl : Gl) (c : Nat) (C : Nat -> Int) (p : Pts) (e e' : LE) : Prop := isPt e p /\ isInts e' c C /\ ptsOk gl p /\ lkSm c p
noncomputable def lRfY (gl : Gl) (c : Nat) (C : Nat -> Int) (p : Pts) : LTab := lrow 9 fun args => match args with
 | [.inr e, .inr e'] => some (true, lkYes c C p, pre (propB (lkC gl c C p e e' /\ lkErr c p = 0)))
 | _ => none
noncomputable def lRfN (gl : Gl) (c : Nat) (C : Nat -> Int) (p : Pts) : LTab := lrow 9 fun args => match args with
 | [.inr e, .inr e'] => some (false, lkNo (lkErr c p), pre (propB (lkC gl c C p e e' /\ lkErr c p ≠ 0)))
 | _ => none
noncomputable def lLkY (gl : Gl) (c : Nat) (C : Nat -> Int) (p : Pts) : LTab := lrow 8 fun args => match args with
 | [.inr e, .inr e'] => some (true, lkYes c C p, pre (propB (lkC gl c C p e e' /\ lkErr c p = 0)))
 | _ => none
noncomputable def lLkN (gl : Gl) (c : Nat) (C : Nat -> Int) (p : Pts) : LTab := lrow 8 fun args => match args with
 | [.inr e, .inr e'] => some (false, lkNo (lkErr c p), pre (propB (lkC gl c C p e e' /\ lkErr c p ≠ 0)))
 | _ => none
noncomputable def lPtB (gl : Gl) (p : Pts) : LTab := lrow 6 fun args => match args with
 | [.inr e] => some (false, [.inl (.tuple #[.slice none 0 0, .bool false])], pre (propB (isPt e p /\ ptsOk gl p /\ (fstN (bigU p) (m20 p)).isSome)))
 | _ => none
noncomputable def lPt1 (gl : Gl) (p : Pts) : LTab := lrow 6 fun args => match args with
 | [.inr e] => some (true, [.inr (qE p (m20 p)), .inl (.bool false)], pre (propB (isPt e p /\ ptsOk gl p /\ fstN (bigU p) (m20 p) = none /\ ¬ p.P <= 20)))
 | _ => none
noncomputable def lPtY (gl : Gl) (p : Pts) : LTab := lrow 6 fun args => match args with
 | [.inr e] => some (true, [.inr (qE p (m20 p)), .inl (.bool (decide (cntU p (m20 p) <= 600)))], pre (propB (isPt e p /\ ptsOk gl p /\ fstN (bigU p) (m20 p) = none /\ p.P <= 20)))
 | _ => none
noncomputable def lSm0 : LTab := lrow 10 fun args => match args with
 | [.inl a, .inl b] => some (false, [.inl (.bool true)], pre (propB (a = zImg /\ b = zImg)))
 | _ => none
noncomputable def lIn0 : LTab := lrow 11 fun args => match args with
 | [.inl a, .inl b] => some (false, [.inl (.bool true)], pre (propB (a = .slice none 0 0 /\ b = .slice none 0 0)))
 | _ => none
noncomputable def tAw11 : Tab := row 7 dec0 fun _ => .bool true
noncomputable def lkIm (c : Nat) (C : Nat -> Int) (p : Pts) : Im := ⟨(lkL c p p.P).length, (lkD c C p p.P).length, (lkK c p p.P).length, fun j => ((lkL c p p.P)[j]?).getD 0, fun j => ((lkD c C p p.P)[j]?).getD 0, fun j => ((lkK c p p.P)[j]?).getD 0⟩
noncomputable def envI1 (gl : Gl) (p : Pts) : S2.Env := envk Tryd.prog gl true tAw11 noP (lPtB gl p)
noncomputable def envI2 (gl : Gl) (p : Pts) : S2.Env := envk Tryd.prog gl true tAw11 noP (lPt1 gl p)
noncomputable def envI3 (gl : Gl) (p : Pts) : S2.Env := envk Tryd.prog gl true tAw11 noP (lPtY gl p)
noncomputable def envI4 (gl : Gl) (c : Nat) (C : Nat -> Int) (p : Pts) : S2.Env := envk Tryd.prog gl true tAw11 noP (orL (lPtY gl p) (orL (lLkN gl c C p) (orL (lRfN gl c C p) (orL lSm0 lIn0))))
noncomputable def envI5 (gl : Gl) (c : Nat) (C : Nat -> Int) (p : Pts) : S2.Env := { envk Tryd.prog gl true tAw11 noP (orL (lPtY gl p) (orL (lLkY gl c C p) (orL (lRfY gl c C p) (orL (lRefSameIm (lkIm c C p) (lkIm c C p)) (orL (lRefCheck (lkIm c C p)) lInts10))))) with cut := true }
noncomputable def stubF (x : Int) : Nat -> It
 | 0 => stbI 4 16777216
 | _ => stbI 2 (arZ .add .i64 16777216 (arZ .mul .i64 8 x))
noncomputable def stubE (x : Int) : LE := ⟨44, 10, 2, fun j => itC (stubF x j), true, false, true⟩
noncomputable def lStub : LTab := lrow 13 fun args => match args with
 | [.inl (.int .i64 x)] => some (false, [.inr (stubE x)], true)
 | _ => none
structure SaysLink (gl : Gl) : Prop where
 st : LTabOk Tryd.prog gl lStub
 aw : TabOk Tryd.prog gl tAw11
 ly : ∀ c C p, LTabOk Tryd.prog gl (lLkY gl c C p)
 ln : ∀ c C p, LTabOk Tryd.prog gl (lLkN gl c C p)
theorem lPtB_ok (gl : Gl) (p : Pts) : LTabOk Tryd.prog gl (lPtB gl p) := .row fun args tup res h w vals hG ha => by
 split at h
 . rename_i e
   simp only [qS, qP] at h
   obtain ⟨rfl, rfl, hp⟩ := h
   obtain ⟨he, hr, hj⟩ := propB_ok.mp hp
   match vals, ha with
   | [u], ha =>
     have ha2 : ArgsOk w [.inr (rPart p)] [u] := ⟨InB.pt ha.1 he _, trivial⟩
     obtain ⟨j, hj⟩ := Option.isSome_iff_exists.mp hj
     exact parts_big gl p hr j hj w [u] hG ha2
   | [], ha => exact ha.elim
   | _ :: _ :: _, ha => exact ha.2.elim
 . cases h
theorem lPt1_ok (gl : Gl) (p : Pts) : LTabOk Tryd.prog gl (lPt1 gl p) := .row fun args tup res h w vals hG ha => by
 split at h
 . rename_i e
   simp only [qS, qP] at h
   obtain ⟨rfl, rfl, hp⟩ := h
   obtain ⟨he, hr, hj, h20⟩ := propB_ok.mp hp
   match vals, ha with
   | [u], ha =>
     have ha2 : ArgsOk w [.inr (rPart p)] [u] := ⟨InB.pt ha.1 he _, trivial⟩
     exact parts_no1 gl p hr hj h20 w [u] hG ha2
   | [], ha => exact ha.elim
   | _ :: _ :: _, ha => exact ha.2.elim
 . cases h
theorem lPtY_ok (gl : Gl) (p : Pts) : LTabOk Tryd.prog gl (lPtY gl p) := .row fun args tup res h w vals hG ha => by
 split at h
 . rename_i e
   simp only [qS, qP] at h
   obtain ⟨rfl, rfl, hp⟩ := h
   obtain ⟨he, hr, hj, h20⟩ := propB_ok.mp hp
   match vals, ha with
   | [u], ha =>
     have ha2 : ArgsOk w [.inr (rPart p)] [u] := ⟨InB.pt ha.1 he _, trivial⟩
     exact parts_yes gl p hr hj h20 w [u] hG ha2
   | [], ha => exact ha.elim
   | _ :: _ :: _, ha => exact ha.2.elim
 . cases h
theorem lRfY_ok {gl : Gl} (hT : GlTo gl9 gl) (c : Nat) (C : Nat -> Int) (p : Pts) : LTabOk Tryd.prog gl (lRfY gl c C p) := .row fun args tup res h w vals hG ha => by
 split at h
 . rename_i e e'
   simp only [qS, qP] at h
   obtain ⟨rfl, rfl, hp⟩ := h
   obtain ⟨⟨he, he2, hr, hs⟩, hz⟩ := propB_ok.mp hp
   match vals, ha with
   | [u, v], ha => exact (refLink_ret gl hT c C p hs hr w [u, v] hG ⟨InB.pt ha.1 he _, InB.ints10 ha.2.1 he2, trivial⟩).1 hz
   | [], ha => exact ha.elim
   | [_], ha => exact ha.2.elim
   | _ :: _ :: _ :: _, ha => exact ha.2.2.elim
 . cases h
theorem lRfN_ok {gl : Gl} (hT : GlTo gl9 gl) (c : Nat) (C : Nat -> Int) (p : Pts) : LTabOk Tryd.prog gl (lRfN gl c C p) := .row fun args tup res h w vals hG ha => by
 split at h
 . rename_i e e'
   simp only [qS, qP] at h
   obtain ⟨rfl, rfl, hp⟩ := h
   obtain ⟨⟨he, he2, hr, hs⟩, hz⟩ := propB_ok.mp hp
   match vals, ha with
   | [u, v], ha => exact (refLink_ret gl hT c C p hs hr w [u, v] hG ⟨InB.pt ha.1 he _, InB.ints10 ha.2.1 he2, trivial⟩).2 hz
   | [], ha => exact ha.elim
   | [_], ha => exact ha.2.elim
   | _ :: _ :: _ :: _, ha => exact ha.2.2.elim
 . cases h
theorem zImg_args (w : World) : ArgsOk w [imX false ⟨0, 0, 0, fun _ => 0, fun _ => 0, fun _ => 0⟩] [zImg] := by
 have h : ∀ (T : TypeId) (f : Nat -> List Value), InB w.heap.size w ⟨T, 1, 0, f, false, false, true⟩ (.slice none 0 0) := fun T f => ⟨⟨Nat.zero_lt_one, fun j hj => absurd hj (Nat.not_lt_zero _)⟩, none, 0, rfl, Nat.le_refl _, fun hn => absurd hn (Nat.lt_irrefl _)⟩
 exact ⟨⟨[.slice none 0 0, .slice none 0 0, .slice none 0 0], rfl, h _ _, h _ _, h _ _, trivial⟩, trivial⟩
theorem lSm0_ok {gl : Gl} : LTabOk Tryd.prog gl lSm0 := .row fun args tup res h w vals hG ha => by
 split at h
 . rename_i a b
   simp only [qS, qP] at h
   obtain ⟨rfl, rfl, hp⟩ := h
   obtain ⟨rfl, rfl⟩ := propB_ok.mp hp
   match vals, ha with
   | [u, v], ha =>
     obtain ⟨rfl, rfl, _⟩ := ha
     exact refSameIm_ret false false ⟨0, 0, 0, fun _ => 0, fun _ => 0, fun _ => 0⟩ ⟨0, 0, 0, fun _ => 0, fun _ => 0, fun _ => 0⟩ ⟨rfl, rfl, rfl, fun _ _ => rfl, fun _ _ => rfl, fun _ _ => rfl⟩ (Nat.zero_le _) (Nat.zero_le _) (Nat.zero_le _) w [zImg, zImg] ⟨(zImg_args w).1, (zImg_args w).1, trivial⟩
   | [], ha => exact ha.elim
   | [_], ha => exact ha.2.elim
   | _ :: _ :: _ :: _, ha => exact ha.2.2.elim
 . cases h
theorem lIn0_ok {gl : Gl} : LTabOk Tryd.prog gl lIn0 := .row fun args tup res h w vals hG ha => by
 split at h
 . rename_i a b
   simp only [qS, qP] at h
   obtain ⟨rfl, rfl, hp⟩ := h
   obtain ⟨rfl, rfl⟩ := propB_ok.mp hp
   match vals, ha with
   | [u, v], ha =>
     obtain ⟨rfl, rfl, _⟩ := ha
     have h : InB w.heap.size w (inI10 0 fun _ => 0) (.slice none 0 0) := ⟨⟨Nat.zero_lt_one, fun j hj => absurd hj (Nat.not_lt_zero _)⟩, none, 0, rfl, Nat.le_refl _, fun hn => absurd hn (Nat.lt_irrefl _)⟩
     exact ints10_ret 0 (fun _ => 0) (Nat.zero_le _) w _ ⟨h, h, trivial⟩
   | [], ha => exact ha.elim
   | [_], ha => exact ha.2.elim
   | _ :: _ :: _ :: _, ha => exact ha.2.2.elim
 . cases h
theorem envI1_ok {gl : Gl} (hS : SaysLink gl) (p : Pts) : CallOk (envI1 gl p) := envk_ok (nw := true) hS.aw (.none _ _) (lPtB_ok gl p)
theorem envI2_ok {gl : Gl} (hS : SaysLink gl) (p : Pts) : CallOk (envI2 gl p) := envk_ok (nw := true) hS.aw (.none _ _) (lPt1_ok gl p)
theorem envI3_ok {gl : Gl} (hS : SaysLink gl) (p : Pts) : CallOk (envI3 gl p) := envk_ok (nw := true) hS.aw (.none _ _) (lPtY_ok gl p)
theorem envI4_ok {gl : Gl} (hT : GlTo gl9 gl) (hS : SaysLink gl) (c : Nat) (C : Nat -> Int) (p : Pts) : CallOk (envI4 gl c C p) := envk_ok (nw := true) hS.aw (.none _ _) ((lPtY_ok gl p).or ((hS.ln c C p).or ((lRfN_ok hT c C p).or (lSm0_ok.or lIn0_ok))))
theorem envI5_ok {gl : Gl} (hT : GlTo gl9 gl) (hS : SaysLink gl) (c : Nat) (C : Nat -> Int) (p : Pts) : CallOk (envI5 gl c C p) := envk_ok (nw := true) hS.aw (.none _ _) ((lPtY_ok gl p).or ((hS.ly c C p).or ((lRfY_ok hT c C p).or ((lRefSameIm_ok _ _).or ((lRefCheck_ok _).or lInts10_ok)))))
def imCs (L D K : List Int) : List (Sum Value LE) := [.inr (w3E L), .inr (ntE D), .inr (ntE K)]
noncomputable def lkCs (c : Nat) (C : Nat -> Int) (p : Pts) : List (Sum Value LE) := imCs (lkL c p p.P) (lkD c C p p.P) (lkK c p p.P)
theorem isIm_lk (c : Nat) (C : Nat -> Int) (p : Pts) : isIm (lkIm c C p) (lkCs c C p) := ⟨_, _, _, rfl, rfl, rfl, rfl⟩
theorem imSame_self (i : Im) : ImSame i i := ⟨rfl, rfl, rfl, fun _ _ => rfl, fun _ _ => rfl, fun _ _ => rfl⟩
def datE (D : List Int) (c : Nat) : LE := { ntE D with n := ((c : Int).toNat - 0), el := fun i => (ntE D).el (0 + i) }
theorem li_1 {gl : Gl} (hT : GlTo gl9 gl) (hS : SaysLink gl) (p : Pts) (c : Nat) (C : Nat -> Int) (hr : ptsOk gl p) (hj : (fstN (bigU p) (m20 p)).isSome) (w : World) (vals : List Value) (hG : GlobOk gl w) (ha : ArgsOk w [.inr (rPart p), .inr (intL false c C)] vals) : LRet Tryd.prog 3 vals false [.inl (.bool true)] w := by
 refine fn_ok (envI1_ok hS p) (fuel := 1000) (d := 30) (plan := []) (orc := []) (fls := [[], []]) (l := [(pre (propB (isPt (rPart p) p /\ ptsOk gl p /\ (fstN (bigU p) (m20 p)).isSome)), true)]) (tr := []) (by kernel_rfl) ?_ Tryd.func3 w vals hG ha fun t ht => by cases ht
 refine qA ?_ <| qZ
 . exact propB_ok.mpr ⟨isPt_self _ _ p, hr, hj⟩
theorem li_2 {gl : Gl} (hT : GlTo gl9 gl) (hS : SaysLink gl) (p : Pts) (c : Nat) (C : Nat -> Int) (hr : ptsOk gl p) (hj : fstN (bigU p) (m20 p) = none /\ ¬ p.P <= 20) (w : World) (vals : List Value) (hG : GlobOk gl w) (ha : ArgsOk w [.inr (rPart p), .inr (intL false c C)] vals) : LRet Tryd.prog 3 vals false [.inl (.bool true)] w := by
 refine fn_ok (envI2_ok hS p) (fuel := 1000) (d := 30) (plan := []) (orc := []) (fls := [[], []]) (l := [(pre (propB (isPt (rPart p) p /\ ptsOk gl p /\ fstN (bigU p) (m20 p) = none /\ ¬ p.P <= 20)), true)]) (tr := []) (by kernel_rfl) ?_ Tryd.func3 w vals hG ha fun t ht => by cases ht
 refine qA ?_ <| qZ
 . exact propB_ok.mpr ⟨isPt_self _ _ p, hr, hj⟩
theorem li_3 {gl : Gl} (hT : GlTo gl9 gl) (hS : SaysLink gl) (p : Pts) (c : Nat) (C : Nat -> Int) (hr : ptsOk gl p) (hj : fstN (bigU p) (m20 p) = none /\ p.P <= 20) (hq : (!decide (cntU p (m20 p) <= 600)) = true) (w : World) (vals : List Value) (hG : GlobOk gl w) (ha : ArgsOk w [.inr (rPart p), .inr (intL false c C)] vals) : LRet Tryd.prog 3 vals false [.inl (.bool true)] w := by
 refine fn_ok (envI3_ok hS p) (fuel := 1000) (d := 30) (plan := []) (orc := [true]) (fls := [[], []]) (l := [(!decide (cntU p (m20 p) <= 600), true), (pre (propB (isPt (rPart p) p /\ ptsOk gl p /\ fstN (bigU p) (m20 p) = none /\ p.P <= 20)), true)]) (tr := []) (by kernel_rfl) ?_ Tryd.func3 w vals hG ha fun t ht => by cases ht
 refine qA ?_ <| qA ?_ <| qZ
 . exact hq
 . exact propB_ok.mpr ⟨isPt_self _ _ p, hr, hj⟩
theorem li_4 {gl : Gl} (hT : GlTo gl9 gl) (hS : SaysLink gl) (p : Pts) (c : Nat) (C : Nat -> Int) (hr : ptsOk gl p) (hj : fstN (bigU p) (m20 p) = none /\ p.P <= 20) (hq : (!decide (cntU p (m20 p) <= 600)) = false) (hc : 300 < c) (w : World) (vals : List Value) (hG : GlobOk gl w) (ha : ArgsOk w [.inr (rPart p), .inr (intL false c C)] vals) : LRet Tryd.prog 3 vals false [.inl (.bool true)] w := by
 refine fn_ok (envI3_ok hS p) (fuel := 1000) (d := 30) (plan := []) (orc := [false, true]) (fls := [[], []]) (l := [(decide ((c : Int) > 300), true), (!decide (cntU p (m20 p) <= 600), false), (pre (propB (isPt (rPart p) p /\ ptsOk gl p /\ fstN (bigU p) (m20 p) = none /\ p.P <= 20)), true)]) (tr := []) (by kernel_rfl) ?_ Tryd.func3 w vals hG ha fun t ht => by cases ht
 refine qA ?_ <| qA ?_ <| qA ?_ <| qZ
 . exact ob_yes (by omega)
 . exact hq
 . exact propB_ok.mpr ⟨isPt_self _ _ p, hr, hj⟩
theorem isInts_in (c : Nat) (C : Nat -> Int) : isInts (intL false c C) c C := ⟨rfl, rfl, fun _ _ => rfl⟩
theorem lkD_get (c : Nat) (C : Nat -> Int) (p : Pts) (i : Nat) (h : i < c) : ∀ j, ((lkD c C p j)[i]?).getD 0 = C i
 | 0 => celL_get c C i h
 | j + 1 => by
   show ((lkD c C p j ++ _)[i]?).getD 0 = C i
   have hl := lkD_len c C p j
   have h0 : (c : Int) <= lkd c p j := by
     clear hl
     induction j with
     | zero => exact Int.le_refl _
     | succ j ih => show (c : Int) <= lkd c p j + (p.fr j).toNat; omega
   rw [List.getElem?_append_left (by omega)]
   exact lkD_get c C p i h j
theorem isInts_dat (c : Nat) (C : Nat -> Int) (p : Pts) : isInts (datE (lkD c C p p.P) c) c C := ⟨rfl, by show (c : Int).toNat - 0 = c; omega, fun j hj => by
 show [Value.int .i64 (((lkD c C p p.P)[0 + j]?).getD 0)] = [Value.int .i64 (C j)]
 rw [Nat.zero_add, lkD_get c C p j hj]⟩
theorem li_n {gl : Gl} (hT : GlTo gl9 gl) (hS : SaysLink gl) (p : Pts) (c : Nat) (C : Nat -> Int) (hr : ptsOk gl p) (hj : fstN (bigU p) (m20 p) = none /\ p.P <= 20) (hq : (!decide (cntU p (m20 p) <= 600)) = false) (hc : ¬ 300 < c) (hs : lkSm c p) (hz : lkErr c p ≠ 0) (w : World) (vals : List Value) (hG : GlobOk gl w) (ha : ArgsOk w [.inr (rPart p), .inr (intL false c C)] vals) : LRet Tryd.prog 3 vals false [.inl (.bool true)] w := by
 refine fn_ok (envI4_ok hT hS c C p) (fuel := 1000) (d := 30) (plan := []) (orc := [false, false, false, false, false, true]) (fls := [[], []]) (l := [(lkErr c p != 0, true), (false, false), (pre (propB ((Value.slice none 0 0) = .slice none 0 0 /\ (Value.slice none 0 0) = .slice none 0 0)), true), (false, false), (pre (propB (zImg = zImg /\ zImg = zImg)), true), (lkErr c p != lkErr c p, false), (pre (propB (lkC gl c C p (rPart p) (intL false c C) /\ lkErr c p ≠ 0)), true), (pre (propB (lkC gl c C p (qE p (m20 p)) (intL false c C) /\ lkErr c p ≠ 0)), true), (decide ((c : Int) > 300), false), (!decide (cntU p (m20 p) <= 600), false), (pre (propB (isPt (rPart p) p /\ ptsOk gl p /\ fstN (bigU p) (m20 p) = none /\ p.P <= 20)), true)]) (tr := []) (by kernel_rfl) ?_ Tryd.func3 w vals hG ha fun t ht => by cases ht
 refine qF ?_ ?_ ?_ ?_ <| qF ?_ ?_ ?_ ?_ <| qA ?_ <| qA ?_ <| qA ?_ <| qZ
 . simpa using hz
 . rfl
 . exact propB_ok.mpr ⟨rfl, rfl⟩
 . rfl
 . exact propB_ok.mpr ⟨rfl, rfl⟩
 . exact ne_self10 _
 . exact propB_ok.mpr ⟨⟨isPt_self _ _ p, isInts_in c C, hr, hs⟩, hz⟩
 . exact propB_ok.mpr ⟨⟨isPt_q p hj.2, isInts_in c C, hr, hs⟩, hz⟩
 . exact ob_no (by omega)
 . exact hq
 . exact propB_ok.mpr ⟨isPt_self _ _ p, hr, hj⟩
theorem li_y {gl : Gl} (hT : GlTo gl9 gl) (hS : SaysLink gl) (p : Pts) (c : Nat) (C : Nat -> Int) (hr : ptsOk gl p) (hj : fstN (bigU p) (m20 p) = none /\ p.P <= 20) (hq : (!decide (cntU p (m20 p) <= 600)) = false) (hc : ¬ 300 < c) (hs : lkSm c p) (hz : lkErr c p = 0) (hN : (lkN c p p.P).length <= 1000000000) (hi : imE (lkIm c C p) = 0) (hm : smallIm (lkIm c C p)) (hd : c <= (lkD c C p p.P).length) (w : World) (vals : List Value) (hG : GlobOk gl w) (ha : ArgsOk w [.inr (rPart p), .inr (intL false c C)] vals) : LRet Tryd.prog 3 vals false [.inl (.bool true)] w := by
 refine fn_ok (envI5_ok hT hS c C p) (fuel := 1000) (d := 30) (plan := []) (orc := [false, false, false, false, false, false, true]) (fls := [[], []]) (l := [(pre (propB (∃ n g, n <= 1000000000 /\ isInts (datE (lkD c C p p.P) c) n g /\ isInts (intL false c C) n g)), true), (pre (decide (0 + ((c : Int).toNat - 0) <= (lkD c C p p.P).length)), true), (pre (decide ((0 : Int) <= 0 /\ 0 <= (c : Int) /\ (c : Int) <= ((lkD c C p p.P).length : Int))), true), (imE (lkIm c C p) == 0, true), (pre (propB (isIm (lkIm c C p) (lkCs c C p) /\ smallIm (lkIm c C p))), true), (false, false), (false, false), (pre (propB (∃ n g, n <= 1000000000 /\ isInts (ntE (lkN c p p.P)) n g /\ isInts (ntE (lkN c p p.P)) n g)), true), (false, false), (pre (propB (isIm (lkIm c C p) (lkCs c C p) /\ isIm (lkIm c C p) (lkCs c C p) /\ ImSame (lkIm c C p) (lkIm c C p) /\ smallIm (lkIm c C p))), true), (false, false), (pre (propB (lkC gl c C p (rPart p) (intL false c C) /\ lkErr c p = 0)), true), (pre (propB (lkC gl c C p (qE p (m20 p)) (intL false c C) /\ lkErr c p = 0)), true), (decide ((c : Int) > 300), false), (!decide (cntU p (m20 p) <= 600), false), (pre (propB (isPt (rPart p) p /\ ptsOk gl p /\ fstN (bigU p) (m20 p) = none /\ p.P <= 20)), true)]) (tr := []) (by kernel_rfl) ?_ Tryd.func3 w vals hG ha fun t ht => by cases ht
 refine qF ?_ ?_ ?_ ?_ <| qF ?_ ?_ ?_ ?_ <| qF ?_ ?_ ?_ ?_ <| qF ?_ ?_ ?_ ?_ <| qZ
 . exact propB_ok.mpr ⟨c, C, by omega, isInts_dat c C p, isInts_in c C⟩
 . exact decide_eq_true (by omega)
 . exact decide_eq_true (by omega)
 . rw [hi]; rfl
 . exact propB_ok.mpr ⟨isIm_lk c C p, hm⟩
 . rfl
 . rfl
 . exact propB_ok.mpr ⟨_, _, hN, isInts_nt _, isInts_nt _⟩
 . rfl
 . exact propB_ok.mpr ⟨isIm_lk c C p, isIm_lk c C p, imSame_self _, hm⟩
 . rfl
 . exact propB_ok.mpr ⟨⟨isPt_self _ _ p, isInts_in c C, hr, hs⟩, hz⟩
 . exact propB_ok.mpr ⟨⟨isPt_q p hj.2, isInts_in c C, hr, hs⟩, hz⟩
 . exact ob_no (by omega)
 . exact hq
 . exact propB_ok.mpr ⟨isPt_self _ _ p, hr, hj⟩
theorem lkErr_zero {c : Nat} {p : Pts} (h : lkErr c p = 0) : 1 <= p.P /\ p.P <= 8 /\ c <= 200 /\ lkFr c p /\ fstN (wrgU c p) p.P = none := by
 unfold lkErr at h
 split at h
 . cases h
 . split at h
   . cases h
   . split at h
     . cases h
     . rename_i a1 a2 a3
       have e : fstN (frB p) p.P = none := by
         cases e : fstN (frB p) p.P with
         | none => rfl
         | some j => exact absurd (.inl (by rw [e]; rfl)) a3
       have a4 : ¬ 4096 < (c : Int) + sumF p p.P := fun hc => a3 (.inr hc)
       refine ⟨by omega, by omega, by omega, ⟨frames_ok e, by omega⟩, ?_⟩
       cases e6 : fstN (wrgU c p) p.P with
       | none => rfl
       | some j =>
         rw [e6] at h
         have h : (bif badU p j then 1 else 33 : Int) = 0 := h
         cases hb : badU p j <;> rw [hb] at h <;> cases h
theorem lkL_up {c : Nat} {p : Pts} (h : lkSm c p) : ∀ (j i : Nat), j + i <= p.P -> (lkL c p j).length + i <= (lkL c p (j + i)).length /\ ∀ k, k < (lkL c p j).length -> (lkL c p (j + i))[k]? = (lkL c p j)[k]?
 | j, 0, _ => ⟨Nat.le_refl _, fun _ _ => rfl⟩
 | j, i + 1, hi => by
   obtain ⟨h1, h2⟩ := lkL_up h j i (by omega)
   obtain ⟨k1, k2, k3⟩ := lkA_len p (j + i) (lkd c p (j + i)) (h.n _ (by omega))
   refine ⟨?_, fun k hk => ?_⟩
   . show _ <= (lkL c p (j + i) ++ (lkA p (j + i) (lkd c p (j + i))).map encZ).length
     rw [List.length_append, List.length_map]; omega
   . show (lkL c p (j + i) ++ _)[k]? = _
     rw [List.getElem?_append_left (by omega)]; exact h2 k hk
theorem lkK_get {c : Nat} {p : Pts} (h : lkSm c p) : ∀ (P j : Nat), P <= p.P -> j < P -> ((lkK c p P)[j]?).getD 0 = ((lkL c p j).length : Int)
 | 0, j, _, hj => absurd hj (Nat.not_lt_zero _)
 | P + 1, j, hP, hj => by
   have hl := (lkL_len h P (by omega)).2.2
   show ((lkK c p P ++ [_])[j]?).getD 0 = _
   by_cases e : j < P
   . rw [List.getElem?_append_left (by omega)]; exact lkK_get h P j (by omega) e
   . obtain rfl : j = P := by omega
     rw [List.getElem?_append_right (by omega), hl, Nat.sub_self]; rfl
theorem lkIm_ok {c : Nat} {C : Nat -> Int} {p : Pts} (hs : lkSm c p) (h : lkErr c p = 0) : imE (lkIm c C p) = 0 /\ smallIm (lkIm c C p) /\ (lkN c p p.P).length <= 1000000000 /\ c <= (lkD c C p p.P).length := by
 obtain ⟨h1, h8, hc, hf, hw⟩ := lkErr_zero h
 obtain ⟨l1, l2, l3⟩ := lkL_len hs p.P (Nat.le_refl _)
 have hD := lkD_len c C p p.P
 have hd := lkd_sum (c := c) hf.fr p.P (Nat.le_refl _)
 have hsum := hf.sum
 have hr := sumF_rng hf.fr p.P (Nat.le_refl _)
 obtain ⟨u1, _⟩ := lkL_up hs 0 p.P (by omega)
 rw [Nat.zero_add] at u1
 have u0 : (lkL c p 0).length = 0 := rfl
 refine ⟨?_, ⟨by show (lkL c p p.P).length <= _; omega, by show (lkD c C p p.P).length <= _; omega, by show (lkK c p p.P).length <= _; omega⟩, by omega, by omega⟩
 unfold imE
 have e1 : ¬ ((lkIm c C p).n > 262144 \/ (lkIm c C p).m > 4096) := by show ¬ ((lkL c p p.P).length > 262144 \/ (lkD c C p p.P).length > 4096); omega
 have e2 : ¬ ((lkIm c C p).n < 1 \/ (lkIm c C p).h < 1 \/ (lkIm c C p).h > 8) := by show ¬ ((lkL c p p.P).length < 1 \/ (lkK c p p.P).length < 1 \/ (lkK c p p.P).length > 8); omega
 rw [if_neg e1, if_neg e2]
 have e3 : ¬ (List.range (lkIm c C p).h).any (badE (lkIm c C p)) = true := by
   intro hx
   rw [List.any_eq_true] at hx
   obtain ⟨j, hj, hb⟩ := hx
   have hj : j < (lkK c p p.P).length := List.mem_range.mp hj
   unfold badE at hb
   have hg : (lkIm c C p).e j = ((lkL c p j).length : Int) := lkK_get hs p.P j (Nat.le_refl _) (by omega)
   have hn : (lkIm c C p).n = (lkL c p p.P).length := rfl
   obtain ⟨v1, _⟩ := lkL_up hs j (p.P - j) (by omega)
   rw [show j + (p.P - j) = p.P by omega] at v1
   have := of_decide_eq_true hb
   rw [hg, hn] at this
   omega
 rw [if_neg e3]
theorem m20_P {p : Pts} (h : p.P <= 20) : m20 p = p.P := by unfold m20; omega
theorem lkSm_of {p : Pts} {c : Nat} (hj : fstN (bigU p) (m20 p) = none) (h20 : p.P <= 20) (hc : c <= 300) (hw : ∀ j, j < p.P -> ∀ i, i < p.n j -> wfIt (p.f j i)) : lkSm c p := ⟨by omega, fun j hj2 => by
 have := fst_none hj j (by rw [m20_P h20]; exact hj2)
 unfold bigU at this
 have : ¬ 300 < p.n j := of_decide_eq_false this
 omega, hw, by omega⟩
theorem linkImages_ret {gl : Gl} (hT : GlTo gl9 gl) (hS : SaysLink gl) (p : Pts) (c : Nat) (C : Nat -> Int) (hr : ptsOk gl p) (hw : ∀ j, j < p.P -> ∀ i, i < p.n j -> wfIt (p.f j i)) (w : World) (vals : List Value) (hG : GlobOk gl w) (ha : ArgsOk w [.inr (rPart p), .inr (intL false c C)] vals) : LRet Tryd.prog 3 vals false [.inl (.bool true)] w := by
 cases hj : fstN (bigU p) (m20 p) with
 | some j => exact li_1 hT hS p c C hr (by rw [hj]; rfl) w vals hG ha
 | none =>
   by_cases h20 : p.P <= 20
   case neg => exact li_2 hT hS p c C hr ⟨hj, h20⟩ w vals hG ha
   cases hq : (!decide (cntU p (m20 p) <= 600))
   case true => exact li_3 hT hS p c C hr ⟨hj, h20⟩ hq w vals hG ha
   by_cases hc : 300 < c
   . exact li_4 hT hS p c C hr ⟨hj, h20⟩ hq hc w vals hG ha
   have hs := lkSm_of hj h20 (show c <= 300 by omega) hw
   by_cases hz : lkErr c p = 0
   . obtain ⟨k1, k2, k3, k4⟩ := lkIm_ok (C := C) hs hz
     exact li_y hT hS p c C hr ⟨hj, h20⟩ hq hc hs hz k3 k1 k2 k4 w vals hG ha
   . exact li_n hT hS p c C hr ⟨hj, h20⟩ hq hc hs hz w vals hG ha
noncomputable def stubA (x : Int) : Nat -> List Value := tabE [itC (stbI 4 16777216), itC (stbI 2 (arZ .add .i64 16777216 (arZ .mul .i64 8 x)))]
end Go.Proofs.YtilljoemebbnjaaDoor
