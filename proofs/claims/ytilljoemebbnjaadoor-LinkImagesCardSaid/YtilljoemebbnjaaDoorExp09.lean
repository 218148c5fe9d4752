/- Layer 9: constants loaded: by the program and by definition the same list. -/
import Derived.Test.YtilljoemebbnjaaDoorS2I
import Derived.Test.YtilljoemebbnjaaDoorK09
set_option linter.unusedVariables false
set_option linter.unusedSimpArgs false
namespace Go.Proofs.YtilljoemebbnjaaDoor
open Go.RowKit Sim S2
def zIt : It := ⟨0, zIn, 0, 0⟩
def itsE (L : List It) : LE := ⟨44, 10, L.length, fun j => itC ((L[j]?).getD zIt), true, false, true⟩
def mkI (note : Int) (i : In) : It := ⟨0, i, 0, note⟩
noncomputable def xpd (i : It) : List It := bif i.kind == 4 then (LD i.ins.rd i.n).map (mkI i.note) else [i]
noncomputable def xpL (f : Nat -> It) : Nat -> List It
 | 0 => []
 | j + 1 => xpL f j ++ xpd (f j)
def itCells (i : It) : List S2.SV := mkCells (itC i) [true, true, true, true, true, true, true, true, true, true]
def nilIt : Nat -> List Value := fun j => itC ((([] : List It)[j]?).getD zIt)
noncomputable def env9x : S2.Env := { envk Tryd.prog gl9 true noT noP (lLd 3) with lit := true }
def exS (n : Nat) (f : Nat -> It) (B : List It) (j : Nat) : S2.St := { tmps := [(3, .c 1), (8, .c 0), (9, .inl ([true], .int .i64 n)), (10, .inl ([true], .int .i64 j))], own := ⟨[], [itE n f, itsE B]⟩, lo := 0, llo := 0, mem := true, orc := [], obl := [] }
def exQ0 : Pick := { ts := [3, 8, 9, 10], bs := [], ls := [0, 1], nil := [(3, 44, 10, nilIt)], opn := [9, 10] }
def exQA : Pick := { ts := [3, 8, 9, 10], bs := [], ls := [0, 3], opn := [9, 10] }
def exQB : Pick := { ts := [3, 8, 9, 10], bs := [], ls := [0, 1], opn := [9, 10] }
noncomputable def exI (n : Nat) (f : Nat -> It) (j : Nat) (B : List It) (k : Nat) : S2.St := { tmps := [(3, .c 1), (5, .inr (0, 0, none)), (8, .c 0), (9, .inl ([true], .int .i64 n)), (10, .inl ([true], .int .i64 j)), (26, .c 2), (27, .inl ([true], .int .i64 (LD (f j).ins.rd (f j).n).length)), (28, .inl ([true], .int .i64 k))], own := ⟨[⟨itCells (f j), 44, .cells⟩], [itE n f, itsE B, lsE (LD (f j).ins.rd (f j).n)]⟩, lo := 0, llo := 0, mem := true, orc := [], obl := [] }
def exQI : Pick := { ts := [3, 5, 8, 9, 10, 26, 27, 28], bs := [0], ls := [0, 1, 2], opn := [27, 28] }
def exQJ : Pick := { ts := [3, 5, 8, 9, 10, 26, 27, 28], bs := [0], ls := [0, 4, 2], opn := [27, 28] }
def exP : List Nat := [0, 1, 0, 1, 1]
def exPI : List Nat := [0, 1, 1, 1, 0, 0, 1, 1]
noncomputable def exC : Code := codeAt (codeOf Tryd.prog 29) (0 :: exP)
noncomputable def exCI : Code := codeAt (codeOf Tryd.prog 29) (0 :: (exPI ++ (0 :: exP)))
theorem env9x_ok : CallOk env9x := envk_ok (nw := true) (.none _ _) (.none _ _) (lLd_of 3 (loadP_ret 3 (by decide)))
noncomputable def apI (n : Nat) : Bool := pre (decide (n + 1 <= maxLen /\ (n + 1) * 72 <= 140737488355328 /\ 0 < 1))
theorem apI_ok {n : Nat} (h : n <= 100000000) : apI n = true := ob_app (by omega) (by decide) (by decide)
def oneI (i : It) : Nat -> List Value := tabE [itC i]
def rawI (n : Nat) (g : Nat -> List Value) : LE := ⟨44, 10, n, g, true, false, true⟩
def agI (g : Nat -> List Value) (L : List It) : Prop := ∀ j, j < L.length -> g j = itC ((L[j]?).getD zIt)
theorem agI_app (L : List It) (i : It) : agI (joinE L.length (itsE L).el (oneI i)) (L ++ [i]) := fun j hj => by
 have hj : j < L.length + 1 := by simpa using hj
 unfold joinE
 cases hb : Nat.blt j L.length
 . have : ¬ j < L.length := fun hc => by rw [<- Nat.blt_eq, hb] at hc; cases hc
   have e : j - L.length = 0 := by omega
   have e2 : j = L.length := by omega
   simp only [cond_false]
   rw [e, e2]; simp [oneI, tabE]
 . have : j < L.length := by simpa [Nat.blt_eq] using hb
   simp only [cond_true]
   rw [List.getElem?_append_left this]; rfl
theorem same_app (L : List It) (i : It) : sameE (rawI (L.length + 1) (joinE L.length (itsE L).el (oneI i))) (itsE (L ++ [i])) := ⟨rfl, rfl, by simp [rawI, itsE], rfl, rfl, fun j hj => agI_app L i j (by simpa [rawI] using hj)⟩
def kOf (f : Nat -> It) (j : Nat) : It := f (j : Int).toNat
noncomputable def iOf (f : Nat -> It) (j : Nat) (k : Nat) : In := elL (LD (f j).ins.rd (f j).n) (k : Int).toNat
def exR (n : Nat) (f : Nat -> It) (e : LE) (j : Nat) : S2.St := { exS n f [] j with own := ⟨[], [itE n f, e]⟩ }
noncomputable def exIR (n : Nat) (f : Nat -> It) (j : Nat) (e : LE) (k : Nat) : S2.St := { exI n f j [] k with own := ⟨[⟨itCells (f j), 44, .cells⟩], [itE n f, e, lsE (LD (f j).ins.rd (f j).n)]⟩ }
theorem xpL_len (f : Nat -> It) : ∀ j, (xpL f j).length <= 8 * j
 | 0 => Nat.le_refl _
 | j + 1 => by
   have ih := xpL_len f j
   have hL : (LD (f j).ins.rd (f j).n).length <= 8 := ldL_len (Nat.le_refl _) _ _
   have h : (xpd (f j)).length <= 8 := by
     unfold xpd
     cases (f j).kind == 4
     . show 1 <= 8; omega
     . show ((LD (f j).ins.rd (f j).n).map (mkI (f j).note)).length <= 8; rw [List.length_map]; exact hL
   show (xpL f j ++ xpd (f j)).length <= _
   rw [List.length_append]; omega
theorem exA0 (n : Nat) (f : Nat -> It) (B : List It) (j : Nat) (hn : n <= 1000000) (hj : j < n) (hB : B.length <= 100000000) (h4 : ((f j).kind != 4) = true) (w : World) (hG : GlobOk gl9 w) : S2.Sem env9x w 42 exC (exS n f B j) none (exR n f (rawI (B.length + 1) (joinE B.length (itsE B).el (oneI (kOf f j)))) (j + 1)) := by
 refine sem_iter env9x_ok hG (p := exQA) (fuel := 1000) [true, true] [(pre (inI ((j : Int) + 1)), true), (apI B.length, true), ((kOf f j).kind != 4, true), (pre (decide ((j : Int).toNat < n)), true), (pre (idxB (j : Int) n), true), (decide ((j : Int) < n), true)] (by kernel_rfl) (by kernel_rfl) ?_
 rw [qN]
 exact qA (ob_inI (by omega)) <| qA (apI_ok hB) <| qA (h4) <| qA (ob_lt hj) <| qA (ob_idx (by omega)) <| qA (ob_yes (by omega)) <| qZ
theorem exI0 (n : Nat) (f : Nat -> It) (B : List It) (j k : Nat) (hn : n <= 1000000) (hj : j < n) (hB : B.length <= 100000000) (hk : k < (LD (f j).ins.rd (f j).n).length) (hL : (LD (f j).ins.rd (f j).n).length <= 8) (w : World) (hG : GlobOk gl9 w) : S2.Sem env9x w 42 exCI (exI n f j B k) none (exIR n f j (rawI (B.length + 1) (joinE B.length (itsE B).el (oneI (mkI (f j).note (iOf f j k))))) (k + 1)) := by
 refine sem_iter env9x_ok hG (p := exQJ) (fuel := 1000) [true] [(pre (inI ((k : Int) + 1)), true), (apI B.length, true), (pre (decide ((k : Int).toNat < (LD (f j).ins.rd (f j).n).length)), true), (pre (idxB (k : Int) (LD (f j).ins.rd (f j).n).length), true), (decide ((k : Int) < (LD (f j).ins.rd (f j).n).length), true)] (by kernel_rfl) (by kernel_rfl) ?_
 rw [qN]
 exact qA (ob_inI (by omega)) <| qA (apI_ok hB) <| qA (ob_lt hk) <| qA (ob_idx (by omega)) <| qA (ob_yes (by omega)) <| qZ
theorem exI1 (n : Nat) (f : Nat -> It) (B : List It) (j : Nat) (w : World) (hG : GlobOk gl9 w) : S2.Sem env9x w 42 exCI (exI n f j B (LD (f j).ins.rd (f j).n).length) (some (some 2)) (exI n f j B (LD (f j).ins.rd (f j).n).length) :=
 sem_iter env9x_ok hG (p := exQI) (fuel := 1000) [false] [(decide (((LD (f j).ins.rd (f j).n).length : Int) < (LD (f j).ins.rd (f j).n).length), false)] (by kernel_rfl) (by kernel_rfl) (qA (ob_no (by omega)) qZ)
theorem ex1 (n : Nat) (f : Nat -> It) (B : List It) (w : World) (hG : GlobOk gl9 w) : S2.Sem env9x w 42 exC (exS n f B n) (some (some 0)) (exS n f B n) :=
 sem_iter env9x_ok hG (p := exQB) (fuel := 1000) [false] [(decide ((n : Int) < n), false)] (by kernel_rfl) (by kernel_rfl) (qA (ob_no (by omega)) qZ)
theorem exB0 (n : Nat) (f : Nat -> It) (B B' : List It) (j : Nat) (hn : n <= 1000000) (hj : j < n) (hB : B.length <= 100000000) (h4 : ((f j).kind != 4) = false) (hlv : pre (isRegB (kOf f j).ins.rd && lvB 3 (kOf f j).n) = true) (w : World) (hG : GlobOk gl9 w) (hin : S2.Sem env9x w 42 (.loop exCI) (exI n f j B 0) (some (some 2)) (exI n f j B' (LD (f j).ins.rd (f j).n).length)) : S2.Sem env9x w 42 exC (exS n f B j) none (exS n f B' (j + 1)) := by
 refine sem_iterP env9x_ok hG (fuel := 1000) (d := 30) (p := exQB) [⟨exPI, exQI, some (some 2), exI n f j B' (LD (f j).ins.rd (f j).n).length⟩] [true, false] [(pre (inI ((j : Int) + 1)), true), (pre (isRegB (kOf f j).ins.rd && lvB 3 (kOf f j).n), true), ((kOf f j).kind != 4, false), (pre (decide ((j : Int).toNat < n)), true), (pre (idxB (j : Int) n), true), (decide ((j : Int) < n), true)] [⟨.loop exCI, exI n f j B 0, some (some 2), exI n f j B' (LD (f j).ins.rd (f j).n).length⟩] (by kernel_rfl) (by kernel_rfl) ?_ fun t ht => by obtain rfl := List.mem_singleton.mp ht; exact hin
 rw [qN]
 exact qA (ob_inI (by omega)) <| qA (hlv) <| qA (h4) <| qA (ob_lt hj) <| qA (ob_idx (by omega)) <| qA (ob_yes (by omega)) <| qZ
theorem ex_item (n : Nat) (f : Nat -> It) (B : List It) (j : Nat) (hn : n <= 1000000) (hj : j < n) (hB : B.length <= 100000000) (h4 : ((f j).kind != 4) = true) (w : World) (hG : GlobOk gl9 w) : S2.Sem env9x w 42 exC (exS n f B j) none (exS n f (B ++ [f j]) (j + 1)) :=
 (exA0 n f B j hn hj hB h4 w hG).same rfl rfl ⟨.refl _, same_app B (f j), trivial⟩ rfl
noncomputable def exJ (n : Nat) (f : Nat -> It) (j : Nat) (B : List It) (k : Nat) : S2.St := exI n f j (B ++ ((LD (f j).ins.rd (f j).n).take k).map (mkI (f j).note)) k
theorem exJ_step (n : Nat) (f : Nat -> It) (B : List It) (j : Nat) (hn : n <= 1000000) (hj : j < n) (hB : B.length <= 90000000) (hL : (LD (f j).ins.rd (f j).n).length <= 8) (k : Nat) (hk : k < (LD (f j).ins.rd (f j).n).length) (w : World) (hG : GlobOk gl9 w) : S2.Sem env9x w 42 exCI (exJ n f j B k) none (exJ n f j B (k + 1)) := by
 have e : ((LD (f j).ins.rd (f j).n).take (k + 1)).map (mkI (f j).note) = ((LD (f j).ins.rd (f j).n).take k).map (mkI (f j).note) ++ [mkI (f j).note (elL (LD (f j).ins.rd (f j).n) k)] := by
   rw [List.take_add_one, List.map_append]
   congr 1
   unfold elL; rw [List.getElem?_eq_getElem hk]; rfl
 unfold exJ
 rw [e, <- List.append_assoc]
 have hB2 : (B ++ ((LD (f j).ins.rd (f j).n).take k).map (mkI (f j).note)).length <= 100000000 := by rw [List.length_append, List.length_map, List.length_take]; omega
 exact (exI0 n f _ j k hn hj hB2 hk hL w hG).same rfl rfl ⟨.refl _, same_app _ _, .refl _, trivial⟩ rfl
theorem ex_inner (n : Nat) (f : Nat -> It) (B : List It) (j : Nat) (hn : n <= 1000000) (hj : j < n) (hB : B.length <= 90000000) (hL : (LD (f j).ins.rd (f j).n).length <= 8) (w : World) (hG : GlobOk gl9 w) : S2.Sem env9x w 42 (.loop exCI) (exI n f j B 0) (some (some 2)) (exI n f j (B ++ (LD (f j).ins.rd (f j).n).map (mkI (f j).note)) (LD (f j).ins.rd (f j).n).length) := by
 have e0 : exJ n f j B 0 = exI n f j B 0 := by unfold exJ; rw [List.take_zero, List.map_nil, List.append_nil]
 have e1 : exJ n f j B (LD (f j).ins.rd (f j).n).length = exI n f j (B ++ (LD (f j).ins.rd (f j).n).map (mkI (f j).note)) (LD (f j).ins.rd (f j).n).length := by unfold exJ; rw [List.take_length]
 have := sem_loop (E := env9x) (w0 := base0 w) (nb := 0) (nl := 0) (n := 42) (c := exCI) (x := some (some 2)) (s' := exJ n f j B (LD (f j).ins.rd (f j).n).length) (exJ n f j B) (LD (f j).ins.rd (f j).n).length (by simp) (fun k hk => exJ_step n f B j hn hj hB hL k hk w hG) (by rw [e1]; exact exI1 n f _ j w hG)
 rw [e0, e1] at this
 exact this
theorem ex_step (n : Nat) (f : Nat -> It) (hn : n <= 1000000) (hc : ∀ j, j < n -> ((f j).kind != 4) = false -> (0 <= (f j).ins.rd /\ (f j).ins.rd <= 31) /\ isI (f j).n) (j : Nat) (hj : j < n) (w : World) (hG : GlobOk gl9 w) : S2.Sem env9x w 42 exC (exS n f (xpL f j) j) none (exS n f (xpL f (j + 1)) (j + 1)) := by
 have hB : (xpL f j).length <= 90000000 := Nat.le_trans (xpL_len f j) (by omega)
 cases h4 : (f j).kind != 4
 . obtain ⟨hrd, hI⟩ := hc j hj h4
   have hlv : (isRegB (f j).ins.rd && lvB 3 (f j).n) = true := by
     rw [lvB_top hI 3 (Nat.le_refl _), Bool.and_true]
     unfold isRegB; rw [decide_eq_true hrd.1, decide_eq_true hrd.2]; rfl
   have hL : (LD (f j).ins.rd (f j).n).length <= 8 := ldL_len (Nat.le_refl _) _ _
   have e : xpL f (j + 1) = xpL f j ++ (LD (f j).ins.rd (f j).n).map (mkI (f j).note) := by
     show xpL f j ++ xpd (f j) = _
     unfold xpd; rw [show ((f j).kind == 4) = true by simpa using h4]; rfl
   rw [e]
   exact exB0 n f (xpL f j) _ j hn hj (by omega) h4 hlv w hG (ex_inner n f (xpL f j) j hn hj hB hL w hG)
 . have e : xpL f (j + 1) = xpL f j ++ [f j] := by
     show xpL f j ++ xpd (f j) = _
     unfold xpd; rw [show ((f j).kind == 4) = false by simpa using h4]; rfl
   rw [e]
   exact ex_item n f (xpL f j) j hn hj (by omega) h4 w hG
theorem ex_ret (n : Nat) (f : Nat -> It) (hn : n <= 1000000) (hc : ∀ j, j < n -> ((f j).kind != 4) = false -> (0 <= (f j).ins.rd /\ (f j).ins.rd <= 31) /\ isI (f j).n) (w : World) (hG : GlobOk gl9 w) (vals : List Value) (ha : ArgsOk w [.inr (itE n f)] vals) : LRet Tryd.prog 29 vals false [.inr (itsE (xpL f n))] w := by
 refine fn_ok env9x_ok (fuel := 1000) (d := 30) (plan := [⟨exP, exQ0, some (some 0), exS n f (xpL f n) n⟩]) (orc := []) (fls := [[]]) (l := []) (tr := [⟨.loop exC, exS n f (xpL f 0) 0, some (some 0), exS n f (xpL f n) n⟩]) (by kernel_rfl) qZ Tryd.func29 w vals hG ha fun t ht => ?_
 obtain rfl := List.mem_singleton.mp ht
 exact sem_loop (fun j => exS n f (xpL f j) j) n (by simp) (fun j hj => ex_step n f hn hc j hj w hG) (ex1 n f _ w hG)
noncomputable def env9y : S2.Env := { envk Tryd.prog gl9 true noT noP (lRf 3) with lit := true }
def eyS (n : Nat) (f : Nat -> It) (B : List It) (j : Nat) : S2.St := { tmps := [(0, .c 0), (3, .c 1), (4, .inl ([true], .int .i64 j))], own := ⟨[], [itE n f, itsE B]⟩, lo := 0, llo := 0, mem := true, orc := [], obl := [] }
def eyQ0 : Pick := { ts := [0, 3, 4], bs := [], ls := [0, 1], nil := [(3, 44, 10, nilIt)], opn := [4] }
def eyQA : Pick := { ts := [0, 3, 4], bs := [], ls := [0, 3], opn := [4] }
def eyQB : Pick := { ts := [0, 3, 4], bs := [], ls := [0, 1], opn := [4] }
noncomputable def eyI (n : Nat) (f : Nat -> It) (j : Nat) (B : List It) (k : Nat) : S2.St := { tmps := [(0, .c 0), (3, .c 1), (4, .inl ([true], .int .i64 j)), (6, .c 2), (7, .inl ([true], .int .i64 k))], own := ⟨[], [itE n f, itsE B, lsE (LD (f j).ins.rd (f j).n)]⟩, lo := 0, llo := 0, mem := true, orc := [], obl := [] }
def eyQI : Pick := { ts := [0, 3, 4, 6, 7], bs := [], ls := [0, 1, 2], opn := [7] }
def eyQJ : Pick := { ts := [0, 3, 4, 6, 7], bs := [], ls := [0, 4, 2], opn := [7] }
def eyP : List Nat := [0, 1, 0, 1, 1]
def eyPI : List Nat := [0, 1, 1, 1, 1, 1, 0, 0, 1]
noncomputable def eyC : Code := codeAt (codeOf Tryd.prog 22) (0 :: eyP)
noncomputable def eyCI : Code := codeAt (codeOf Tryd.prog 22) (0 :: (eyPI ++ (0 :: eyP)))
theorem env9y_ok : CallOk env9y := envk_ok (nw := true) (.none _ _) (.none _ _) (lRf_of 3 (loadR_ret 3 (by decide)))
def eyR (n : Nat) (f : Nat -> It) (e : LE) (j : Nat) : S2.St := { eyS n f [] j with own := ⟨[], [itE n f, e]⟩ }
noncomputable def eyIR (n : Nat) (f : Nat -> It) (j : Nat) (e : LE) (k : Nat) : S2.St := { eyI n f j [] k with own := ⟨[], [itE n f, e, lsE (LD (f j).ins.rd (f j).n)]⟩ }
theorem eyA0 (n : Nat) (f : Nat -> It) (B : List It) (j : Nat) (hn : n <= 1000000) (hj : j < n) (hB : B.length <= 100000000) (h4 : ((f j).kind != 4) = true) (w : World) (hG : GlobOk gl9 w) : S2.Sem env9y w 66 eyC (eyS n f B j) none (eyR n f (rawI (B.length + 1) (joinE B.length (itsE B).el (oneI (kOf f j)))) (j + 1)) := by
 refine sem_iter env9y_ok hG (p := eyQA) (fuel := 1000) [true, true] [(pre (inI ((j : Int) + 1)), true), (apI B.length, true), (pre (decide ((j : Int).toNat < n)), true), (pre (idxB (j : Int) n), true), ((kOf f j).kind != 4, true), (pre (decide ((j : Int).toNat < n)), true), (pre (decide ((j : Int).toNat < n)), true), (pre (idxB (j : Int) n), true), (decide ((j : Int) < n), true)] (by kernel_rfl) (by kernel_rfl) ?_
 rw [qN]
 exact qA (ob_inI (by omega)) <| qA (apI_ok hB) <| qA (ob_lt hj) <| qA (ob_idx (by omega)) <| qA (h4) <| qA (ob_lt hj) <| qA (ob_lt hj) <| qA (ob_idx (by omega)) <| qA (ob_yes (by omega)) <| qZ
theorem eyI0 (n : Nat) (f : Nat -> It) (B : List It) (j k : Nat) (hn : n <= 1000000) (hj : j < n) (hB : B.length <= 100000000) (hk : k < (LD (f j).ins.rd (f j).n).length) (hL : (LD (f j).ins.rd (f j).n).length <= 8) (w : World) (hG : GlobOk gl9 w) : S2.Sem env9y w 66 eyCI (eyI n f j B k) none (eyIR n f j (rawI (B.length + 1) (joinE B.length (itsE B).el (oneI (mkI (kOf f j).note (iOf f j k))))) (k + 1)) := by
 refine sem_iter env9y_ok hG (p := eyQJ) (fuel := 1000) [true] [(pre (inI ((k : Int) + 1)), true), (apI B.length, true), (pre (decide ((j : Int).toNat < n)), true), (pre (decide ((j : Int).toNat < n)), true), (pre (idxB (j : Int) n), true), (pre (decide ((k : Int).toNat < (LD (f j).ins.rd (f j).n).length)), true), (pre (idxB (k : Int) (LD (f j).ins.rd (f j).n).length), true), (decide ((k : Int) < (LD (f j).ins.rd (f j).n).length), true)] (by kernel_rfl) (by kernel_rfl) ?_
 rw [qN]
 exact qA (ob_inI (by omega)) <| qA (apI_ok hB) <| qA (ob_lt hj) <| qA (ob_lt hj) <| qA (ob_idx (by omega)) <| qA (ob_lt hk) <| qA (ob_idx (by omega)) <| qA (ob_yes (by omega)) <| qZ
theorem eyI1 (n : Nat) (f : Nat -> It) (B : List It) (j : Nat) (w : World) (hG : GlobOk gl9 w) : S2.Sem env9y w 66 eyCI (eyI n f j B (LD (f j).ins.rd (f j).n).length) (some (some 2)) (eyI n f j B (LD (f j).ins.rd (f j).n).length) :=
 sem_iter env9y_ok hG (p := eyQI) (fuel := 1000) [false] [(decide (((LD (f j).ins.rd (f j).n).length : Int) < (LD (f j).ins.rd (f j).n).length), false)] (by kernel_rfl) (by kernel_rfl) (qA (ob_no (by omega)) qZ)
theorem ey1 (n : Nat) (f : Nat -> It) (B : List It) (w : World) (hG : GlobOk gl9 w) : S2.Sem env9y w 66 eyC (eyS n f B n) (some (some 0)) (eyS n f B n) :=
 sem_iter env9y_ok hG (p := eyQB) (fuel := 1000) [false] [(decide ((n : Int) < n), false)] (by kernel_rfl) (by kernel_rfl) (qA (ob_no (by omega)) qZ)
theorem eyB0 (n : Nat) (f : Nat -> It) (B B' : List It) (j : Nat) (hn : n <= 1000000) (hj : j < n) (hB : B.length <= 100000000) (h4 : ((f j).kind != 4) = false) (hrd : 0 <= (f j).ins.rd /\ (f j).ins.rd <= 31) (hlv : pre (isRegB (kOf f j).ins.rd && lvB 3 (kOf f j).n) = true) (w : World) (hG : GlobOk gl9 w) (hin : S2.Sem env9y w 66 (.loop eyCI) (eyI n f j B 0) (some (some 2)) (eyI n f j B' (LD (f j).ins.rd (f j).n).length)) : S2.Sem env9y w 66 eyC (eyS n f B j) none (eyS n f B' (j + 1)) := by
 refine sem_iterP env9y_ok hG (fuel := 1000) (d := 30) (p := eyQB) [⟨eyPI, eyQI, some (some 2), eyI n f j B' (LD (f j).ins.rd (f j).n).length⟩] [true, false, false, false] [(pre (inI ((j : Int) + 1)), true), (pre (isRegB (kOf f j).ins.rd && lvB 3 (kOf f j).n), true), (pre (decide ((j : Int).toNat < n)), true), (pre (decide ((j : Int).toNat < n)), true), (pre (idxB (j : Int) n), true), (decide ((kOf f j).ins.rd > 31), false), (decide ((kOf f j).ins.rd < 0), false), (pre (decide ((j : Int).toNat < n)), true), (pre (decide ((j : Int).toNat < n)), true), (pre (decide ((j : Int).toNat < n)), true), (pre (idxB (j : Int) n), true), ((kOf f j).kind != 4, false), (pre (decide ((j : Int).toNat < n)), true), (pre (decide ((j : Int).toNat < n)), true), (pre (idxB (j : Int) n), true), (decide ((j : Int) < n), true)] [⟨.loop eyCI, eyI n f j B 0, some (some 2), eyI n f j B' (LD (f j).ins.rd (f j).n).length⟩] (by kernel_rfl) (by kernel_rfl) ?_ fun t ht => by obtain rfl := List.mem_singleton.mp ht; exact hin
 rw [qN]
 exact qA (ob_inI (by omega)) <| qA (hlv) <| qA (ob_lt hj) <| qA (ob_lt hj) <| qA (ob_idx (by omega)) <| qA (ob_no (by have := hrd.2; show ¬ (f j).ins.rd > 31; omega)) <| qA (ob_no (by have := hrd.1; show ¬ (f j).ins.rd < 0; omega)) <| qA (ob_lt hj) <| qA (ob_lt hj) <| qA (ob_lt hj) <| qA (ob_idx (by omega)) <| qA (h4) <| qA (ob_lt hj) <| qA (ob_lt hj) <| qA (ob_idx (by omega)) <| qA (ob_yes (by omega)) <| qZ
theorem ey_item (n : Nat) (f : Nat -> It) (B : List It) (j : Nat) (hn : n <= 1000000) (hj : j < n) (hB : B.length <= 100000000) (h4 : ((f j).kind != 4) = true) (w : World) (hG : GlobOk gl9 w) : S2.Sem env9y w 66 eyC (eyS n f B j) none (eyS n f (B ++ [f j]) (j + 1)) :=
 (eyA0 n f B j hn hj hB h4 w hG).same rfl rfl ⟨.refl _, same_app B (f j), trivial⟩ rfl
noncomputable def eyJ (n : Nat) (f : Nat -> It) (j : Nat) (B : List It) (k : Nat) : S2.St := eyI n f j (B ++ ((LD (f j).ins.rd (f j).n).take k).map (mkI (f j).note)) k
theorem eyJ_step (n : Nat) (f : Nat -> It) (B : List It) (j : Nat) (hn : n <= 1000000) (hj : j < n) (hB : B.length <= 90000000) (hL : (LD (f j).ins.rd (f j).n).length <= 8) (k : Nat) (hk : k < (LD (f j).ins.rd (f j).n).length) (w : World) (hG : GlobOk gl9 w) : S2.Sem env9y w 66 eyCI (eyJ n f j B k) none (eyJ n f j B (k + 1)) := by
 have e : ((LD (f j).ins.rd (f j).n).take (k + 1)).map (mkI (f j).note) = ((LD (f j).ins.rd (f j).n).take k).map (mkI (f j).note) ++ [mkI (f j).note (elL (LD (f j).ins.rd (f j).n) k)] := by
   rw [List.take_add_one, List.map_append]
   congr 1
   unfold elL; rw [List.getElem?_eq_getElem hk]; rfl
 unfold eyJ
 rw [e, <- List.append_assoc]
 have hB2 : (B ++ ((LD (f j).ins.rd (f j).n).take k).map (mkI (f j).note)).length <= 100000000 := by rw [List.length_append, List.length_map, List.length_take]; omega
 exact (eyI0 n f _ j k hn hj hB2 hk hL w hG).same rfl rfl ⟨.refl _, same_app _ _, .refl _, trivial⟩ rfl
theorem ey_inner (n : Nat) (f : Nat -> It) (B : List It) (j : Nat) (hn : n <= 1000000) (hj : j < n) (hB : B.length <= 90000000) (hL : (LD (f j).ins.rd (f j).n).length <= 8) (w : World) (hG : GlobOk gl9 w) : S2.Sem env9y w 66 (.loop eyCI) (eyI n f j B 0) (some (some 2)) (eyI n f j (B ++ (LD (f j).ins.rd (f j).n).map (mkI (f j).note)) (LD (f j).ins.rd (f j).n).length) := by
 have e0 : eyJ n f j B 0 = eyI n f j B 0 := by unfold eyJ; rw [List.take_zero, List.map_nil, List.append_nil]
 have e1 : eyJ n f j B (LD (f j).ins.rd (f j).n).length = eyI n f j (B ++ (LD (f j).ins.rd (f j).n).map (mkI (f j).note)) (LD (f j).ins.rd (f j).n).length := by unfold eyJ; rw [List.take_length]
 have := sem_loop (E := env9y) (w0 := base0 w) (nb := 0) (nl := 0) (n := 66) (c := eyCI) (x := some (some 2)) (s' := eyJ n f j B (LD (f j).ins.rd (f j).n).length) (eyJ n f j B) (LD (f j).ins.rd (f j).n).length (by simp) (fun k hk => eyJ_step n f B j hn hj hB hL k hk w hG) (by rw [e1]; exact eyI1 n f _ j w hG)
 rw [e0, e1] at this
 exact this
theorem ey_step (n : Nat) (f : Nat -> It) (hn : n <= 1000000) (hc : ∀ j, j < n -> ((f j).kind != 4) = false -> (0 <= (f j).ins.rd /\ (f j).ins.rd <= 31) /\ isI (f j).n) (j : Nat) (hj : j < n) (w : World) (hG : GlobOk gl9 w) : S2.Sem env9y w 66 eyC (eyS n f (xpL f j) j) none (eyS n f (xpL f (j + 1)) (j + 1)) := by
 have hB : (xpL f j).length <= 90000000 := Nat.le_trans (xpL_len f j) (by omega)
 cases h4 : (f j).kind != 4
 . obtain ⟨hrd, hI⟩ := hc j hj h4
   have hlv : (isRegB (f j).ins.rd && lvB 3 (f j).n) = true := by
     rw [lvB_top hI 3 (Nat.le_refl _), Bool.and_true]
     unfold isRegB; rw [decide_eq_true hrd.1, decide_eq_true hrd.2]; rfl
   have hL : (LD (f j).ins.rd (f j).n).length <= 8 := ldL_len (Nat.le_refl _) _ _
   have e : xpL f (j + 1) = xpL f j ++ (LD (f j).ins.rd (f j).n).map (mkI (f j).note) := by
     show xpL f j ++ xpd (f j) = _
     unfold xpd; rw [show ((f j).kind == 4) = true by simpa using h4]; rfl
   rw [e]
   exact eyB0 n f (xpL f j) _ j hn hj (by omega) h4 hrd hlv w hG (ey_inner n f (xpL f j) j hn hj hB hL w hG)
 . have e : xpL f (j + 1) = xpL f j ++ [f j] := by
     show xpL f j ++ xpd (f j) = _
     unfold xpd; rw [show ((f j).kind == 4) = false by simpa using h4]; rfl
   rw [e]
   exact ey_item n f (xpL f j) j hn hj (by omega) h4 w hG
theorem ey_ret (n : Nat) (f : Nat -> It) (hn : n <= 1000000) (hc : ∀ j, j < n -> ((f j).kind != 4) = false -> (0 <= (f j).ins.rd /\ (f j).ins.rd <= 31) /\ isI (f j).n) (w : World) (hG : GlobOk gl9 w) (vals : List Value) (ha : ArgsOk w [.inr (itE n f)] vals) : LRet Tryd.prog 22 vals false [.inr (itsE (xpL f n))] w := by
 refine fn_ok env9y_ok (fuel := 1000) (d := 30) (plan := [⟨eyP, eyQ0, some (some 0), eyS n f (xpL f n) n⟩]) (orc := []) (fls := [[]]) (l := []) (tr := [⟨.loop eyC, eyS n f (xpL f 0) 0, some (some 0), eyS n f (xpL f n) n⟩]) (by kernel_rfl) qZ Tryd.func22 w vals hG ha fun t ht => ?_
 obtain rfl := List.mem_singleton.mp ht
 exact sem_loop (fun j => eyS n f (xpL f j) j) n (by simp) (fun j hj => ey_step n f hn hc j hj w hG) (ey1 n f _ w hG)
end Go.Proofs.YtilljoemebbnjaaDoor
