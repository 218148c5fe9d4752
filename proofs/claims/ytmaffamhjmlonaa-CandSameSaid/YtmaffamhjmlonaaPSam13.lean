/- Layer 13: package cand: Same. -/
import Derived.Test.YtmaffamhjmlonaaPExi13
set_option linter.unusedVariables false
set_option linter.unusedSimpArgs false
namespace Go.Proofs.Ytmaffamhjmlonaa
open Go.RowKit Sim S2
def eaP : List Nat := [0, 1, 0, 1, 1]
noncomputable def eaK : Code := codeAt (codeOf Try.prog 34) (0 :: eaP)
def eaS (v u : Value) (n i : Nat) : S2.St := { tmps := [(0, .inl ([true], v)), (1, .inl ([true], u)), (12, .inl ([true], .int .i64 n)), (13, .inl ([true], .int .i64 i))], own := ⟨[], []⟩, lo := 0, llo := 0, mem := true, orc := [], obl := [] }
def eaQ : Pick := { ts := [0, 1, 12, 13], bs := [], ls := [], opn := [0, 1, 13] }
def eaZ : Pick := { ts := [4], bs := [], ls := [] }
def eaF : S2.St := { tmps := [(4, .inl ([], .bool false))], own := ⟨[], []⟩, lo := 0, llo := 0, mem := true, orc := [], obl := [] }
theorem ea_step (gl : Gl) (va ua : Option Addr) (n m vc uc : Nat) (hn : n <= 9223372036854775807) (hv : rowG gl (.slice va n vc) (rcE gl (.slice va n vc))) (hu : rowG gl (.slice ua m uc) (rcE gl (.slice ua m uc)))  (i : Nat) (hi : i < n) (hm : i < m) (h : (eqC gl (.slice va n vc) (.slice ua m uc)) i = true) (w : World) (hG : GlobOk gl w) : S2.Sem (enD0 gl) w 26 eaK (eaS (.slice va n vc) (.slice ua m uc) n i) none (eaS (.slice va n vc) (.slice ua m uc) n (i + 1)) := by
 refine sem_iter (enD0_ok gl) hG (p := eaQ) (fuel := 1000) [true, false] [(pre (inI ((i : Int) + 1)), true), (!((rcG gl (.slice va n vc) i).pc == (rcG gl (.slice ua m uc) i).pc && ((rcG gl (.slice va n vc) i).val == (rcG gl (.slice ua m uc) i).val && ((rcG gl (.slice va n vc) i).sh == (rcG gl (.slice ua m uc) i).sh && ((rcG gl (.slice va n vc) i).sa == (rcG gl (.slice ua m uc) i).sa && true) && ((rcG gl (.slice va n vc) i).wt == (rcG gl (.slice ua m uc) i).wt && ((rcG gl (.slice va n vc) i).fl == (rcG gl (.slice ua m uc) i).fl && true))))), false), (pre (rowB gl (.slice ua m uc) (rcE gl (.slice ua m uc))), true), (pre (decide (i < m)), true), (pre (rowB gl (.slice ua m uc) (rcE gl (.slice ua m uc))), true), (pre (idxB ((i : Int)) m), true), (pre (rowB gl (.slice va n vc) (rcE gl (.slice va n vc))), true), (pre (decide (i < n)), true), (pre (rowB gl (.slice va n vc) (rcE gl (.slice va n vc))), true), (pre (idxB ((i : Int)) n), true), (decide ((i : Int) < (n : Int)), true)] (by kernel_rfl) (by kernel_rfl) ?_
 refine qF ?_ ?_ ?_ ?_ <| qF ?_ ?_ ?_ ?_ <| qA ?_ <| qA ?_ <| qA ?_ <| qZ
 . exact ob_inI (by omega)
 . unfold eqC at h; rw [h]; rfl
 . exact rowB_ok.mpr (by first | assumption | exact (hr _ (by omega)).1 | exact hs _ (by omega))
 . exact ob_lt (by omega)
 . exact rowB_ok.mpr (by first | assumption | exact (hr _ (by omega)).1 | exact hs _ (by omega))
 . exact ob_idx (by omega)
 . exact rowB_ok.mpr (by first | assumption | exact (hr _ (by omega)).1 | exact hs _ (by omega))
 . exact ob_lt (by omega)
 . exact rowB_ok.mpr (by first | assumption | exact (hr _ (by omega)).1 | exact hs _ (by omega))
 . exact ob_idx (by omega)
 . exact ob_yes (by omega)
theorem ea_out (gl : Gl) (va ua : Option Addr) (n m vc uc : Nat) (hn : n <= 9223372036854775807) (hv : rowG gl (.slice va n vc) (rcE gl (.slice va n vc))) (hu : rowG gl (.slice ua m uc) (rcE gl (.slice ua m uc)))  (i : Nat) (hi : i < n) (hm : i < m) (h : (eqC gl (.slice va n vc) (.slice ua m uc)) i = false) (w : World) (hG : GlobOk gl w) : S2.Sem (enD0 gl) w 26 eaK (eaS (.slice va n vc) (.slice ua m uc) n i) (some none) (eaF) := by
 refine sem_iter (enD0_ok gl) hG (p := eaZ) (fuel := 1000) [true, true] [(!((rcG gl (.slice va n vc) i).pc == (rcG gl (.slice ua m uc) i).pc && ((rcG gl (.slice va n vc) i).val == (rcG gl (.slice ua m uc) i).val && ((rcG gl (.slice va n vc) i).sh == (rcG gl (.slice ua m uc) i).sh && ((rcG gl (.slice va n vc) i).sa == (rcG gl (.slice ua m uc) i).sa && true) && ((rcG gl (.slice va n vc) i).wt == (rcG gl (.slice ua m uc) i).wt && ((rcG gl (.slice va n vc) i).fl == (rcG gl (.slice ua m uc) i).fl && true))))), true), (pre (rowB gl (.slice ua m uc) (rcE gl (.slice ua m uc))), true), (pre (decide (i < m)), true), (pre (rowB gl (.slice ua m uc) (rcE gl (.slice ua m uc))), true), (pre (idxB ((i : Int)) m), true), (pre (rowB gl (.slice va n vc) (rcE gl (.slice va n vc))), true), (pre (decide (i < n)), true), (pre (rowB gl (.slice va n vc) (rcE gl (.slice va n vc))), true), (pre (idxB ((i : Int)) n), true), (decide ((i : Int) < (n : Int)), true)] (by kernel_rfl) (by kernel_rfl) ?_
 refine qF ?_ ?_ ?_ ?_ <| qF ?_ ?_ ?_ ?_ <| qA ?_ <| qA ?_ <| qZ
 . unfold eqC at h; rw [h]; rfl
 . exact rowB_ok.mpr (by first | assumption | exact (hr _ (by omega)).1 | exact hs _ (by omega))
 . exact ob_lt (by omega)
 . exact rowB_ok.mpr (by first | assumption | exact (hr _ (by omega)).1 | exact hs _ (by omega))
 . exact ob_idx (by omega)
 . exact rowB_ok.mpr (by first | assumption | exact (hr _ (by omega)).1 | exact hs _ (by omega))
 . exact ob_lt (by omega)
 . exact rowB_ok.mpr (by first | assumption | exact (hr _ (by omega)).1 | exact hs _ (by omega))
 . exact ob_idx (by omega)
 . exact ob_yes (by omega)
theorem ea_end (gl : Gl) (va ua : Option Addr) (n m vc uc : Nat) (hn : n <= 9223372036854775807) (hv : rowG gl (.slice va n vc) (rcE gl (.slice va n vc))) (hu : rowG gl (.slice ua m uc) (rcE gl (.slice ua m uc)))  (i : Nat) (hi : n <= i) (w : World) (hG : GlobOk gl w) : S2.Sem (enD0 gl) w 26 eaK (eaS (.slice va n vc) (.slice ua m uc) n i) (some (some 0)) (eaS (.slice va n vc) (.slice ua m uc) n i) := by
 refine sem_iter (enD0_ok gl) hG (p := eaQ) (fuel := 1000) [false] [(decide ((i : Int) < (n : Int)), false)] (by kernel_rfl) (by kernel_rfl) ?_
 refine qA ?_ <| qZ
 . exact ob_no (by omega)
theorem ea_ret {gl : Gl} (va ua : Option Addr) (n m vc uc : Nat) (hn : n <= 9223372036854775807) (hv : rowG gl (.slice va n vc) (rcE gl (.slice va n vc))) (hu : rowG gl (.slice ua m uc) (rcE gl (.slice ua m uc)))  (w : World) (hG : GlobOk gl w) : Ret Try.prog 34 #[.slice va n vc, .slice ua m uc] (.bool (Nat.beq n m && Nat.beq (skipN (eqC gl (.slice va n vc) (.slice ua m uc)) n 0) n)) w := by
 refine LRet.plain (?_ : LRet Try.prog 34 [.slice va n vc, .slice ua m uc] false [.inl (.bool _)] w)
 have ha : ArgsOk w [.inl (.slice va n vc), .inl (.slice ua m uc)] [.slice va n vc, .slice ua m uc] := ⟨rfl, rfl, trivial⟩
 by_cases hnm : n = m
 . rw [show Nat.beq n m = true from by rw [hnm]; exact Nat.beq_refl _, Bool.true_and]
   have g2 := skipN_all (eqC gl (.slice va n vc) (.slice ua m uc)) n 0
   have g4 := skipN_le (eqC gl (.slice va n vc) (.slice ua m uc)) n 0
   have g3 := @skipN_hit (eqC gl (.slice va n vc) (.slice ua m uc)) n 0
   generalize hs0 : skipN (eqC gl (.slice va n vc) (.slice ua m uc)) n 0 = s at *
   by_cases h : s = n
   . rw [show Nat.beq s n = true from by rw [h]; exact Nat.beq_refl _]
     have hl := sem_loop (E := enD0 gl) (w0 := base0 w) (nb := 0) (nl := 0) (n := 26) (c := eaK) (x := some (some 0)) (s' := eaS (.slice va n vc) (.slice ua m uc) n n) (fun i => eaS (.slice va n vc) (.slice ua m uc) n i) n (by simp) (fun i hi => ea_step gl va ua n m vc uc hn hv hu i hi (by omega) (g2 i (by omega) (by omega)) w hG) (ea_end gl va ua n m vc uc hn hv hu n (by omega) w hG)
     refine fn_ok (enD0_ok gl) (fuel := 1000) (d := 30) (plan := [⟨eaP, eaQ, some (some 0), eaS (.slice va n vc) (.slice ua m uc) n n⟩]) (orc := [false]) (fls := [[true], [true]]) (l := [(pre (rowB gl (.slice va n vc) (rcE gl (.slice va n vc))), true), ((n : Int) != (m : Int), false), (pre (rowB gl (.slice ua m uc) (rcE gl (.slice ua m uc))), true), (pre (rowB gl (.slice va n vc) (rcE gl (.slice va n vc))), true)]) (tr := [⟨.loop eaK, eaS (.slice va n vc) (.slice ua m uc) n 0, some (some 0), eaS (.slice va n vc) (.slice ua m uc) n n⟩]) (by kernel_rfl) ?_ Try.func34 w _ hG ha fun t ht => ?_
     . refine qF ?_ ?_ ?_ ?_ <| qZ
       . exact rowB_ok.mpr (by assumption)
       . rw [hnm]; simp
       . exact rowB_ok.mpr (by assumption)
       . exact rowB_ok.mpr (by assumption)
     . obtain rfl := List.mem_singleton.mp ht
       exact hl
   . rw [show Nat.beq s n = false from by rw [<- Bool.not_eq_true]; exact fun hb => h (qB hb)]
     have hl := sem_loop (E := enD0 gl) (w0 := base0 w) (nb := 0) (nl := 0) (n := 26) (c := eaK) (x := some none) (s' := eaF) (fun i => eaS (.slice va n vc) (.slice ua m uc) n i) s (by simp) (fun i hi => ea_step gl va ua n m vc uc hn hv hu i (by omega) (by omega) (g2 i (by omega) hi) w hG) (ea_out gl va ua n m vc uc hn hv hu s (by omega) (by omega) (g3 (by omega)) w hG)
     refine fn_ok (enD0_ok gl) (fuel := 1000) (d := 30) (plan := [⟨eaP, eaQ, some none, eaF⟩]) (orc := [false]) (fls := [[true], [true]]) (l := [(pre (rowB gl (.slice va n vc) (rcE gl (.slice va n vc))), true), ((n : Int) != (m : Int), false), (pre (rowB gl (.slice ua m uc) (rcE gl (.slice ua m uc))), true), (pre (rowB gl (.slice va n vc) (rcE gl (.slice va n vc))), true)]) (tr := [⟨.loop eaK, eaS (.slice va n vc) (.slice ua m uc) n 0, some none, eaF⟩]) (by kernel_rfl) ?_ Try.func34 w _ hG ha fun t ht => ?_
     . refine qF ?_ ?_ ?_ ?_ <| qZ
       . exact rowB_ok.mpr (by assumption)
       . rw [hnm]; simp
       . exact rowB_ok.mpr (by assumption)
       . exact rowB_ok.mpr (by assumption)
     . obtain rfl := List.mem_singleton.mp ht
       exact hl
 . rw [show Nat.beq n m = false from by rw [<- Bool.not_eq_true]; exact fun hb => hnm (qB hb), Bool.false_and]
   refine fn_ok (enD0_ok gl) (fuel := 1000) (d := 30) (plan := []) (orc := [true]) (fls := [[true], [true]]) (l := [((n : Int) != (m : Int), true), (pre (rowB gl (.slice ua m uc) (rcE gl (.slice ua m uc))), true), (pre (rowB gl (.slice va n vc) (rcE gl (.slice va n vc))), true)]) (tr := []) (by kernel_rfl) ?_ Try.func34 w _ hG ha fun t ht => ?_
   . refine qA ?_ <| qA ?_ <| qA ?_ <| qZ
     . rw [bne_iff_ne]; omega
     . exact rowB_ok.mpr (by assumption)
     . exact rowB_ok.mpr (by assumption)
   . cases ht
noncomputable def eqcB (gl : Gl) (v u : Value) : Bool := Nat.beq (lenV v) (lenV u) && Nat.beq (hartN gl v u) (lenV v)
theorem eqcZ_ex : ∃ f : Gl -> Value -> Value -> Bool, ∀ gl v u, f gl v u = eqcB gl v u := ⟨_, fun _ _ _ => rfl⟩
noncomputable def eqcZ : Gl -> Value -> Value -> Bool := Classical.choose eqcZ_ex
theorem eqcZ_eq (gl : Gl) (v u : Value) : eqcZ gl v u = eqcB gl v u := Classical.choose_spec eqcZ_ex gl v u
noncomputable def rcsOk (gl : Gl) (v : Value) : Prop := rowG gl v (rcE gl v) /\ lenV v <= 9223372036854775807
noncomputable def pEqc (gl : Gl) : PTab := prowD 34 fun l => match decVV l with
 | some x => some (.bool (eqcZ gl x.1 x.2), pre (propB (rcsOk gl x.1 /\ rowG gl x.2 (rcE gl x.2))))
 | none => none
theorem pEqc_ok {gl : Gl} : PTabOk Try.prog gl (pEqc gl) := .rowD fun args v h w hG => by
 split at h
 . rename_i x hd
   simp only [qS, qP] at h
   obtain ⟨rfl, hp⟩ := h
   obtain ⟨a, n, c, b, m, d, rfl, rfl⟩ := decVV_eq _ _ hd
   obtain ⟨⟨h1, h2⟩, h3⟩ := propB_ok.mp hp
   rw [eqcZ_eq]
   exact ea_ret a b n m c d h2 h1 h3 w hG
 . cases h
def ebP : List Nat := [0, 1, 0, 1, 1]
noncomputable def ebK : Code := codeAt (codeOf Try.prog 52) (0 :: ebP)
def ebS (v u : Value) (n i : Nat) : S2.St := { tmps := [(0, .inl ([true], v)), (1, .inl ([true], u)), (12, .inl ([true], .int .i64 n)), (13, .inl ([true], .int .i64 i))], own := ⟨[], []⟩, lo := 0, llo := 0, mem := true, orc := [], obl := [] }
def ebQ : Pick := { ts := [0, 1, 12, 13], bs := [], ls := [], opn := [0, 1, 13] }
def ebZ : Pick := { ts := [4], bs := [], ls := [] }
def ebF : S2.St := { tmps := [(4, .inl ([], .bool false))], own := ⟨[], []⟩, lo := 0, llo := 0, mem := true, orc := [], obl := [] }
theorem eb_step (gl : Gl) (va ua : Option Addr) (n m vc uc : Nat) (hn : n <= 9223372036854775807) (hv : rowG gl (.slice va n vc) (rfE gl (.slice va n vc))) (hu : rowG gl (.slice ua m uc) (rfE gl (.slice ua m uc)))  (i : Nat) (hi : i < n) (hm : i < m) (h : (eqR gl (.slice va n vc) (.slice ua m uc)) i = true) (w : World) (hG : GlobOk gl w) : S2.Sem (enD0 gl) w 26 ebK (ebS (.slice va n vc) (.slice ua m uc) n i) none (ebS (.slice va n vc) (.slice ua m uc) n (i + 1)) := by
 refine sem_iter (enD0_ok gl) hG (p := ebQ) (fuel := 1000) [true, false] [(pre (inI ((i : Int) + 1)), true), (!((rfG gl (.slice va n vc) i).h == (rfG gl (.slice ua m uc) i).h && ((rfG gl (.slice va n vc) i).a == (rfG gl (.slice ua m uc) i).a && true)), false), (pre (rowB gl (.slice ua m uc) (rfE gl (.slice ua m uc))), true), (pre (decide (i < m)), true), (pre (rowB gl (.slice ua m uc) (rfE gl (.slice ua m uc))), true), (pre (idxB ((i : Int)) m), true), (pre (rowB gl (.slice va n vc) (rfE gl (.slice va n vc))), true), (pre (decide (i < n)), true), (pre (rowB gl (.slice va n vc) (rfE gl (.slice va n vc))), true), (pre (idxB ((i : Int)) n), true), (decide ((i : Int) < (n : Int)), true)] (by kernel_rfl) (by kernel_rfl) ?_
 refine qF ?_ ?_ ?_ ?_ <| qF ?_ ?_ ?_ ?_ <| qA ?_ <| qA ?_ <| qA ?_ <| qZ
 . exact ob_inI (by omega)
 . unfold eqR at h; rw [h]; rfl
 . exact rowB_ok.mpr (by first | assumption | exact (hr _ (by omega)).1 | exact hs _ (by omega))
 . exact ob_lt (by omega)
 . exact rowB_ok.mpr (by first | assumption | exact (hr _ (by omega)).1 | exact hs _ (by omega))
 . exact ob_idx (by omega)
 . exact rowB_ok.mpr (by first | assumption | exact (hr _ (by omega)).1 | exact hs _ (by omega))
 . exact ob_lt (by omega)
 . exact rowB_ok.mpr (by first | assumption | exact (hr _ (by omega)).1 | exact hs _ (by omega))
 . exact ob_idx (by omega)
 . exact ob_yes (by omega)
theorem eb_out (gl : Gl) (va ua : Option Addr) (n m vc uc : Nat) (hn : n <= 9223372036854775807) (hv : rowG gl (.slice va n vc) (rfE gl (.slice va n vc))) (hu : rowG gl (.slice ua m uc) (rfE gl (.slice ua m uc)))  (i : Nat) (hi : i < n) (hm : i < m) (h : (eqR gl (.slice va n vc) (.slice ua m uc)) i = false) (w : World) (hG : GlobOk gl w) : S2.Sem (enD0 gl) w 26 ebK (ebS (.slice va n vc) (.slice ua m uc) n i) (some none) (ebF) := by
 refine sem_iter (enD0_ok gl) hG (p := ebZ) (fuel := 1000) [true, true] [(!((rfG gl (.slice va n vc) i).h == (rfG gl (.slice ua m uc) i).h && ((rfG gl (.slice va n vc) i).a == (rfG gl (.slice ua m uc) i).a && true)), true), (pre (rowB gl (.slice ua m uc) (rfE gl (.slice ua m uc))), true), (pre (decide (i < m)), true), (pre (rowB gl (.slice ua m uc) (rfE gl (.slice ua m uc))), true), (pre (idxB ((i : Int)) m), true), (pre (rowB gl (.slice va n vc) (rfE gl (.slice va n vc))), true), (pre (decide (i < n)), true), (pre (rowB gl (.slice va n vc) (rfE gl (.slice va n vc))), true), (pre (idxB ((i : Int)) n), true), (decide ((i : Int) < (n : Int)), true)] (by kernel_rfl) (by kernel_rfl) ?_
 refine qF ?_ ?_ ?_ ?_ <| qF ?_ ?_ ?_ ?_ <| qA ?_ <| qA ?_ <| qZ
 . unfold eqR at h; rw [h]; rfl
 . exact rowB_ok.mpr (by first | assumption | exact (hr _ (by omega)).1 | exact hs _ (by omega))
 . exact ob_lt (by omega)
 . exact rowB_ok.mpr (by first | assumption | exact (hr _ (by omega)).1 | exact hs _ (by omega))
 . exact ob_idx (by omega)
 . exact rowB_ok.mpr (by first | assumption | exact (hr _ (by omega)).1 | exact hs _ (by omega))
 . exact ob_lt (by omega)
 . exact rowB_ok.mpr (by first | assumption | exact (hr _ (by omega)).1 | exact hs _ (by omega))
 . exact ob_idx (by omega)
 . exact ob_yes (by omega)
theorem eb_end (gl : Gl) (va ua : Option Addr) (n m vc uc : Nat) (hn : n <= 9223372036854775807) (hv : rowG gl (.slice va n vc) (rfE gl (.slice va n vc))) (hu : rowG gl (.slice ua m uc) (rfE gl (.slice ua m uc)))  (i : Nat) (hi : n <= i) (w : World) (hG : GlobOk gl w) : S2.Sem (enD0 gl) w 26 ebK (ebS (.slice va n vc) (.slice ua m uc) n i) (some (some 0)) (ebS (.slice va n vc) (.slice ua m uc) n i) := by
 refine sem_iter (enD0_ok gl) hG (p := ebQ) (fuel := 1000) [false] [(decide ((i : Int) < (n : Int)), false)] (by kernel_rfl) (by kernel_rfl) ?_
 refine qA ?_ <| qZ
 . exact ob_no (by omega)
theorem eb_ret {gl : Gl} (va ua : Option Addr) (n m vc uc : Nat) (hn : n <= 9223372036854775807) (hv : rowG gl (.slice va n vc) (rfE gl (.slice va n vc))) (hu : rowG gl (.slice ua m uc) (rfE gl (.slice ua m uc)))  (w : World) (hG : GlobOk gl w) : Ret Try.prog 52 #[.slice va n vc, .slice ua m uc] (.bool (Nat.beq n m && Nat.beq (skipN (eqR gl (.slice va n vc) (.slice ua m uc)) n 0) n)) w := by
 refine LRet.plain (?_ : LRet Try.prog 52 [.slice va n vc, .slice ua m uc] false [.inl (.bool _)] w)
 have ha : ArgsOk w [.inl (.slice va n vc), .inl (.slice ua m uc)] [.slice va n vc, .slice ua m uc] := ⟨rfl, rfl, trivial⟩
 by_cases hnm : n = m
 . rw [show Nat.beq n m = true from by rw [hnm]; exact Nat.beq_refl _, Bool.true_and]
   have g2 := skipN_all (eqR gl (.slice va n vc) (.slice ua m uc)) n 0
   have g4 := skipN_le (eqR gl (.slice va n vc) (.slice ua m uc)) n 0
   have g3 := @skipN_hit (eqR gl (.slice va n vc) (.slice ua m uc)) n 0
   generalize hs0 : skipN (eqR gl (.slice va n vc) (.slice ua m uc)) n 0 = s at *
   by_cases h : s = n
   . rw [show Nat.beq s n = true from by rw [h]; exact Nat.beq_refl _]
     have hl := sem_loop (E := enD0 gl) (w0 := base0 w) (nb := 0) (nl := 0) (n := 26) (c := ebK) (x := some (some 0)) (s' := ebS (.slice va n vc) (.slice ua m uc) n n) (fun i => ebS (.slice va n vc) (.slice ua m uc) n i) n (by simp) (fun i hi => eb_step gl va ua n m vc uc hn hv hu i hi (by omega) (g2 i (by omega) (by omega)) w hG) (eb_end gl va ua n m vc uc hn hv hu n (by omega) w hG)
     refine fn_ok (enD0_ok gl) (fuel := 1000) (d := 30) (plan := [⟨ebP, ebQ, some (some 0), ebS (.slice va n vc) (.slice ua m uc) n n⟩]) (orc := [false]) (fls := [[true], [true]]) (l := [(pre (rowB gl (.slice va n vc) (rfE gl (.slice va n vc))), true), ((n : Int) != (m : Int), false), (pre (rowB gl (.slice ua m uc) (rfE gl (.slice ua m uc))), true), (pre (rowB gl (.slice va n vc) (rfE gl (.slice va n vc))), true)]) (tr := [⟨.loop ebK, ebS (.slice va n vc) (.slice ua m uc) n 0, some (some 0), ebS (.slice va n vc) (.slice ua m uc) n n⟩]) (by kernel_rfl) ?_ Try.func52 w _ hG ha fun t ht => ?_
     . refine qF ?_ ?_ ?_ ?_ <| qZ
       . exact rowB_ok.mpr (by assumption)
       . rw [hnm]; simp
       . exact rowB_ok.mpr (by assumption)
       . exact rowB_ok.mpr (by assumption)
     . obtain rfl := List.mem_singleton.mp ht
       exact hl
   . rw [show Nat.beq s n = false from by rw [<- Bool.not_eq_true]; exact fun hb => h (qB hb)]
     have hl := sem_loop (E := enD0 gl) (w0 := base0 w) (nb := 0) (nl := 0) (n := 26) (c := ebK) (x := some none) (s' := ebF) (fun i => ebS (.slice va n vc) (.slice ua m uc) n i) s (by simp) (fun i hi => eb_step gl va ua n m vc uc hn hv hu i (by omega) (by omega) (g2 i (by omega) hi) w hG) (eb_out gl va ua n m vc uc hn hv hu s (by omega) (by omega) (g3 (by omega)) w hG)
     refine fn_ok (enD0_ok gl) (fuel := 1000) (d := 30) (plan := [⟨ebP, ebQ, some none, ebF⟩]) (orc := [false]) (fls := [[true], [true]]) (l := [(pre (rowB gl (.slice va n vc) (rfE gl (.slice va n vc))), true), ((n : Int) != (m : Int), false), (pre (rowB gl (.slice ua m uc) (rfE gl (.slice ua m uc))), true), (pre (rowB gl (.slice va n vc) (rfE gl (.slice va n vc))), true)]) (tr := [⟨.loop ebK, ebS (.slice va n vc) (.slice ua m uc) n 0, some none, ebF⟩]) (by kernel_rfl) ?_ Try.func52 w _ hG ha fun t ht => ?_
     . refine qF ?_ ?_ ?_ ?_ <| qZ
       . exact rowB_ok.mpr (by assumption)
       . rw [hnm]; simp
       . exact rowB_ok.mpr (by assumption)
       . exact rowB_ok.mpr (by assumption)
     . obtain rfl := List.mem_singleton.mp ht
       exact hl
 . rw [show Nat.beq n m = false from by rw [<- Bool.not_eq_true]; exact fun hb => hnm (qB hb), Bool.false_and]
   refine fn_ok (enD0_ok gl) (fuel := 1000) (d := 30) (plan := []) (orc := [true]) (fls := [[true], [true]]) (l := [((n : Int) != (m : Int), true), (pre (rowB gl (.slice ua m uc) (rfE gl (.slice ua m uc))), true), (pre (rowB gl (.slice va n vc) (rfE gl (.slice va n vc))), true)]) (tr := []) (by kernel_rfl) ?_ Try.func52 w _ hG ha fun t ht => ?_
   . refine qA ?_ <| qA ?_ <| qA ?_ <| qZ
     . rw [bne_iff_ne]; omega
     . exact rowB_ok.mpr (by assumption)
     . exact rowB_ok.mpr (by assumption)
   . cases ht
noncomputable def pEqr (gl : Gl) : PTab := prowD 52 fun l => match decVV l with
 | some x => some (.bool (refsZ gl x.1 x.2), pre (propB (rfsOk gl x.1 /\ rowG gl x.2 (rfE gl x.2))))
 | none => none
theorem pEqr_ok {gl : Gl} : PTabOk Try.prog gl (pEqr gl) := .rowD fun args v h w hG => by
 split at h
 . rename_i x hd
   simp only [qS, qP] at h
   obtain ⟨rfl, hp⟩ := h
   obtain ⟨a, n, c, b, m, d, rfl, rfl⟩ := decVV_eq _ _ hd
   obtain ⟨⟨h1, h2⟩, h3⟩ := propB_ok.mp hp
   rw [refsZ_eq]
   exact eb_ret a b n m c d h2 h1 h3 w hG
 . cases h
noncomputable def enR (gl : Gl) : S2.Env := enD gl noT (pEqr gl) noL
theorem enR_ok (gl : Gl) : CallOk (enR gl) := enD_ok (.none _ _) pEqr_ok (.none _ _)
noncomputable def enQ (gl : Gl) : S2.Env := enD gl noT (pEqc gl) noL
theorem enQ_ok (gl : Gl) : CallOk (enQ gl) := enD_ok (.none _ _) pEqc_ok (.none _ _)
theorem sameRow_ret {gl : Gl} (va ua : Option Addr) (n m vc uc : Nat) (x y : Int) (hn : n <= 9223372036854775807) (hv : rowG gl (.slice va n vc) (rfE gl (.slice va n vc))) (hu : rowG gl (.slice ua m uc) (rfE gl (.slice ua m uc))) (w : World) (hG : GlobOk gl w) : Ret Try.prog 36 #[.agg #[.int .i64 x, .slice va n vc], .agg #[.int .i64 y, .slice ua m uc]] (.bool (x == y && refsZ gl (.slice va n vc) (.slice ua m uc))) w := by
 have ha : ArgsOk w [.inl (.agg #[.int .i64 x, .slice va n vc]), .inl (.agg #[.int .i64 y, .slice ua m uc])] [.agg #[.int .i64 x, .slice va n vc], .agg #[.int .i64 y, .slice ua m uc]] := ⟨rfl, rfl, trivial⟩
 refine LRet.plain (?_ : LRet Try.prog 36 [.agg #[.int .i64 x, .slice va n vc], .agg #[.int .i64 y, .slice ua m uc]] false [.inl (.bool _)] w)
 cases h : (x == y)
 case' false =>
   refine fn_ok (enR_ok gl) (fuel := 1000) (d := 30) (plan := []) (orc := [false]) (fls := [[true, true], [true, true]]) (l := [(x == y, false)]) (tr := []) (by kernel_rfl) ?_ Try.func36 w _ hG ha fun t ht => by cases ht
   refine qA ?_ <| qZ
   . exact h
 case' true =>
   refine fn_ok (enR_ok gl) (fuel := 1000) (d := 30) (plan := []) (orc := [true]) (fls := [[true, true], [true, true]]) (l := [(pre (propB (rfsOk gl (.slice va n vc) /\ rowG gl (.slice ua m uc) (rfE gl (.slice ua m uc)))), true), (x == y, true)]) (tr := []) (by kernel_rfl) ?_ Try.func36 w _ hG ha fun t ht => by cases ht
   refine qA ?_ <| qA ?_ <| qZ
   . exact propB_ok.mpr ⟨⟨hv, hn⟩, hu⟩
   . exact h
noncomputable def pSrow (gl : Gl) : PTab := prowD 36 fun l => match l with
 | [.agg ⟨[.int .i64 x, .slice va n vc]⟩, .agg ⟨[.int .i64 y, .slice ua m uc]⟩] => some (.bool (x == y && refsZ gl (.slice va n vc) (.slice ua m uc)), pre (propB (rfsOk gl (.slice va n vc) /\ rowG gl (.slice ua m uc) (rfE gl (.slice ua m uc)))))
 | _ => none
theorem pSrow_ok {gl : Gl} : PTabOk Try.prog gl (pSrow gl) := .rowD fun args v h w hG => by
 split at h
 . simp only [qS, qP] at h
   obtain ⟨rfl, hp⟩ := h
   obtain ⟨⟨h1, h2⟩, h3⟩ := propB_ok.mp hp
   exact sameRow_ret _ _ _ _ _ _ _ _ h2 h1 h3 w hG
 . cases h
noncomputable def enW13 (gl : Gl) : S2.Env := enD gl noT (pSrow gl) noL
theorem enW13_ok (gl : Gl) : CallOk (enW13 gl) := enD_ok (.none _ _) pSrow_ok (.none _ _)
def edP : List Nat := [0, 1, 0, 1, 1]
noncomputable def edK : Code := codeAt (codeOf Try.prog 33) (0 :: edP)
def edS (v u : Value) (n i : Nat) : S2.St := { tmps := [(0, .inl ([true], v)), (1, .inl ([true], u)), (2, .inl ([], fnV 34)), (15, .inl ([true], v)), (16, .inl ([true], .int .i64 n)), (17, .inl ([true], .int .i64 i))], own := ⟨[], []⟩, lo := 0, llo := 0, mem := true, orc := [], obl := [] }
def edQ : Pick := { ts := [0, 1, 2, 15, 16, 17], bs := [], ls := [], opn := [0, 1, 17] }
def edZ : Pick := { ts := [6], bs := [], ls := [] }
def edF : S2.St := { tmps := [(6, .inl ([], .bool false))], own := ⟨[], []⟩, lo := 0, llo := 0, mem := true, orc := [], obl := [] }
theorem ed_step (gl : Gl) (va ua : Option Addr) (n m vc uc : Nat) (hn : n <= 9223372036854775807) (hv : rowG gl (.slice va n vc) (hsE gl (.slice va n vc))) (hu : rowG gl (.slice ua m uc) (hsE gl (.slice ua m uc))) (hr : ∀ i, i < n -> rcsOk gl (slG gl (.slice va n vc) 1 0 i)) (hs : ∀ i, i < m -> rowG gl (slG gl (.slice ua m uc) 1 0 i) (rcE gl (slG gl (.slice ua m uc) 1 0 i))) (i : Nat) (hi : i < n) (hm : i < m) (h : (fun i => eqcZ gl (slG gl (.slice va n vc) 1 0 i) (slG gl (.slice ua m uc) 1 0 i)) i = true) (w : World) (hG : GlobOk gl w) : S2.Sem (enQ gl) w 32 edK (edS (.slice va n vc) (.slice ua m uc) n i) none (edS (.slice va n vc) (.slice ua m uc) n (i + 1)) := by
 refine sem_iter (enQ_ok gl) hG (p := edQ) (fuel := 1000) [true, false] [(pre (inI ((i : Int) + 1)), true), (!eqcZ gl (Value.slice (slA gl (.slice va n vc) 1 0 i) (slN gl (.slice va n vc) 1 0 i) (slC gl (.slice va n vc) 1 0 i)) (Value.slice (slA gl (.slice ua m uc) 1 0 i) (slN gl (.slice ua m uc) 1 0 i) (slC gl (.slice ua m uc) 1 0 i)), false), (pre (propB (rcsOk gl (Value.slice (slA gl (.slice va n vc) 1 0 i) (slN gl (.slice va n vc) 1 0 i) (slC gl (.slice va n vc) 1 0 i)) /\ rowG gl (Value.slice (slA gl (.slice ua m uc) 1 0 i) (slN gl (.slice ua m uc) 1 0 i) (slC gl (.slice ua m uc) 1 0 i)) (rcE gl (Value.slice (slA gl (.slice ua m uc) 1 0 i) (slN gl (.slice ua m uc) 1 0 i) (slC gl (.slice ua m uc) 1 0 i))))), true), (pre (rowB gl (.slice ua m uc) (hsE gl (.slice ua m uc))), true), (pre (decide (i < m)), true), (pre (rowB gl (.slice ua m uc) (hsE gl (.slice ua m uc))), true), (pre (idxB ((i : Int)) m), true), (pre (rowB gl (.slice va n vc) (hsE gl (.slice va n vc))), true), (pre (decide (i < n)), true), (pre (rowB gl (.slice va n vc) (hsE gl (.slice va n vc))), true), (pre (idxB ((i : Int)) n), true), (decide ((i : Int) < (n : Int)), true)] (by kernel_rfl) (by kernel_rfl) ?_
 refine qF ?_ ?_ ?_ ?_ <| qF ?_ ?_ ?_ ?_ <| qF ?_ ?_ ?_ ?_ <| qZ
 . exact ob_inI (by omega)
 . exact congrArg Bool.not h
 . exact propB_ok.mpr ⟨hr _ (by omega), hs _ (by omega)⟩
 . exact rowB_ok.mpr (by first | assumption | exact (hr _ (by omega)).1 | exact hs _ (by omega))
 . exact ob_lt (by omega)
 . exact rowB_ok.mpr (by first | assumption | exact (hr _ (by omega)).1 | exact hs _ (by omega))
 . exact ob_idx (by omega)
 . exact rowB_ok.mpr (by first | assumption | exact (hr _ (by omega)).1 | exact hs _ (by omega))
 . exact ob_lt (by omega)
 . exact rowB_ok.mpr (by first | assumption | exact (hr _ (by omega)).1 | exact hs _ (by omega))
 . exact ob_idx (by omega)
 . exact ob_yes (by omega)
theorem ed_out (gl : Gl) (va ua : Option Addr) (n m vc uc : Nat) (hn : n <= 9223372036854775807) (hv : rowG gl (.slice va n vc) (hsE gl (.slice va n vc))) (hu : rowG gl (.slice ua m uc) (hsE gl (.slice ua m uc))) (hr : ∀ i, i < n -> rcsOk gl (slG gl (.slice va n vc) 1 0 i)) (hs : ∀ i, i < m -> rowG gl (slG gl (.slice ua m uc) 1 0 i) (rcE gl (slG gl (.slice ua m uc) 1 0 i))) (i : Nat) (hi : i < n) (hm : i < m) (h : (fun i => eqcZ gl (slG gl (.slice va n vc) 1 0 i) (slG gl (.slice ua m uc) 1 0 i)) i = false) (w : World) (hG : GlobOk gl w) : S2.Sem (enQ gl) w 32 edK (edS (.slice va n vc) (.slice ua m uc) n i) (some none) (edF) := by
 refine sem_iter (enQ_ok gl) hG (p := edZ) (fuel := 1000) [true, true] [(!eqcZ gl (Value.slice (slA gl (.slice va n vc) 1 0 i) (slN gl (.slice va n vc) 1 0 i) (slC gl (.slice va n vc) 1 0 i)) (Value.slice (slA gl (.slice ua m uc) 1 0 i) (slN gl (.slice ua m uc) 1 0 i) (slC gl (.slice ua m uc) 1 0 i)), true), (pre (propB (rcsOk gl (Value.slice (slA gl (.slice va n vc) 1 0 i) (slN gl (.slice va n vc) 1 0 i) (slC gl (.slice va n vc) 1 0 i)) /\ rowG gl (Value.slice (slA gl (.slice ua m uc) 1 0 i) (slN gl (.slice ua m uc) 1 0 i) (slC gl (.slice ua m uc) 1 0 i)) (rcE gl (Value.slice (slA gl (.slice ua m uc) 1 0 i) (slN gl (.slice ua m uc) 1 0 i) (slC gl (.slice ua m uc) 1 0 i))))), true), (pre (rowB gl (.slice ua m uc) (hsE gl (.slice ua m uc))), true), (pre (decide (i < m)), true), (pre (rowB gl (.slice ua m uc) (hsE gl (.slice ua m uc))), true), (pre (idxB ((i : Int)) m), true), (pre (rowB gl (.slice va n vc) (hsE gl (.slice va n vc))), true), (pre (decide (i < n)), true), (pre (rowB gl (.slice va n vc) (hsE gl (.slice va n vc))), true), (pre (idxB ((i : Int)) n), true), (decide ((i : Int) < (n : Int)), true)] (by kernel_rfl) (by kernel_rfl) ?_
 refine qF ?_ ?_ ?_ ?_ <| qF ?_ ?_ ?_ ?_ <| qA ?_ <| qA ?_ <| qA ?_ <| qZ
 . exact congrArg Bool.not h
 . exact propB_ok.mpr ⟨hr _ (by omega), hs _ (by omega)⟩
 . exact rowB_ok.mpr (by first | assumption | exact (hr _ (by omega)).1 | exact hs _ (by omega))
 . exact ob_lt (by omega)
 . exact rowB_ok.mpr (by first | assumption | exact (hr _ (by omega)).1 | exact hs _ (by omega))
 . exact ob_idx (by omega)
 . exact rowB_ok.mpr (by first | assumption | exact (hr _ (by omega)).1 | exact hs _ (by omega))
 . exact ob_lt (by omega)
 . exact rowB_ok.mpr (by first | assumption | exact (hr _ (by omega)).1 | exact hs _ (by omega))
 . exact ob_idx (by omega)
 . exact ob_yes (by omega)
theorem ed_end (gl : Gl) (va ua : Option Addr) (n m vc uc : Nat) (hn : n <= 9223372036854775807) (hv : rowG gl (.slice va n vc) (hsE gl (.slice va n vc))) (hu : rowG gl (.slice ua m uc) (hsE gl (.slice ua m uc))) (hr : ∀ i, i < n -> rcsOk gl (slG gl (.slice va n vc) 1 0 i)) (hs : ∀ i, i < m -> rowG gl (slG gl (.slice ua m uc) 1 0 i) (rcE gl (slG gl (.slice ua m uc) 1 0 i))) (i : Nat) (hi : n <= i) (w : World) (hG : GlobOk gl w) : S2.Sem (enQ gl) w 32 edK (edS (.slice va n vc) (.slice ua m uc) n i) (some (some 0)) (edS (.slice va n vc) (.slice ua m uc) n i) := by
 refine sem_iter (enQ_ok gl) hG (p := edQ) (fuel := 1000) [false] [(decide ((i : Int) < (n : Int)), false)] (by kernel_rfl) (by kernel_rfl) ?_
 refine qA ?_ <| qZ
 . exact ob_no (by omega)
theorem ed_ret {gl : Gl} (va ua : Option Addr) (n m vc uc : Nat) (hn : n <= 9223372036854775807) (hv : rowG gl (.slice va n vc) (hsE gl (.slice va n vc))) (hu : rowG gl (.slice ua m uc) (hsE gl (.slice ua m uc))) (hr : ∀ i, i < n -> rcsOk gl (slG gl (.slice va n vc) 1 0 i)) (hs : ∀ i, i < m -> rowG gl (slG gl (.slice ua m uc) 1 0 i) (rcE gl (slG gl (.slice ua m uc) 1 0 i))) (w : World) (hG : GlobOk gl w) : Ret Try.prog 33 #[.slice va n vc, .slice ua m uc, fnV 34] (.bool (Nat.beq n m && Nat.beq (skipN (fun i => eqcZ gl (slG gl (.slice va n vc) 1 0 i) (slG gl (.slice ua m uc) 1 0 i)) n 0) n)) w := by
 refine LRet.plain (?_ : LRet Try.prog 33 [.slice va n vc, .slice ua m uc, fnV 34] false [.inl (.bool _)] w)
 have ha : ArgsOk w [.inl (.slice va n vc), .inl (.slice ua m uc), .inl (fnV 34)] [.slice va n vc, .slice ua m uc, fnV 34] := ⟨rfl, rfl, rfl, trivial⟩
 by_cases hnm : n = m
 . rw [show Nat.beq n m = true from by rw [hnm]; exact Nat.beq_refl _, Bool.true_and]
   have g2 := skipN_all (fun i => eqcZ gl (slG gl (.slice va n vc) 1 0 i) (slG gl (.slice ua m uc) 1 0 i)) n 0
   have g4 := skipN_le (fun i => eqcZ gl (slG gl (.slice va n vc) 1 0 i) (slG gl (.slice ua m uc) 1 0 i)) n 0
   have g3 := @skipN_hit (fun i => eqcZ gl (slG gl (.slice va n vc) 1 0 i) (slG gl (.slice ua m uc) 1 0 i)) n 0
   generalize hs0 : skipN (fun i => eqcZ gl (slG gl (.slice va n vc) 1 0 i) (slG gl (.slice ua m uc) 1 0 i)) n 0 = s at *
   by_cases h : s = n
   . rw [show Nat.beq s n = true from by rw [h]; exact Nat.beq_refl _]
     have hl := sem_loop (E := enQ gl) (w0 := base0 w) (nb := 0) (nl := 0) (n := 32) (c := edK) (x := some (some 0)) (s' := edS (.slice va n vc) (.slice ua m uc) n n) (fun i => edS (.slice va n vc) (.slice ua m uc) n i) n (by simp) (fun i hi => ed_step gl va ua n m vc uc hn hv hu hr hs i hi (by omega) (g2 i (by omega) (by omega)) w hG) (ed_end gl va ua n m vc uc hn hv hu hr hs n (by omega) w hG)
     refine fn_ok (enQ_ok gl) (fuel := 1000) (d := 30) (plan := [⟨edP, edQ, some (some 0), edS (.slice va n vc) (.slice ua m uc) n n⟩]) (orc := [false]) (fls := [[true], [true], []]) (l := [(pre (rowB gl (.slice va n vc) (hsE gl (.slice va n vc))), true), ((n : Int) != (m : Int), false), (pre (rowB gl (.slice ua m uc) (hsE gl (.slice ua m uc))), true), (pre (rowB gl (.slice va n vc) (hsE gl (.slice va n vc))), true)]) (tr := [⟨.loop edK, edS (.slice va n vc) (.slice ua m uc) n 0, some (some 0), edS (.slice va n vc) (.slice ua m uc) n n⟩]) (by kernel_rfl) ?_ Try.func33 w _ hG ha fun t ht => ?_
     . refine qF ?_ ?_ ?_ ?_ <| qZ
       . exact rowB_ok.mpr (by assumption)
       . rw [hnm]; simp
       . exact rowB_ok.mpr (by assumption)
       . exact rowB_ok.mpr (by assumption)
     . obtain rfl := List.mem_singleton.mp ht
       exact hl
   . rw [show Nat.beq s n = false from by rw [<- Bool.not_eq_true]; exact fun hb => h (qB hb)]
     have hl := sem_loop (E := enQ gl) (w0 := base0 w) (nb := 0) (nl := 0) (n := 32) (c := edK) (x := some none) (s' := edF) (fun i => edS (.slice va n vc) (.slice ua m uc) n i) s (by simp) (fun i hi => ed_step gl va ua n m vc uc hn hv hu hr hs i (by omega) (by omega) (g2 i (by omega) hi) w hG) (ed_out gl va ua n m vc uc hn hv hu hr hs s (by omega) (by omega) (g3 (by omega)) w hG)
     refine fn_ok (enQ_ok gl) (fuel := 1000) (d := 30) (plan := [⟨edP, edQ, some none, edF⟩]) (orc := [false]) (fls := [[true], [true], []]) (l := [(pre (rowB gl (.slice va n vc) (hsE gl (.slice va n vc))), true), ((n : Int) != (m : Int), false), (pre (rowB gl (.slice ua m uc) (hsE gl (.slice ua m uc))), true), (pre (rowB gl (.slice va n vc) (hsE gl (.slice va n vc))), true)]) (tr := [⟨.loop edK, edS (.slice va n vc) (.slice ua m uc) n 0, some none, edF⟩]) (by kernel_rfl) ?_ Try.func33 w _ hG ha fun t ht => ?_
     . refine qF ?_ ?_ ?_ ?_ <| qZ
       . exact rowB_ok.mpr (by assumption)
       . rw [hnm]; simp
       . exact rowB_ok.mpr (by assumption)
       . exact rowB_ok.mpr (by assumption)
     . obtain rfl := List.mem_singleton.mp ht
       exact hl
 . rw [show Nat.beq n m = false from by rw [<- Bool.not_eq_true]; exact fun hb => hnm (qB hb), Bool.false_and]
   refine fn_ok (enQ_ok gl) (fuel := 1000) (d := 30) (plan := []) (orc := [true]) (fls := [[true], [true], []]) (l := [((n : Int) != (m : Int), true), (pre (rowB gl (.slice ua m uc) (hsE gl (.slice ua m uc))), true), (pre (rowB gl (.slice va n vc) (hsE gl (.slice va n vc))), true)]) (tr := []) (by kernel_rfl) ?_ Try.func33 w _ hG ha fun t ht => ?_
   . refine qA ?_ <| qA ?_ <| qA ?_ <| qZ
     . rw [bne_iff_ne]; omega
     . exact rowB_ok.mpr (by assumption)
     . exact rowB_ok.mpr (by assumption)
   . cases ht
def efP : List Nat := [0, 1, 0, 1, 1]
noncomputable def efK : Code := codeAt (codeOf Try.prog 35) (0 :: efP)
def efS (v u : Value) (n i : Nat) : S2.St := { tmps := [(0, .inl ([true], v)), (1, .inl ([true], u)), (2, .inl ([], fnV 36)), (15, .inl ([true], v)), (16, .inl ([true], .int .i64 n)), (17, .inl ([true], .int .i64 i))], own := ⟨[], []⟩, lo := 0, llo := 0, mem := true, orc := [], obl := [] }
def efQ : Pick := { ts := [0, 1, 2, 15, 16, 17], bs := [], ls := [], opn := [0, 1, 17] }
def efZ : Pick := { ts := [6], bs := [], ls := [] }
def efF : S2.St := { tmps := [(6, .inl ([], .bool false))], own := ⟨[], []⟩, lo := 0, llo := 0, mem := true, orc := [], obl := [] }
theorem ef_step (gl : Gl) (va ua : Option Addr) (n m vc uc : Nat) (hn : n <= 9223372036854775807) (hv : rowG gl (.slice va n vc) (rwE gl (.slice va n vc))) (hu : rowG gl (.slice ua m uc) (rwE gl (.slice ua m uc))) (hr : ∀ i, i < n -> rfsOk gl (slG gl (.slice va n vc) 2 1 i)) (hs : ∀ i, i < m -> rowG gl (slG gl (.slice ua m uc) 2 1 i) (rfE gl (slG gl (.slice ua m uc) 2 1 i))) (i : Nat) (hi : i < n) (hm : i < m) (h : (fun i => raG gl (.slice va n vc) i == raG gl (.slice ua m uc) i && refsZ gl (slG gl (.slice va n vc) 2 1 i) (slG gl (.slice ua m uc) 2 1 i)) i = true) (w : World) (hG : GlobOk gl w) : S2.Sem (enW13 gl) w 32 efK (efS (.slice va n vc) (.slice ua m uc) n i) none (efS (.slice va n vc) (.slice ua m uc) n (i + 1)) := by
 refine sem_iter (enW13_ok gl) hG (p := efQ) (fuel := 1000) [true, false] [(pre (inI ((i : Int) + 1)), true), (!(raG gl (.slice va n vc) i == raG gl (.slice ua m uc) i && refsZ gl (Value.slice (slA gl (.slice va n vc) 2 1 i) (slN gl (.slice va n vc) 2 1 i) (slC gl (.slice va n vc) 2 1 i)) (Value.slice (slA gl (.slice ua m uc) 2 1 i) (slN gl (.slice ua m uc) 2 1 i) (slC gl (.slice ua m uc) 2 1 i))), false), (pre (propB (rfsOk gl (Value.slice (slA gl (.slice va n vc) 2 1 i) (slN gl (.slice va n vc) 2 1 i) (slC gl (.slice va n vc) 2 1 i)) /\ rowG gl (Value.slice (slA gl (.slice ua m uc) 2 1 i) (slN gl (.slice ua m uc) 2 1 i) (slC gl (.slice ua m uc) 2 1 i)) (rfE gl (Value.slice (slA gl (.slice ua m uc) 2 1 i) (slN gl (.slice ua m uc) 2 1 i) (slC gl (.slice ua m uc) 2 1 i))))), true), (pre (rowB gl (.slice ua m uc) (rwE gl (.slice ua m uc))), true), (pre (decide (i < m)), true), (pre (rowB gl (.slice ua m uc) (rwE gl (.slice ua m uc))), true), (pre (idxB ((i : Int)) m), true), (pre (rowB gl (.slice va n vc) (rwE gl (.slice va n vc))), true), (pre (decide (i < n)), true), (pre (rowB gl (.slice va n vc) (rwE gl (.slice va n vc))), true), (pre (idxB ((i : Int)) n), true), (decide ((i : Int) < (n : Int)), true)] (by kernel_rfl) (by kernel_rfl) ?_
 refine qF ?_ ?_ ?_ ?_ <| qF ?_ ?_ ?_ ?_ <| qF ?_ ?_ ?_ ?_ <| qZ
 . exact ob_inI (by omega)
 . exact congrArg Bool.not h
 . exact propB_ok.mpr ⟨hr _ (by omega), hs _ (by omega)⟩
 . exact rowB_ok.mpr (by first | assumption | exact (hr _ (by omega)).1 | exact hs _ (by omega))
 . exact ob_lt (by omega)
 . exact rowB_ok.mpr (by first | assumption | exact (hr _ (by omega)).1 | exact hs _ (by omega))
 . exact ob_idx (by omega)
 . exact rowB_ok.mpr (by first | assumption | exact (hr _ (by omega)).1 | exact hs _ (by omega))
 . exact ob_lt (by omega)
 . exact rowB_ok.mpr (by first | assumption | exact (hr _ (by omega)).1 | exact hs _ (by omega))
 . exact ob_idx (by omega)
 . exact ob_yes (by omega)
theorem ef_out (gl : Gl) (va ua : Option Addr) (n m vc uc : Nat) (hn : n <= 9223372036854775807) (hv : rowG gl (.slice va n vc) (rwE gl (.slice va n vc))) (hu : rowG gl (.slice ua m uc) (rwE gl (.slice ua m uc))) (hr : ∀ i, i < n -> rfsOk gl (slG gl (.slice va n vc) 2 1 i)) (hs : ∀ i, i < m -> rowG gl (slG gl (.slice ua m uc) 2 1 i) (rfE gl (slG gl (.slice ua m uc) 2 1 i))) (i : Nat) (hi : i < n) (hm : i < m) (h : (fun i => raG gl (.slice va n vc) i == raG gl (.slice ua m uc) i && refsZ gl (slG gl (.slice va n vc) 2 1 i) (slG gl (.slice ua m uc) 2 1 i)) i = false) (w : World) (hG : GlobOk gl w) : S2.Sem (enW13 gl) w 32 efK (efS (.slice va n vc) (.slice ua m uc) n i) (some none) (efF) := by
 refine sem_iter (enW13_ok gl) hG (p := efZ) (fuel := 1000) [true, true] [(!(raG gl (.slice va n vc) i == raG gl (.slice ua m uc) i && refsZ gl (Value.slice (slA gl (.slice va n vc) 2 1 i) (slN gl (.slice va n vc) 2 1 i) (slC gl (.slice va n vc) 2 1 i)) (Value.slice (slA gl (.slice ua m uc) 2 1 i) (slN gl (.slice ua m uc) 2 1 i) (slC gl (.slice ua m uc) 2 1 i))), true), (pre (propB (rfsOk gl (Value.slice (slA gl (.slice va n vc) 2 1 i) (slN gl (.slice va n vc) 2 1 i) (slC gl (.slice va n vc) 2 1 i)) /\ rowG gl (Value.slice (slA gl (.slice ua m uc) 2 1 i) (slN gl (.slice ua m uc) 2 1 i) (slC gl (.slice ua m uc) 2 1 i)) (rfE gl (Value.slice (slA gl (.slice ua m uc) 2 1 i) (slN gl (.slice ua m uc) 2 1 i) (slC gl (.slice ua m uc) 2 1 i))))), true), (pre (rowB gl (.slice ua m uc) (rwE gl (.slice ua m uc))), true), (pre (decide (i < m)), true), (pre (rowB gl (.slice ua m uc) (rwE gl (.slice ua m uc))), true), (pre (idxB ((i : Int)) m), true), (pre (rowB gl (.slice va n vc) (rwE gl (.slice va n vc))), true), (pre (decide (i < n)), true), (pre (rowB gl (.slice va n vc) (rwE gl (.slice va n vc))), true), (pre (idxB ((i : Int)) n), true), (decide ((i : Int) < (n : Int)), true)] (by kernel_rfl) (by kernel_rfl) ?_
 refine qF ?_ ?_ ?_ ?_ <| qF ?_ ?_ ?_ ?_ <| qA ?_ <| qA ?_ <| qA ?_ <| qZ
 . exact congrArg Bool.not h
 . exact propB_ok.mpr ⟨hr _ (by omega), hs _ (by omega)⟩
 . exact rowB_ok.mpr (by first | assumption | exact (hr _ (by omega)).1 | exact hs _ (by omega))
 . exact ob_lt (by omega)
 . exact rowB_ok.mpr (by first | assumption | exact (hr _ (by omega)).1 | exact hs _ (by omega))
 . exact ob_idx (by omega)
 . exact rowB_ok.mpr (by first | assumption | exact (hr _ (by omega)).1 | exact hs _ (by omega))
 . exact ob_lt (by omega)
 . exact rowB_ok.mpr (by first | assumption | exact (hr _ (by omega)).1 | exact hs _ (by omega))
 . exact ob_idx (by omega)
 . exact ob_yes (by omega)
theorem ef_end (gl : Gl) (va ua : Option Addr) (n m vc uc : Nat) (hn : n <= 9223372036854775807) (hv : rowG gl (.slice va n vc) (rwE gl (.slice va n vc))) (hu : rowG gl (.slice ua m uc) (rwE gl (.slice ua m uc))) (hr : ∀ i, i < n -> rfsOk gl (slG gl (.slice va n vc) 2 1 i)) (hs : ∀ i, i < m -> rowG gl (slG gl (.slice ua m uc) 2 1 i) (rfE gl (slG gl (.slice ua m uc) 2 1 i))) (i : Nat) (hi : n <= i) (w : World) (hG : GlobOk gl w) : S2.Sem (enW13 gl) w 32 efK (efS (.slice va n vc) (.slice ua m uc) n i) (some (some 0)) (efS (.slice va n vc) (.slice ua m uc) n i) := by
 refine sem_iter (enW13_ok gl) hG (p := efQ) (fuel := 1000) [false] [(decide ((i : Int) < (n : Int)), false)] (by kernel_rfl) (by kernel_rfl) ?_
 refine qA ?_ <| qZ
 . exact ob_no (by omega)
theorem ef_ret {gl : Gl} (va ua : Option Addr) (n m vc uc : Nat) (hn : n <= 9223372036854775807) (hv : rowG gl (.slice va n vc) (rwE gl (.slice va n vc))) (hu : rowG gl (.slice ua m uc) (rwE gl (.slice ua m uc))) (hr : ∀ i, i < n -> rfsOk gl (slG gl (.slice va n vc) 2 1 i)) (hs : ∀ i, i < m -> rowG gl (slG gl (.slice ua m uc) 2 1 i) (rfE gl (slG gl (.slice ua m uc) 2 1 i))) (w : World) (hG : GlobOk gl w) : Ret Try.prog 35 #[.slice va n vc, .slice ua m uc, fnV 36] (.bool (Nat.beq n m && Nat.beq (skipN (fun i => raG gl (.slice va n vc) i == raG gl (.slice ua m uc) i && refsZ gl (slG gl (.slice va n vc) 2 1 i) (slG gl (.slice ua m uc) 2 1 i)) n 0) n)) w := by
 refine LRet.plain (?_ : LRet Try.prog 35 [.slice va n vc, .slice ua m uc, fnV 36] false [.inl (.bool _)] w)
 have ha : ArgsOk w [.inl (.slice va n vc), .inl (.slice ua m uc), .inl (fnV 36)] [.slice va n vc, .slice ua m uc, fnV 36] := ⟨rfl, rfl, rfl, trivial⟩
 by_cases hnm : n = m
 . rw [show Nat.beq n m = true from by rw [hnm]; exact Nat.beq_refl _, Bool.true_and]
   have g2 := skipN_all (fun i => raG gl (.slice va n vc) i == raG gl (.slice ua m uc) i && refsZ gl (slG gl (.slice va n vc) 2 1 i) (slG gl (.slice ua m uc) 2 1 i)) n 0
   have g4 := skipN_le (fun i => raG gl (.slice va n vc) i == raG gl (.slice ua m uc) i && refsZ gl (slG gl (.slice va n vc) 2 1 i) (slG gl (.slice ua m uc) 2 1 i)) n 0
   have g3 := @skipN_hit (fun i => raG gl (.slice va n vc) i == raG gl (.slice ua m uc) i && refsZ gl (slG gl (.slice va n vc) 2 1 i) (slG gl (.slice ua m uc) 2 1 i)) n 0
   generalize hs0 : skipN (fun i => raG gl (.slice va n vc) i == raG gl (.slice ua m uc) i && refsZ gl (slG gl (.slice va n vc) 2 1 i) (slG gl (.slice ua m uc) 2 1 i)) n 0 = s at *
   by_cases h : s = n
   . rw [show Nat.beq s n = true from by rw [h]; exact Nat.beq_refl _]
     have hl := sem_loop (E := enW13 gl) (w0 := base0 w) (nb := 0) (nl := 0) (n := 32) (c := efK) (x := some (some 0)) (s' := efS (.slice va n vc) (.slice ua m uc) n n) (fun i => efS (.slice va n vc) (.slice ua m uc) n i) n (by simp) (fun i hi => ef_step gl va ua n m vc uc hn hv hu hr hs i hi (by omega) (g2 i (by omega) (by omega)) w hG) (ef_end gl va ua n m vc uc hn hv hu hr hs n (by omega) w hG)
     refine fn_ok (enW13_ok gl) (fuel := 1000) (d := 30) (plan := [⟨efP, efQ, some (some 0), efS (.slice va n vc) (.slice ua m uc) n n⟩]) (orc := [false]) (fls := [[true], [true], []]) (l := [(pre (rowB gl (.slice va n vc) (rwE gl (.slice va n vc))), true), ((n : Int) != (m : Int), false), (pre (rowB gl (.slice ua m uc) (rwE gl (.slice ua m uc))), true), (pre (rowB gl (.slice va n vc) (rwE gl (.slice va n vc))), true)]) (tr := [⟨.loop efK, efS (.slice va n vc) (.slice ua m uc) n 0, some (some 0), efS (.slice va n vc) (.slice ua m uc) n n⟩]) (by kernel_rfl) ?_ Try.func35 w _ hG ha fun t ht => ?_
     . refine qF ?_ ?_ ?_ ?_ <| qZ
       . exact rowB_ok.mpr (by assumption)
       . rw [hnm]; simp
       . exact rowB_ok.mpr (by assumption)
       . exact rowB_ok.mpr (by assumption)
     . obtain rfl := List.mem_singleton.mp ht
       exact hl
   . rw [show Nat.beq s n = false from by rw [<- Bool.not_eq_true]; exact fun hb => h (qB hb)]
     have hl := sem_loop (E := enW13 gl) (w0 := base0 w) (nb := 0) (nl := 0) (n := 32) (c := efK) (x := some none) (s' := efF) (fun i => efS (.slice va n vc) (.slice ua m uc) n i) s (by simp) (fun i hi => ef_step gl va ua n m vc uc hn hv hu hr hs i (by omega) (by omega) (g2 i (by omega) hi) w hG) (ef_out gl va ua n m vc uc hn hv hu hr hs s (by omega) (by omega) (g3 (by omega)) w hG)
     refine fn_ok (enW13_ok gl) (fuel := 1000) (d := 30) (plan := [⟨efP, efQ, some none, efF⟩]) (orc := [false]) (fls := [[true], [true], []]) (l := [(pre (rowB gl (.slice va n vc) (rwE gl (.slice va n vc))), true), ((n : Int) != (m : Int), false), (pre (rowB gl (.slice ua m uc) (rwE gl (.slice ua m uc))), true), (pre (rowB gl (.slice va n vc) (rwE gl (.slice va n vc))), true)]) (tr := [⟨.loop efK, efS (.slice va n vc) (.slice ua m uc) n 0, some none, efF⟩]) (by kernel_rfl) ?_ Try.func35 w _ hG ha fun t ht => ?_
     . refine qF ?_ ?_ ?_ ?_ <| qZ
       . exact rowB_ok.mpr (by assumption)
       . rw [hnm]; simp
       . exact rowB_ok.mpr (by assumption)
       . exact rowB_ok.mpr (by assumption)
     . obtain rfl := List.mem_singleton.mp ht
       exact hl
 . rw [show Nat.beq n m = false from by rw [<- Bool.not_eq_true]; exact fun hb => hnm (qB hb), Bool.false_and]
   refine fn_ok (enW13_ok gl) (fuel := 1000) (d := 30) (plan := []) (orc := [true]) (fls := [[true], [true], []]) (l := [((n : Int) != (m : Int), true), (pre (rowB gl (.slice ua m uc) (rwE gl (.slice ua m uc))), true), (pre (rowB gl (.slice va n vc) (rwE gl (.slice va n vc))), true)]) (tr := []) (by kernel_rfl) ?_ Try.func35 w _ hG ha fun t ht => ?_
   . refine qA ?_ <| qA ?_ <| qA ?_ <| qZ
     . rw [bne_iff_ne]; omega
     . exact rowB_ok.mpr (by assumption)
     . exact rowB_ok.mpr (by assumption)
   . cases ht
noncomputable def eqhB (gl : Gl) (v u : Value) : Bool := Nat.beq (lenV v) (lenV u) && Nat.beq (skipN (fun i => eqcZ gl (slG gl v 1 0 i) (slG gl u 1 0 i)) (lenV v) 0) (lenV v)
theorem eqhZ_ex : ∃ f : Gl -> Value -> Value -> Bool, ∀ gl v u, f gl v u = eqhB gl v u := ⟨_, fun _ _ _ => rfl⟩
noncomputable def eqhZ : Gl -> Value -> Value -> Bool := Classical.choose eqhZ_ex
theorem eqhZ_eq (gl : Gl) (v u : Value) : eqhZ gl v u = eqhB gl v u := Classical.choose_spec eqhZ_ex gl v u
def eqhOk (gl : Gl) (v u : Value) : Prop := lenV v <= 9223372036854775807 /\ rowG gl v (hsE gl v) /\ rowG gl u (hsE gl u) /\ (∀ i, i < lenV v -> rcsOk gl (slG gl v 1 0 i)) /\ ∀ i, i < lenV u -> rowG gl (slG gl u 1 0 i) (rcE gl (slG gl u 1 0 i))
noncomputable def peqh (gl : Gl) : PTab := prowD 33 fun l => match l with
 | [.slice va n vc, .slice ua m uc, .func (.func f) ⟨[]⟩ ⟨[]⟩] => bif Nat.beq f 34 then some (.bool (eqhZ gl (.slice va n vc) (.slice ua m uc)), pre (propB (eqhOk gl (.slice va n vc) (.slice ua m uc)))) else none
 | _ => none
theorem peqh_ok {gl : Gl} : PTabOk Try.prog gl (peqh gl) := .rowD fun args v h w hG => by
 split at h
 . rename_i va n vc ua m uc f
   cases hf : Nat.beq f 34
   . rw [hf] at h; cases h
   . rw [hf] at h
     simp only [cond_true, qS, qP] at h
     obtain ⟨rfl, hp⟩ := h
     obtain rfl := qB hf
     obtain ⟨h1, h2, h3, h4, h5⟩ := propB_ok.mp hp
     rw [eqhZ_eq]
     exact ed_ret va ua n m vc uc h1 h2 h3 h4 h5 w hG
 . cases h
noncomputable def eqwB (gl : Gl) (v u : Value) : Bool := Nat.beq (lenV v) (lenV u) && Nat.beq (skipN (fun i => raG gl v i == raG gl u i && refsZ gl (slG gl v 2 1 i) (slG gl u 2 1 i)) (lenV v) 0) (lenV v)
theorem eqwZ_ex : ∃ f : Gl -> Value -> Value -> Bool, ∀ gl v u, f gl v u = eqwB gl v u := ⟨_, fun _ _ _ => rfl⟩
noncomputable def eqwZ : Gl -> Value -> Value -> Bool := Classical.choose eqwZ_ex
theorem eqwZ_eq (gl : Gl) (v u : Value) : eqwZ gl v u = eqwB gl v u := Classical.choose_spec eqwZ_ex gl v u
def eqwOk (gl : Gl) (v u : Value) : Prop := lenV v <= 9223372036854775807 /\ rowG gl v (rwE gl v) /\ rowG gl u (rwE gl u) /\ (∀ i, i < lenV v -> rfsOk gl (slG gl v 2 1 i)) /\ ∀ i, i < lenV u -> rowG gl (slG gl u 2 1 i) (rfE gl (slG gl u 2 1 i))
noncomputable def peqw (gl : Gl) : PTab := prowD 35 fun l => match l with
 | [.slice va n vc, .slice ua m uc, .func (.func f) ⟨[]⟩ ⟨[]⟩] => bif Nat.beq f 36 then some (.bool (eqwZ gl (.slice va n vc) (.slice ua m uc)), pre (propB (eqwOk gl (.slice va n vc) (.slice ua m uc)))) else none
 | _ => none
theorem peqw_ok {gl : Gl} : PTabOk Try.prog gl (peqw gl) := .rowD fun args v h w hG => by
 split at h
 . rename_i va n vc ua m uc f
   cases hf : Nat.beq f 36
   . rw [hf] at h; cases h
   . rw [hf] at h
     simp only [cond_true, qS, qP] at h
     obtain ⟨rfl, hp⟩ := h
     obtain rfl := qB hf
     obtain ⟨h1, h2, h3, h4, h5⟩ := propB_ok.mp hp
     rw [eqwZ_eq]
     exact ef_ret va ua n m vc uc h1 h2 h3 h4 h5 w hG
 . cases h
noncomputable def enV13 (gl : Gl) : S2.Env := enD gl noT (orP (peqh gl) (peqw gl)) noL
theorem enV13_ok (gl : Gl) : CallOk (enV13 gl) := enD_ok (.none _ _) (peqh_ok.or peqw_ok) (.none _ _)
theorem sameZ_parts (gl : Gl) (c d : Cn) : sameZ gl c d = (eqhZ gl c.h d.h && eqwZ gl c.r d.r) := by
 rw [sameZ_eq, eqhZ_eq, eqwZ_eq]
 unfold sameB eqhB eqwB
 show (Nat.beq c.hn d.hn && Nat.beq c.rn d.rn && Nat.beq (skipN (eqH gl c d) c.hn 0) c.hn && Nat.beq (skipN (eqW gl c d) c.rn 0) c.rn) = ((Nat.beq c.hn d.hn && Nat.beq (skipN (fun i => eqcZ gl (c.hv gl i) (d.hv gl i)) c.hn 0) c.hn) && (Nat.beq c.rn d.rn && Nat.beq (skipN (fun i => raG gl c.r i == raG gl d.r i && refsZ gl (c.rv gl i) (d.rv gl i)) c.rn 0) c.rn))
 rw [skipN_congr (P := fun i => eqcZ gl (c.hv gl i) (d.hv gl i)) (Q := eqH gl c d) fun i => by rw [eqcZ_eq]; rfl]
 show (_ && Nat.beq (skipN (eqW gl c d) c.rn 0) c.rn) = (_ && (_ && Nat.beq (skipN (eqW gl c d) c.rn 0) c.rn))
 cases Nat.beq c.hn d.hn <;> cases Nat.beq c.rn d.rn <;> cases Nat.beq (skipN (eqH gl c d) c.hn 0) c.hn <;> simp
theorem cnd_eqh {gl : Gl} {c d : Cn} (hc : CnOk gl c) (hd : CnOk gl d) (sc : CnSm gl c) : eqhOk gl c.h d.h := ⟨sc.1, hc.hs, hd.hs, fun i hi => ⟨hc.rc i hi, sc.2.2.1 i hi⟩, fun i hi => hd.rc i hi⟩
theorem cnd_eqw {gl : Gl} {c d : Cn} (hc : CnOk gl c) (hd : CnOk gl d) (sc : CnSm gl c) : eqwOk gl c.r d.r := ⟨sc.2.1, hc.rw, hd.rw, fun i hi => ⟨hc.rf i hi, sc.2.2.2 i hi⟩, fun i hi => hd.rf i hi⟩
theorem same_ret {gl : Gl} (c d : Cn) (hc : CnOk gl c) (hd : CnOk gl d) (sc : CnSm gl c) (w : World) (hG : GlobOk gl w) : Ret Try.prog 15 #[cnV c, cnV d] (.bool (sameZ gl c d)) w := by
 have ha : ArgsOk w [.inl (cnV c), .inl (cnV d)] [cnV c, cnV d] := ⟨rfl, rfl, trivial⟩
 rw [sameZ_parts]
 refine LRet.plain (?_ : LRet Try.prog 15 [cnV c, cnV d] false [.inl (.bool _)] w)
 cases h : eqhZ gl c.h d.h
 case' false =>
   refine fn_ok (enV13_ok gl) (fuel := 1000) (d := 30) (plan := []) (orc := [false]) (fls := [[true, true], [true, true]]) (l := [(eqhZ gl c.h d.h, false), (pre (propB (eqhOk gl c.h d.h)), true)]) (tr := []) (by kernel_rfl) ?_ Try.func15 w _ hG ha fun t ht => by cases ht
   refine qA ?_ <| qA ?_ <| qZ
   . exact h
   . exact propB_ok.mpr (cnd_eqh hc hd sc)
 case' true =>
   refine fn_ok (enV13_ok gl) (fuel := 1000) (d := 30) (plan := []) (orc := [true]) (fls := [[true, true], [true, true]]) (l := [(pre (propB (eqwOk gl c.r d.r)), true), (eqhZ gl c.h d.h, true), (pre (propB (eqhOk gl c.h d.h)), true)]) (tr := []) (by kernel_rfl) ?_ Try.func15 w _ hG ha fun t ht => by cases ht
   refine qA ?_ <| qA ?_ <| qA ?_ <| qZ
   . exact propB_ok.mpr (cnd_eqw hc hd sc)
   . exact h
   . exact propB_ok.mpr (cnd_eqh hc hd sc)
end Go.Proofs.Ytmaffamhjmlonaa
