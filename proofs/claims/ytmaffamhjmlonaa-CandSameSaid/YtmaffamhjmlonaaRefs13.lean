/- Layer 13: the reference: There, Refs, Same. -/
import Derived.Test.YtmaffamhjmlonaaCand13
set_option linter.unusedVariables false
set_option linter.unusedSimpArgs false
namespace Go.Proofs.Ytmaffamhjmlonaa
open Go.RowKit Sim S2
noncomputable def thB (gl : Gl) (c : Cn) (h a : Int) : Bool := bif decide (h < 0) then false else bif decide (h >= (c.hn : Int)) then false else bif decide (a >= 0) then decide (a < (lenV (c.hv gl h.toNat) : Int)) else false
theorem thZ_ex : ∃ f : Gl -> Cn -> Int -> Int -> Bool, ∀ gl c h a, f gl c h a = thB gl c h a := ⟨_, fun _ _ _ _ => rfl⟩
noncomputable def thZ : Gl -> Cn -> Int -> Int -> Bool := Classical.choose thZ_ex
theorem thZ_eq (gl : Gl) (c : Cn) (h a : Int) : thZ gl c h a = thB gl c h a := Classical.choose_spec thZ_ex gl c h a
def mkC : List Bool := [true, true]
def rfV (h a : Int) : Value := .agg #[.int .i64 h, .int .i64 a]
def decTh : List Value -> Option (Cn × Int × Int)
 | [.agg ⟨[.slice a n c, .slice b m d]⟩, .agg ⟨[.int .i64 x, .int .i64 y]⟩] => some (⟨a, n, c, b, m, d⟩, x, y)
 | _ => none
theorem decTh_eq : ∀ l x, decTh l = some x -> l = [cnV x.1, rfV x.2.1 x.2.2] := fun l x h => by
 unfold decTh at h
 split at h
 . simp only [qS] at h
   subst h; rfl
 . cases h
noncomputable def okC (gl : Gl) (c : Cn) : Bool := propB (CnOk gl c)
noncomputable def eqR (gl : Gl) (v u : Value) (i : Nat) : Bool := (rfG gl v i).h == (rfG gl u i).h && ((rfG gl v i).a == (rfG gl u i).a && true)
noncomputable def refsB (gl : Gl) (v u : Value) : Bool := Nat.beq (lenV v) (lenV u) && Nat.beq (skipN (eqR gl v u) (lenV v) 0) (lenV v)
theorem refsZ_ex : ∃ f : Gl -> Value -> Value -> Bool, ∀ gl v u, f gl v u = refsB gl v u := ⟨_, fun _ _ _ => rfl⟩
noncomputable def refsZ : Gl -> Value -> Value -> Bool := Classical.choose refsZ_ex
theorem refsZ_eq (gl : Gl) (v u : Value) : refsZ gl v u = refsB gl v u := Classical.choose_spec refsZ_ex gl v u
def refsP : List Nat := [0, 1, 0, 1, 1]
noncomputable def refsC : Code := codeAt (codeOf Try.prog 32) (0 :: refsP)
def refsS (v u : Value) (i : Nat) : S2.St := { tmps := [(0, .inl ([true], v)), (1, .inl ([true], u)), (5, .inl ([true], .int .i64 i))], own := ⟨[], []⟩, lo := 0, llo := 0, mem := true, orc := [], obl := [] }
def refsQ : Pick := { ts := [0, 1, 5], bs := [], ls := [], opn := [0, 1, 5] }
def refsT : Pick := { ts := [4], bs := [], ls := [] }
def refsF : S2.St := { tmps := [(4, .inl ([], .bool false))], own := ⟨[], []⟩, lo := 0, llo := 0, mem := true, orc := [], obl := [] }
noncomputable abbrev enD0 (gl : Gl) : S2.Env := enD gl noT noP noL
theorem enD0_ok (gl : Gl) : CallOk (enD0 gl) := enD_ok (.none _ _) (.none _ _) (.none _ _)
theorem refs_step (gl : Gl) (va ua : Option Addr) (n m vc uc i : Nat) (hn : n <= 9223372036854775807) (hv : rowG gl (.slice va n vc) (rfE gl (.slice va n vc))) (hu : rowG gl (.slice ua m uc) (rfE gl (.slice ua m uc))) (hi : i < n) (hm : i < m) (h : eqR gl (.slice va n vc) (.slice ua m uc) i = true) (w : World) (hG : GlobOk gl w) : S2.Sem (enD0 gl) w 26 refsC (refsS (.slice va n vc) (.slice ua m uc) i) none (refsS (.slice va n vc) (.slice ua m uc) (i + 1)) := by
 refine sem_iter (enD0_ok gl) hG (p := refsQ) (fuel := 1000) [true, false] [(pre (inI ((i : Int) + 1)), true), (!((rfG gl (.slice va n vc) ((i : Int)).toNat).h == (rfG gl (.slice ua m uc) ((i : Int)).toNat).h && ((rfG gl (.slice va n vc) ((i : Int)).toNat).a == (rfG gl (.slice ua m uc) ((i : Int)).toNat).a && true)), false), (pre (rowB gl (.slice ua m uc) (rfE gl (.slice ua m uc))), true), (pre (decide (((i : Int)).toNat < m)), true), (pre (rowB gl (.slice ua m uc) (rfE gl (.slice ua m uc))), true), (pre (idxB ((i : Int)) m), true), (pre (rowB gl (.slice va n vc) (rfE gl (.slice va n vc))), true), (pre (decide (((i : Int)).toNat < n)), true), (pre (rowB gl (.slice va n vc) (rfE gl (.slice va n vc))), true), (pre (idxB ((i : Int)) n), true), (decide ((i : Int) < ↑n), true), (pre (rowB gl (.slice va n vc) (rfE gl (.slice va n vc))), true)] (by kernel_rfl) (by kernel_rfl) ?_
 try simp only [qN]
 refine qF ?_ ?_ ?_ ?_ <| qF ?_ ?_ ?_ ?_ <| qF ?_ ?_ ?_ ?_ <| qZ
 . exact ob_inI (by omega)
 . unfold eqR at h; rw [h]; rfl
 . exact rowB_ok.mpr (by first | assumption | (simp only [qN] at *; assumption))
 . exact ob_lt (by omega)
 . exact rowB_ok.mpr (by first | assumption | (simp only [qN] at *; assumption))
 . exact ob_idx (by omega)
 . exact rowB_ok.mpr (by first | assumption | (simp only [qN] at *; assumption))
 . exact ob_lt (by omega)
 . exact rowB_ok.mpr (by first | assumption | (simp only [qN] at *; assumption))
 . exact ob_idx (by omega)
 . exact ob_yes (by omega)
 . exact rowB_ok.mpr (by first | assumption | (simp only [qN] at *; assumption))
theorem refs_out (gl : Gl) (va ua : Option Addr) (n m vc uc i : Nat) (hn : n <= 9223372036854775807) (hv : rowG gl (.slice va n vc) (rfE gl (.slice va n vc))) (hu : rowG gl (.slice ua m uc) (rfE gl (.slice ua m uc))) (hi : i < n) (hm : i < m) (h : eqR gl (.slice va n vc) (.slice ua m uc) i = false) (w : World) (hG : GlobOk gl w) : S2.Sem (enD0 gl) w 26 refsC (refsS (.slice va n vc) (.slice ua m uc) i) (some none) refsF := by
 refine sem_iter (enD0_ok gl) hG (p := refsT) (fuel := 1000) [true, true] [(!((rfG gl (.slice va n vc) ((i : Int)).toNat).h == (rfG gl (.slice ua m uc) ((i : Int)).toNat).h && ((rfG gl (.slice va n vc) ((i : Int)).toNat).a == (rfG gl (.slice ua m uc) ((i : Int)).toNat).a && true)), true), (pre (rowB gl (.slice ua m uc) (rfE gl (.slice ua m uc))), true), (pre (decide (((i : Int)).toNat < m)), true), (pre (rowB gl (.slice ua m uc) (rfE gl (.slice ua m uc))), true), (pre (idxB ((i : Int)) m), true), (pre (rowB gl (.slice va n vc) (rfE gl (.slice va n vc))), true), (pre (decide (((i : Int)).toNat < n)), true), (pre (rowB gl (.slice va n vc) (rfE gl (.slice va n vc))), true), (pre (idxB ((i : Int)) n), true), (decide ((i : Int) < ↑n), true), (pre (rowB gl (.slice va n vc) (rfE gl (.slice va n vc))), true)] (by kernel_rfl) (by kernel_rfl) ?_
 try simp only [qN]
 refine qF ?_ ?_ ?_ ?_ <| qF ?_ ?_ ?_ ?_ <| qA ?_ <| qA ?_ <| qA ?_ <| qZ
 . unfold eqR at h; rw [h]; rfl
 . exact rowB_ok.mpr (by first | assumption | (simp only [qN] at *; assumption))
 . exact ob_lt (by omega)
 . exact rowB_ok.mpr (by first | assumption | (simp only [qN] at *; assumption))
 . exact ob_idx (by omega)
 . exact rowB_ok.mpr (by first | assumption | (simp only [qN] at *; assumption))
 . exact ob_lt (by omega)
 . exact rowB_ok.mpr (by first | assumption | (simp only [qN] at *; assumption))
 . exact ob_idx (by omega)
 . exact ob_yes (by omega)
 . exact rowB_ok.mpr (by first | assumption | (simp only [qN] at *; assumption))
theorem refs_end (gl : Gl) (va ua : Option Addr) (n m vc uc i : Nat) (hn : n <= 9223372036854775807) (hv : rowG gl (.slice va n vc) (rfE gl (.slice va n vc))) (hu : rowG gl (.slice ua m uc) (rfE gl (.slice ua m uc))) (hi : n <= i) (w : World) (hG : GlobOk gl w) : S2.Sem (enD0 gl) w 26 refsC (refsS (.slice va n vc) (.slice ua m uc) i) (some (some 0)) (refsS (.slice va n vc) (.slice ua m uc) i) := by
 refine sem_iter (enD0_ok gl) hG (p := refsQ) (fuel := 1000) [false] [(decide ((i : Int) < ↑n), false), (pre (rowB gl (.slice va n vc) (rfE gl (.slice va n vc))), true)] (by kernel_rfl) (by kernel_rfl) ?_
 try simp only [qN]
 refine qA ?_ <| qA ?_ <| qZ
 . exact ob_no (by omega)
 . exact rowB_ok.mpr (by first | assumption | (simp only [qN] at *; assumption))
theorem refs_ret {gl : Gl} (va ua : Option Addr) (n m vc uc : Nat) (hn : n <= 9223372036854775807) (hv : rowG gl (.slice va n vc) (rfE gl (.slice va n vc))) (hu : rowG gl (.slice ua m uc) (rfE gl (.slice ua m uc))) (w : World) (hG : GlobOk gl w) :
   Ret Try.prog 32 #[.slice va n vc, .slice ua m uc] (.bool (refsZ gl (.slice va n vc) (.slice ua m uc))) w := by
 rw [refsZ_eq]
 refine LRet.plain (?_ : LRet Try.prog 32 [.slice va n vc, .slice ua m uc] false [.inl (.bool _)] w)
 show LRet _ _ _ _ [.inl (.bool (Nat.beq n m && Nat.beq (skipN (eqR gl (.slice va n vc) (.slice ua m uc)) n 0) n))] w
 have ha : ArgsOk w [.inl (.slice va n vc), .inl (.slice ua m uc)] [.slice va n vc, .slice ua m uc] := ⟨rfl, rfl, trivial⟩
 by_cases hnm : n = m
 . rw [show Nat.beq n m = true from by rw [hnm]; exact Nat.beq_refl _, Bool.true_and]
   have g2 := skipN_all (eqR gl (.slice va n vc) (.slice ua m uc)) n 0
   have g4 := skipN_le (eqR gl (.slice va n vc) (.slice ua m uc)) n 0
   have g3 := @skipN_hit (eqR gl (.slice va n vc) (.slice ua m uc)) n 0
   generalize hs : skipN (eqR gl (.slice va n vc) (.slice ua m uc)) n 0 = s at *
   by_cases h : s = n
   . rw [show Nat.beq s n = true from by rw [h]; exact Nat.beq_refl _]
     have hl := sem_loop (E := enD0 gl) (w0 := base0 w) (nb := 0) (nl := 0) (n := 26) (c := refsC) (x := some (some 0)) (s' := refsS (.slice va n vc) (.slice ua m uc) n) (fun i => refsS (.slice va n vc) (.slice ua m uc) i) n (by simp) (fun i hi => refs_step gl va ua n m vc uc i hn hv hu hi (by omega) (g2 i (by omega) (by omega)) w hG) (refs_end gl va ua n m vc uc n hn hv hu (by omega) w hG)
     refine fn_ok (enD0_ok gl) (fuel := 1000) (d := 30) (plan := [⟨refsP, refsQ, some (some 0), refsS (.slice va n vc) (.slice ua m uc) n⟩]) (orc := [false]) (fls := [[true], [true]]) (l := [((n : Int) != (m : Int), false), (pre (rowB gl (.slice ua m uc) (rfE gl (.slice ua m uc))), true), (pre (rowB gl (.slice va n vc) (rfE gl (.slice va n vc))), true)]) (tr := [⟨.loop refsC, refsS (.slice va n vc) (.slice ua m uc) 0, some (some 0), refsS (.slice va n vc) (.slice ua m uc) n⟩]) (by kernel_rfl) ?_ Try.func32 w _ hG ha fun t ht => ?_
     . exact qA (by rw [hnm]; simp) <| qA (rowB_ok.mpr hu) <| qA (rowB_ok.mpr hv) qZ
     . obtain rfl := List.mem_singleton.mp ht
       exact hl
   . rw [show Nat.beq s n = false from by rw [<- Bool.not_eq_true]; exact fun hb => h (qB hb)]
     have hl := sem_loop (E := enD0 gl) (w0 := base0 w) (nb := 0) (nl := 0) (n := 26) (c := refsC) (x := some none) (s' := refsF) (fun i => refsS (.slice va n vc) (.slice ua m uc) i) s (by simp) (fun i hi => refs_step gl va ua n m vc uc i hn hv hu (by omega) (by omega) (g2 i (by omega) hi) w hG) (refs_out gl va ua n m vc uc s hn hv hu (by omega) (by omega) (g3 (by omega)) w hG)
     refine fn_ok (enD0_ok gl) (fuel := 1000) (d := 30) (plan := [⟨refsP, refsQ, some none, refsF⟩]) (orc := [false]) (fls := [[true], [true]]) (l := [((n : Int) != (m : Int), false), (pre (rowB gl (.slice ua m uc) (rfE gl (.slice ua m uc))), true), (pre (rowB gl (.slice va n vc) (rfE gl (.slice va n vc))), true)]) (tr := [⟨.loop refsC, refsS (.slice va n vc) (.slice ua m uc) 0, some none, refsF⟩]) (by kernel_rfl) ?_ Try.func32 w _ hG ha fun t ht => ?_
     . exact qA (by rw [hnm]; simp) <| qA (rowB_ok.mpr hu) <| qA (rowB_ok.mpr hv) qZ
     . obtain rfl := List.mem_singleton.mp ht
       exact hl
 . rw [show Nat.beq n m = false from by rw [<- Bool.not_eq_true]; exact fun hb => hnm (qB hb), Bool.false_and]
   refine fn_ok (enD0_ok gl) (fuel := 1000) (d := 30) (plan := []) (orc := [true]) (fls := [[true], [true]]) (l := [((n : Int) != (m : Int), true), (pre (rowB gl (.slice ua m uc) (rfE gl (.slice ua m uc))), true), (pre (rowB gl (.slice va n vc) (rfE gl (.slice va n vc))), true)]) (tr := []) (by kernel_rfl) ?_ Try.func32 w _ hG ha fun t ht => by cases ht
   exact qA (by rw [bne_iff_ne]; omega) <| qA (rowB_ok.mpr hu) <| qA (rowB_ok.mpr hv) qZ
def decVV : List Value -> Option (Value × Value)
 | [.slice a n c, .slice b m d] => some (.slice a n c, .slice b m d)
 | _ => none
theorem decVV_eq : ∀ l x, decVV l = some x -> ∃ a n c b m d, x = (.slice a n c, .slice b m d) /\ l = [.slice a n c, .slice b m d] := fun l x h => by
 unfold decVV at h
 split at h
 . simp only [qS] at h
   exact ⟨_, _, _, _, _, _, h.symm, rfl⟩
 . cases h
noncomputable def rfsOk (gl : Gl) (v : Value) : Prop := rowG gl v (rfE gl v) /\ lenV v <= 9223372036854775807
noncomputable def pRefs (gl : Gl) : PTab := prowD 32 fun l => match decVV l with
 | some x => some (.bool (refsZ gl x.1 x.2), pre (propB (rfsOk gl x.1 /\ rowG gl x.2 (rfE gl x.2))))
 | none => none
theorem pRefs_ok {gl : Gl} : PTabOk Try.prog gl (pRefs gl) := .rowD fun args v h w hG => by
 split at h
 . rename_i x hd
   simp only [qS, qP] at h
   obtain ⟨rfl, hp⟩ := h
   obtain ⟨a, n, c, b, m, d, rfl, rfl⟩ := decVV_eq _ _ hd
   obtain ⟨⟨h1, h2⟩, h3⟩ := propB_ok.mp hp
   exact refs_ret a b n m c d h2 h1 h3 w hG
 . cases h
end Go.Proofs.Ytmaffamhjmlonaa
