/- Layer 13: package cand: Behind, where the first row's first store is asked for. -/
import Derived.Test.YtmaffamhjmlonaaSameF13
set_option linter.unusedVariables false
set_option linter.unusedSimpArgs false
namespace Go.Proofs.Ytmaffamhjmlonaa
open Go Go.RowKit Sim S2
noncomputable def stoK : Code := codeAt (codeOf Try.prog 41) [0, 0, 1, 0, 1]
def stoS (c : Cn) (x : Int) : S2.St := { tmps := [(1, .inl ([true], .int .i64 x)), (8, .inl ([true], .slice c.ra c.rn c.rc)), (9, .inl ([true], .int .i64 c.rn)), (10, .inl ([], .int .i64 0))], own := ⟨[], []⟩, lo := 0, llo := 0, mem := true, orc := [], obl := [] }
noncomputable def stoT (gl : Gl) (c : Cn) : S2.St := { tmps := [(4, .inl ([true], slG gl (.slice c.ra c.rn c.rc) 2 1 0))], own := ⟨[], []⟩, lo := 0, llo := 0, mem := true, orc := [], obl := [] }
noncomputable def ixfK : Code := codeAt (codeOf Try.prog 42) [0, 0, 1, 0, 1]
def ixfS (a : Option Addr) (n c : Nat) (r : Rf) : S2.St := { tmps := [(0, .inl ([true], .slice a n c)), (3, .inr (0, 0, none)), (7, .inl ([true], .int .i64 n)), (8, .inl ([], .int .i64 0))], own := ⟨[⟨[.inl ([true], .int .i64 r.h), .inl ([true], .int .i64 r.a)], 46, .cells⟩], []⟩, lo := 0, llo := 0, mem := true, orc := [], obl := [] }
def ixfT : S2.St := { tmps := [(4, .inl ([], .int .i64 0))], own := ⟨[], []⟩, lo := 0, llo := 0, mem := true, orc := [], obl := [] }
theorem enD0_okB (gl : Gl) : CallOk (enD gl noT noP noL) := enD_ok (.none _ _) (.none _ _) (.none _ _)
theorem stores_ret {gl : Gl} (c : Cn) (x : Int) (hc : CnOk gl c) (hn : 0 < c.rn) (hx : raG gl c.r 0 = x) (w : World) (hG : GlobOk gl w) : Ret Try.prog 41 #[cnV c, .int .i64 x] (slG gl c.r 2 1 0) w := by
 refine LRet.plain (?_ : LRet Try.prog 41 [cnV c, .int .i64 x] false [.inl (slG gl c.r 2 1 0)] w)
 refine fn_ok (enD0_okB gl) (fuel := 1000) (d := 30) (plan := [⟨[0, 1, 0, 1], { ts := [1, 8, 9, 10], bs := [], ls := [] }, some none, stoT gl c⟩]) (orc := []) (fls := [[true, true], [true]]) (args := [.inl (cnV c), .inl (.int .i64 x)]) (l := [(pre (rowB gl c.r (rwE gl c.r)), true)]) (tr := [⟨.loop stoK, stoS c x, some none, stoT gl c⟩]) (by kernel_rfl) (qA (rowB_ok.mpr hc.rw) qZ) Try.func41 w _ hG ⟨rfl, rfl, trivial⟩ fun t ht => ?_
 obtain rfl := List.mem_singleton.mp ht
 refine sem_loop (E := enD gl noT noP noL) (w0 := base0 w) (nb := 0) (nl := 0) (n := 21) (c := stoK) (x := some none) (s' := stoT gl c) (fun _ => stoS c x) 0 (by simp) (fun i hi => absurd hi (Nat.not_lt_zero _)) ?_
 exact sem_iter (enD0_okB gl) hG (p := { ts := [4], bs := [], ls := [] }) (fuel := 1000) [true, true] [(raG gl c.r 0 == x, true), (pre (rowB gl c.r (rwE gl c.r)), true), (pre (decide (0 < c.rn)), true), (pre (rowB gl c.r (rwE gl c.r)), true), (pre (idxB 0 c.rn), true), (decide ((0 : Int) < (c.rn : Int)), true)] (by kernel_rfl) (by kernel_rfl)
   (qA (by rw [hx]; exact beq_self_eq_true x) <| qA (rowB_ok.mpr hc.rw) <| qA (ob_lt hn) <| qA (rowB_ok.mpr hc.rw) <| qA (ob_idx (by omega)) <| qA (ob_yes (by omega)) qZ)
theorem ixref_ret {gl : Gl} (a : Option Addr) (n c : Nat) (r : Rf) (hv : rowG gl (.slice a n c) (rfE gl (.slice a n c))) (hn : 0 < n) (hr : rfG gl (.slice a n c) 0 = r) (w : World) (hG : GlobOk gl w) : Ret Try.prog 42 #[.slice a n c, rfV r.h r.a] (.int .i64 0) w := by
 refine LRet.plain (?_ : LRet Try.prog 42 [.slice a n c, rfV r.h r.a] false [.inl (.int .i64 0)] w)
 refine fn_ok (enD0_okB gl) (fuel := 1000) (d := 30) (plan := [⟨[0, 1, 0, 1], { ts := [0, 3, 7, 8], bs := [0], ls := [] }, some none, ixfT⟩]) (orc := []) (fls := [[true], [true, true]]) (args := [.inl (.slice a n c), .inl (rfV r.h r.a)]) (l := [(pre (rowB gl (.slice a n c) (rfE gl (.slice a n c))), true)]) (tr := [⟨.loop ixfK, ixfS a n c r, some none, ixfT⟩]) (by kernel_rfl) (qA (rowB_ok.mpr hv) qZ) Try.func42 w _ hG ⟨rfl, rfl, trivial⟩ fun t ht => ?_
 obtain rfl := List.mem_singleton.mp ht
 refine sem_loop (E := enD gl noT noP noL) (w0 := base0 w) (nb := 0) (nl := 0) (n := 19) (c := ixfK) (x := some none) (s' := ixfT) (fun _ => ixfS a n c r) 0 (by simp) (fun i hi => absurd hi (Nat.not_lt_zero _)) ?_
 exact sem_iter (enD0_okB gl) hG (p := { ts := [4], bs := [], ls := [] }) (fuel := 1000) [true, true] [(r.h == (rfG gl (.slice a n c) 0).h && (r.a == (rfG gl (.slice a n c) 0).a && true), true), (pre (rowB gl (.slice a n c) (rfE gl (.slice a n c))), true), (pre (decide (0 < n)), true), (pre (rowB gl (.slice a n c) (rfE gl (.slice a n c))), true), (pre (idxB 0 n), true), (decide ((0 : Int) < (n : Int)), true)] (by kernel_rfl) (by kernel_rfl)
   (qA (by rw [hr]; simp) <| qA (rowB_ok.mpr hv) <| qA (ob_lt hn) <| qA (rowB_ok.mpr hv) <| qA (ob_idx (by omega)) <| qA (ob_yes (by omega)) qZ)
noncomputable def pSto (gl : Gl) : PTab := prowD 41 fun l => match l with
 | [.agg ⟨[.slice a n c, .slice b m d]⟩, .int .i64 x] => some (.slice (slA gl (.slice b m d) 2 1 0) (slN gl (.slice b m d) 2 1 0) (slC gl (.slice b m d) 2 1 0), pre (propB (CnOk gl ⟨a, n, c, b, m, d⟩ /\ 0 < m /\ raG gl (.slice b m d) 0 = x)))
 | _ => none
theorem pSto_ok {gl : Gl} : PTabOk Try.prog gl (pSto gl) := .rowD fun args v h w hG => by
 split at h
 . simp only [qS, qP] at h
   obtain ⟨rfl, hp⟩ := h
   obtain ⟨h1, h2, h3⟩ := propB_ok.mp hp
   exact stores_ret _ _ h1 h2 h3 w hG
 . cases h
noncomputable def pIxf (gl : Gl) : PTab := prowD 42 fun l => match l with
 | [.slice a n c, .agg ⟨[.int .i64 x, .int .i64 y]⟩] => some (.int .i64 0, pre (propB (rowG gl (.slice a n c) (rfE gl (.slice a n c)) /\ 0 < n /\ rfG gl (.slice a n c) 0 = ⟨x, y⟩)))
 | _ => none
theorem pIxf_ok {gl : Gl} : PTabOk Try.prog gl (pIxf gl) := .rowD fun args v h w hG => by
 split at h
 . simp only [qS, qP] at h
   obtain ⟨rfl, hp⟩ := h
   obtain ⟨h1, h2, h3⟩ := propB_ok.mp hp
   exact ixref_ret _ _ _ ⟨_, _⟩ h1 h2 h3 w hG
 . cases h
theorem behind_ret {gl : Gl} (c : Cn) (x y : Int) (r : Rf) (hc : CnOk gl c) (hn : 0 < c.rn) (hx : raG gl c.r 0 = x) (hl : 0 < lenV (c.rv gl 0)) (hr : rfG gl (c.rv gl 0) 0 = r) (w : World) (hG : GlobOk gl w) : Ret Try.prog 17 #[cnV c, .int .i64 x, rfV (-1) y, rfV r.h r.a] (.bool true) w := by
 refine LRet.plain (?_ : LRet Try.prog 17 [cnV c, .int .i64 x, rfV (-1) y, rfV r.h r.a] false [.inl (.bool true)] w)
 have ho : CallOk (enD gl noT (orP (pSto gl) (pIxf gl)) noL) := enD_ok (.none _ _) (pSto_ok.or pIxf_ok) (.none _ _)
 refine fn_ok ho (fuel := 1000) (d := 30) (plan := []) (orc := []) (fls := [[true, true], [true], [false, true], [true, true]]) (args := [.inl (cnV c), .inl (.int .i64 x), .inl (rfV (-1) y), .inl (rfV r.h r.a)]) (l := [(pre (propB (rowG gl (c.rv gl 0) (rfE gl (c.rv gl 0)) /\ 0 < lenV (c.rv gl 0) /\ rfG gl (c.rv gl 0) 0 = ⟨r.h, r.a⟩)), true), (pre (propB (CnOk gl ⟨c.ha, c.hn, c.hc, c.ra, c.rn, c.rc⟩ /\ 0 < c.rn /\ raG gl c.r 0 = x)), true)]) (tr := []) (by kernel_rfl) (qA (propB_ok.mpr ⟨hc.rf 0 hn, hl, hr⟩) <| qA (propB_ok.mpr ⟨hc, hn, hx⟩) qZ) Try.func17 w _ hG ⟨rfl, rfl, rfl, rfl, trivial⟩ fun t ht => by cases ht
noncomputable def pBeh (gl : Gl) : PTab := prowD 17 fun l => match l with
 | [.agg ⟨[.slice a n c, .slice b m d]⟩, .int .i64 x, .agg ⟨[.int .i64 (.negSucc 0), .int .i64 y]⟩, .agg ⟨[.int .i64 h, .int .i64 k]⟩] => some (.bool true, pre (propB (CnOk gl ⟨a, n, c, b, m, d⟩ /\ 0 < m /\ raG gl (.slice b m d) 0 = x /\ 0 < lenV (slG gl (.slice b m d) 2 1 0) /\ rfG gl (slG gl (.slice b m d) 2 1 0) 0 = ⟨h, k⟩)))
 | _ => none
theorem pBeh_ok {gl : Gl} : PTabOk Try.prog gl (pBeh gl) := .rowD fun args v h w hG => by
 split at h
 . simp only [qS, qP] at h
   obtain ⟨rfl, hp⟩ := h
   obtain ⟨h1, h2, h3, h4, h5⟩ := propB_ok.mp hp
   exact behind_ret ⟨_, _, _, _, _, _⟩ _ _ ⟨_, _⟩ h1 h2 h3 h4 h5 w hG
 . cases h
end Go.Proofs.Ytmaffamhjmlonaa
