/- Layer 10: the program: settle finds the fewest long branches. -/
import Derived.Test.YtilljoemebbnjaaDoorK08
import Derived.Test.YtilljoemebbnjaaDoorTarg10
set_option linter.unusedVariables false
set_option linter.unusedSimpArgs false
namespace Go.Proofs.YtilljoemebbnjaaDoor
open Go.RowKit Sim S2
def nxG (n : Nat) (f : Nat -> It) (g : Nat -> Bool) : Nat -> Bool := fun i => g i || lgB n f g i
def stR (n : Nat) (f : Nat -> It) : Nat -> Nat -> Bool
 | 0 => fun _ => false
 | k + 1 => nxG n f (stR n f k)
theorem cntB_mono {g h : Nat -> Bool} : ∀ {n : Nat}, subB n g h -> cntB g n <= cntB h n
 | 0, _ => Nat.le_refl _
 | n + 1, hs => by
   have := cntB_mono (n := n) fun i hi => hs i (by omega)
   show cntB g n + _ <= cntB h n + _
   have hn := hs n (by omega)
   cases hg : g n
   . simp only [cond_false]; cases h n <;> simp only [cond_true, cond_false] <;> omega
   . rw [hn hg]; simp only [cond_true]; omega
theorem cntB_lt {g h : Nat -> Bool} {i : Nat} (hg : g i = false) (hh : h i = true) : ∀ {n : Nat}, i < n -> subB n g h -> cntB g n + 1 <= cntB h n
 | 0, hi, _ => by omega
 | n + 1, hi, hs => by
   show cntB g n + _ + 1 <= cntB h n + _
   by_cases e : i = n
   . subst e
     have := cntB_mono (n := i) (g := g) (h := h) fun j hj => hs j (by omega)
     rw [hg, hh]; simp only [cond_true, cond_false]; omega
   . have := cntB_lt hg hh (n := n) (by omega) fun j hj => hs j (by omega)
     have hn := hs n (by omega)
     cases hgn : g n
     . simp only [cond_false]; cases h n <;> simp only [cond_true, cond_false] <;> omega
     . rw [hn hgn]; simp only [cond_true]; omega
theorem nx_sub (n : Nat) (f : Nat -> It) (g : Nat -> Bool) : subB n g (nxG n f g) := fun i _ h => by unfold nxG; rw [h]; rfl
theorem stR_cnt (n : Nat) (f : Nat -> It) : ∀ k, (∀ j, j < k -> fstN (lgB n f (stR n f j)) n ≠ none) -> k <= cntB (stR n f k) n
 | 0, _ => Nat.zero_le _
 | k + 1, h => by
   have hk := stR_cnt n f k fun j hj => h j (by omega)
   cases e : fstN (lgB n f (stR n f k)) n with
   | none => exact absurd e (h k (by omega))
   | some i =>
     obtain ⟨h1, h2, _⟩ := fst_some e
     have := cntB_lt (h := nxG n f (stR n f k)) (lgB_not h2) (by unfold nxG; rw [h2, Bool.or_true]) h1 (nx_sub n f _)
     show k + 1 <= cntB (nxG n f (stR n f k)) n
     omega
theorem st_stops (n : Nat) (f : Nat -> It) : ∃ k, k <= n /\ fstN (lgB n f (stR n f k)) n = none /\ ∀ j, j < k -> fstN (lgB n f (stR n f j)) n ≠ none := by
 cases h : fstN (fun k => (fstN (lgB n f (stR n f k)) n).isNone) (n + 1) with
 | some k =>
   obtain ⟨h1, h2, h3⟩ := fst_some h
   exact ⟨k, by omega, Option.isNone_iff_eq_none.mp h2, fun j hj hc => by have := h3 j hj; rw [hc] at this; cases this⟩
 | none =>
   have hall := fst_none h
   have := stR_cnt n f (n + 1) fun j hj hc => by have := hall j hj; rw [hc] at this; cases this
   have := cntB_le (stR n f (n + 1)) n
   omega
theorem stR_sub (n : Nat) (f : Nat -> It) : ∀ k, subB n (stR n f k) (lgG n f)
 | 0 => fun i _ h => by cases h
 | k + 1 => fun i hi h => by
   have ih := stR_sub n f k
   have h : (stR n f k i || lgB n f (stR n f k) i) = true := h
   cases hg : stR n f k i
   . rw [hg, Bool.false_or] at h
     unfold lgB at h
     obtain ⟨h1, h2⟩ := Bool.and_eq_true_iff.mp h
     obtain ⟨_, h3⟩ := Bool.and_eq_true_iff.mp h2
     exact lg_inv ih hi (eq_of_beq h1) h3
   . exact ih i hi hg
theorem stR_kind {n : Nat} {f : Nat -> It} {k i : Nat} (hi : i < n) (h : stR n f k i = true) : (f i).kind = 3 := (lgG_kind (stR_sub n f k i hi h)).2
theorem stR_end {n : Nat} {f : Nat -> It} {k : Nat} (h : fstN (lgB n f (stR n f k)) n = none) (i : Nat) (hi : i < n) : stR n f k i = lgG n f i := lg_eq (stR_sub n f k) (fun j hj => fst_none h j hj) i hi
theorem ahN_cg {f : Nat -> It} {g h : Nat -> Bool} : ∀ {i : Nat}, (∀ j, j < i -> g j = h j) -> ahN f g i = ahN f h i
 | 0, _ => rfl
 | i + 1, e => by
   show ahN f g i + _ + _ = ahN f h i + _ + _
   rw [ahN_cg fun j hj => e j (by omega), e i (by omega)]
theorem fit13 (z : Int) : (!fitZ (4 * z) 13) = (decide (4 * z < -4096) || decide (4 * z > 4094)) := by
 unfold fitZ
 rw [if_pos (by decide)]
 unfold fitsB
 show (!((4 * z) / 4096 == 0 || (4 * z) / 4096 == -1)) = _
 by_cases h1 : 4 * z < -4096
 . rw [decide_eq_true h1, Bool.true_or]
   have : ¬ (4 * z) / 4096 = 0 := by omega
   have : ¬ (4 * z) / 4096 = -1 := by omega
   simp [*]
 . rw [decide_eq_false h1, Bool.false_or]
   by_cases h2 : 4 * z > 4094
   . rw [decide_eq_true h2]
     have : ¬ (4 * z) / 4096 = 0 := by omega
     have : ¬ (4 * z) / 4096 = -1 := by omega
     simp [*]
   . rw [decide_eq_false h2]
     by_cases h3 : 0 <= z
     . have : (4 * z) / 4096 = 0 := by omega
       simp [this]
     . have : (4 * z) / 4096 = -1 := by omega
       simp [this]
theorem laI_at {n : Nat} {f : Nat -> It} (h : mayU n f = true) {i : Nat} (hi : i < n) (hk : (f i).kind = 2 \/ (f i).kind = 3) : labAt f n (f i).n = some (laI f (f i).n n) /\ laI f (f i).n n < n := by
 obtain ⟨k, h1, h2, _⟩ := may_lab h hi hk (fun _ => false)
 obtain ⟨_, _, u2, _⟩ := mayU_ok h
 obtain ⟨_, hl, _⟩ := fst_some (show fstN (labB f (f i).n) n = some k from h1)
 have e : laI f (f i).n n = k := laI_lab hl h2 fun j h3 h4 => by
   cases hj : labB f (f i).n j
   . rfl
   . have hb2 := u2 j h4
     unfold bad2 at hb2
     unfold labB at hj
     obtain ⟨q1, q2⟩ := Bool.and_eq_true_iff.mp hj
     rw [q1, Bool.true_and, eq_of_beq q2] at hb2
     have := any_no hb2 k h3
     rw [hl] at this
     cases this
 rw [e]; exact ⟨h1, h2⟩
theorem tgZ_at {n : Nat} {f : Nat -> It} {i : Nat} (hk : (f i).kind = 2 \/ (f i).kind = 3) : tgZ f n i = (laI f (f i).n n : Nat) := by
 rw [tgZ_eq]
 unfold tgF
 have : ((f i).kind == 2 || (f i).kind == 3) = true := by rcases hk with hk | hk <;> rw [hk] <;> rfl
 rw [this, lok_tg]; rfl
theorem dz_dis {n : Nat} {f : Nat -> It} {g : Nat -> Bool} (h : mayU n f = true) {i : Nat} (hi : i < n) (hk : (f i).kind = 2 \/ (f i).kind = 3) : dzF (tgZ f n) (fun i => (ahN f g i : Int)) i = disN f g n i := by
 rw [disN_at (laI_at h hi hk).1]
 unfold dzF
 rw [tgZ_at hk, qN]
theorem ml_lg {n : Nat} {f : Nat -> It} {g : Nat -> Bool} (h : mayU n f = true) {i : Nat} (hi : i < n) : mlF f (tgZ f n) (fun i => (ahN f g i : Int)) g i = lgB n f g i := by
 unfold mlF lgB
 cases hk : (f i).kind == 3
 . rfl
 . have hk3 : (f i).kind = 3 := eq_of_beq hk
   have e := dz_dis (g := g) h hi (.inr hk3)
   rw [disN_at (laI_at h hi (.inr hk3)).1] at e ⊢
   rw [e, fit13]
theorem ln_nx {n : Nat} {f : Nat -> It} {g : Nat -> Bool} (h : mayU n f = true) {k : Nat} (hk : fstN (lgB n f g) n = some k) (i : Nat) (hi : i < n) : lnJ f (tgZ f n) (fun i => (ahN f g i : Int)) g k n i = nxG n f g i := by
 obtain ⟨h1, h2, h3⟩ := fst_some hk
 unfold lnJ nxG
 rw [ml_lg h hi, blt_yes hi, Bool.true_and]
 by_cases hik : i < k
 . rw [h3 i hik, Bool.and_false]
 . rw [show Nat.ble k i = true from Nat.ble_eq_true_of_le (by omega), Bool.true_and]
noncomputable def envSt (n : Nat) (f : Nat -> It) : S2.Env := enve Tryd.prog (fun _ => none) true noT noP (lTarg n f) (orE (eMust n f) (orE (ePlace n f) (eLen n f)))
theorem envSt_ok (n : Nat) (f : Nat -> It) : CallOk (envSt n f) := enve_ok (nw := true) (.none _ _) (.none _ _) (lTarg_ok n f) ((eMust_ok n f).or ((ePlace_ok n f).or (eLen_ok n f)))
def seM (n : Nat) (f : Nat -> It) (tg at_ : Nat -> Int) (lg : Nat -> Bool) : S2.Mem := ⟨[layB], [itE n f, iE n tg, iE n at_, blE n lg]⟩
def seS (n : Nat) (f : Nat -> It) (tg at_ : Nat -> Int) (lg : Nat -> Bool) : S2.St := { tmps := [(0, .c 0), (3, .inr (0, 0, none))], own := seM n f tg at_ lg, lo := 0, llo := 0, mem := true, orc := [], obl := [] }
def seJ (n : Nat) (f : Nat -> It) (tg at_ : Nat -> Int) (lg : Nat -> Bool) (j : Nat) : S2.St := { tmps := [(0, .c 0), (3, .inr (0, 0, none)), (19, .inl ([true], .int .i64 n)), (20, .inl ([true], .int .i64 j))], own := seM n f tg at_ lg, lo := 0, llo := 0, mem := true, orc := [], obl := [] }
def seR (n : Nat) (f : Nat -> It) (tg at_ : Nat -> Int) (lg : Nat -> Bool) : S2.St := { tmps := [(2, .inr (0, 0, none))], own := seM n f tg at_ lg, lo := 0, llo := 0, mem := true, orc := [], obl := [] }
def seP : List Nat := [0, 1, 1, 0, 1]
def sePI : List Nat := [0, 1, 0, 1, 0]
noncomputable def seC : Code := codeAt (codeOf Tryd.prog 43) (0 :: seP)
noncomputable def seCI : Code := codeAt (codeOf Tryd.prog 43) (0 :: (sePI ++ (0 :: seP)))
def seQ : Pick := { ts := [0, 3], bs := [0], ls := [0, 1, 2, 3], opn := [] }
def seQJ : Pick := { ts := [0, 3, 19, 20], bs := [0], ls := [0, 1, 2, 3], opn := [20] }
def seQR : Pick := { ts := [2], bs := [0], ls := [0, 1, 2, 3], opn := [] }
theorem se_no (n : Nat) (f : Nat -> It) (tg at_ : Nat -> Int) (lg : Nat -> Bool) (j : Nat) (hn : n <= 1000000) (r1 : ∀ j, j < n -> 0 <= tg j /\ tg j < n) (r2 : ∀ j, j < n -> 0 <= at_ j /\ at_ j <= 2 * n) (hj : j < n) (hm : mlE f (iE n tg) (iE n at_) (blE n lg) j = false) (w0 : S2.Base) (hG : GlobB (envSt n f) w0) : SemA (envSt n f) w0 0 1 31 seCI (seJ n f tg at_ lg j) (none) (seJ n f tg at_ lg (j + 1)) := by
 refine semA_iter (envSt_ok n f) hG (p := seQJ) (fuel := 1000) [true, false] [(pre (inI ((j : Int) + 1)), true), (mlE f (iE n tg) (iE n at_) (blE n lg) ((j : Int)).toNat, false), (pre (propB (layOk n f layB (itE n f) (iE n tg) (iE n at_) (blE n lg) /\ 0 <= (j : Int) /\ (j : Int) < (n : Int))), true), (decide ((j : Int) < (n : Int)), true)] (by kernel_rfl) (by kernel_rfl) ?_
 try simp only [qN]
 refine qF ?_ ?_ ?_ ?_ <| qZ
 . exact ob_inI (by omega)
 . assumption
 . exact propB_ok.mpr ⟨layOk_self n f tg at_ lg hn r1 r2, by omega, by omega⟩
 . exact ob_yes (by omega)
theorem se_yes (n : Nat) (f : Nat -> It) (tg at_ : Nat -> Int) (lg : Nat -> Bool) (j : Nat) (hn : n <= 1000000) (r1 : ∀ j, j < n -> 0 <= tg j /\ tg j < n) (r2 : ∀ j, j < n -> 0 <= at_ j /\ at_ j <= 2 * n) (hj : j < n) (hm : mlE f (iE n tg) (iE n at_) (blE n lg) j = true) (w0 : S2.Base) (hG : GlobB (envSt n f) w0) : SemA (envSt n f) w0 0 1 31 seCI (seJ n f tg at_ lg j) (some (some 1)) (seS n f tg at_ (lnJ f tg at_ lg j n)) := by
 refine semA_iter (envSt_ok n f) hG (p := seQ) (fuel := 1000) [true, true] [(pre (propB (layOk n f layB (itE n f) (iE n tg) (iE n at_) (blE n lg) /\ 0 <= (j : Int) /\ (j : Int) < (n : Int))), true), (mlE f (iE n tg) (iE n at_) (blE n lg) ((j : Int)).toNat, true), (pre (propB (layOk n f layB (itE n f) (iE n tg) (iE n at_) (blE n lg) /\ 0 <= (j : Int) /\ (j : Int) < (n : Int))), true), (decide ((j : Int) < (n : Int)), true)] (by kernel_rfl) (by kernel_rfl) ?_
 try simp only [qN]
 refine qF ?_ ?_ ?_ ?_ <| qZ
 . exact propB_ok.mpr ⟨layOk_self n f tg at_ lg hn r1 r2, by omega, by omega⟩
 . assumption
 . exact propB_ok.mpr ⟨layOk_self n f tg at_ lg hn r1 r2, by omega, by omega⟩
 . exact ob_yes (by omega)
theorem se_end (n : Nat) (f : Nat -> It) (tg at_ : Nat -> Int) (lg : Nat -> Bool) (w0 : S2.Base) (hG : GlobB (envSt n f) w0) : SemA (envSt n f) w0 0 1 31 seCI (seJ n f tg at_ lg n) (some (some 2)) (seS n f tg at_ lg) := by
 refine semA_iter (envSt_ok n f) hG (p := seQ) (fuel := 1000) [false] [(decide ((n : Int) < (n : Int)), false)] (by kernel_rfl) (by kernel_rfl) ?_
 try simp only [qN]
 refine qA ?_ <| qZ
 . exact ob_no (by omega)
theorem se_in (n : Nat) (f : Nat -> It) (g : Nat -> Bool) (hn : n <= 1000000) (hy : mayU n f = true) (k : Nat) (hk : fstN (lgB n f g) n = some k) (w0 : S2.Base) (hG : GlobB (envSt n f) w0) : SemA (envSt n f) w0 0 1 31 (.loop seCI) (seJ n f (tgZ f n) (fun i => (ahN f g i : Int)) g 0) (some (some 1)) (seS n f (tgZ f n) (fun i => (ahN f g i : Int)) (nxG n f g)) := by
 obtain ⟨h1, h2, h3⟩ := fst_some hk
 have r2 : ∀ j, j < n -> 0 <= (ahN f g j : Int) /\ (ahN f g j : Int) <= 2 * n := fun j hj => by have := ahN_le f g j; omega
 refine (sem_loop (x := some (some 1)) (fun j => seJ n f (tgZ f n) (fun i => (ahN f g i : Int)) g j) k (by simp) (fun j hj => se_no n f _ _ g j hn (tgZ_rng f n) r2 (by omega) (by rw [mlE_self, ml_lg hy (by omega)]; exact h3 j hj) w0 hG) (se_yes n f _ _ g k hn (tgZ_rng f n) r2 h1 (by rw [mlE_self, ml_lg hy h1]; exact h2) w0 hG)).same rfl rfl ⟨.refl _, .refl _, .refl _, same_blE fun i hi => ln_nx hy hk i hi, trivial⟩ rfl
theorem se_out (n : Nat) (f : Nat -> It) (g : Nat -> Bool) (hn : n <= 1000000) (hy : mayU n f = true) (hk : fstN (lgB n f g) n = none) (w0 : S2.Base) (hG : GlobB (envSt n f) w0) : SemA (envSt n f) w0 0 1 31 (.loop seCI) (seJ n f (tgZ f n) (fun i => (ahN f g i : Int)) g 0) (some (some 2)) (seS n f (tgZ f n) (fun i => (ahN f g i : Int)) g) := by
 have h3 := fst_none hk
 have r2 : ∀ j, j < n -> 0 <= (ahN f g j : Int) /\ (ahN f g j : Int) <= 2 * n := fun j hj => by have := ahN_le f g j; omega
 exact sem_loop (x := some (some 2)) (fun j => seJ n f (tgZ f n) (fun i => (ahN f g i : Int)) g j) n (by simp) (fun j hj => se_no n f _ _ g j hn (tgZ_rng f n) r2 (by omega) (by rw [mlE_self, ml_lg hy (by omega)]; exact h3 j hj) w0 hG) (se_end n f _ _ g w0 hG)
theorem se_round (n : Nat) (f : Nat -> It) (at_ : Nat -> Int) (g : Nat -> Bool) (hn : n <= 1000000) (hy : mayU n f = true) (r2 : ∀ j, j < n -> 0 <= at_ j /\ at_ j <= 2 * n) (hl : ∀ i, i < n -> g i = true -> (f i).kind = 3) (k : Nat) (hk : fstN (lgB n f g) n = some k) (w0 : S2.Base) (hG : GlobB (envSt n f) w0) : SemA (envSt n f) w0 0 1 31 seC (seS n f (tgZ f n) at_ g) (none) (seS n f (tgZ f n) (fun i => (ahN f g i : Int)) (nxG n f g)) := by
 refine semA_iterP (envSt_ok n f) hG (fuel := 1000) (d := 30) (p := seQ) [⟨sePI, seQJ, some (some 1), seS n f (tgZ f n) (fun i => (ahN f g i : Int)) (nxG n f g)⟩] [] [(pre (propB (layOk n f layB (itE n f) (iE n (tgZ f n)) (iE n at_) (blE n g) /\ ∀ i, i < n -> blL (blE n g) i = true -> (f i).kind = 3)), true)] [⟨.loop seCI, seJ n f (tgZ f n) (fun i => (ahN f g i : Int)) g 0, some (some 1), seS n f (tgZ f n) (fun i => (ahN f g i : Int)) (nxG n f g)⟩] (by kernel_rfl) (by kernel_rfl) ?_ (fun t ht => by obtain rfl := List.mem_singleton.mp ht; exact se_in n f g hn hy k hk w0 hG)
 try simp only [qN]
 refine qA ?_ <| qZ
 . exact propB_ok.mpr ⟨layOk_self n f (tgZ f n) at_ g hn (tgZ_rng f n) r2, hl⟩
theorem se_last (n : Nat) (f : Nat -> It) (at_ : Nat -> Int) (g : Nat -> Bool) (hn : n <= 1000000) (hy : mayU n f = true) (r2 : ∀ j, j < n -> 0 <= at_ j /\ at_ j <= 2 * n) (hl : ∀ i, i < n -> g i = true -> (f i).kind = 3) (hk : fstN (lgB n f g) n = none) (w0 : S2.Base) (hG : GlobB (envSt n f) w0) : SemA (envSt n f) w0 0 1 31 seC (seS n f (tgZ f n) at_ g) (some none) (seR n f (tgZ f n) (fun i => (ahN f g i : Int)) g) := by
 refine semA_iterP (envSt_ok n f) hG (fuel := 1000) (d := 30) (p := seQR) [⟨sePI, seQJ, some (some 2), seS n f (tgZ f n) (fun i => (ahN f g i : Int)) g⟩] [] [(pre (propB (layOk n f layB (itE n f) (iE n (tgZ f n)) (iE n at_) (blE n g) /\ ∀ i, i < n -> blL (blE n g) i = true -> (f i).kind = 3)), true)] [⟨.loop seCI, seJ n f (tgZ f n) (fun i => (ahN f g i : Int)) g 0, some (some 2), seS n f (tgZ f n) (fun i => (ahN f g i : Int)) g⟩] (by kernel_rfl) (by kernel_rfl) ?_ (fun t ht => by obtain rfl := List.mem_singleton.mp ht; exact se_out n f g hn hy hk w0 hG)
 try simp only [qN]
 refine qA ?_ <| qZ
 . exact propB_ok.mpr ⟨layOk_self n f (tgZ f n) at_ g hn (tgZ_rng f n) r2, hl⟩
def seA (n : Nat) (f : Nat -> It) : Nat -> Nat -> Int
 | 0 => fun _ => 0
 | k + 1 => fun i => (ahN f (stR n f k) i : Int)
theorem seA_rng (n : Nat) (f : Nat -> It) : ∀ k j, j < n -> 0 <= seA n f k j /\ seA n f k j <= 2 * n
 | 0, j, hj => ⟨by show (0 : Int) <= 0; omega, by show (0 : Int) <= 2 * n; omega⟩
 | k + 1, j, hj => by have := ahN_le f (stR n f k) j; show 0 <= (ahN f (stR n f k) j : Int) /\ (ahN f (stR n f k) j : Int) <= 2 * n; omega
theorem settle_sem (n : Nat) (f : Nat -> It) (hn : n <= 1000000) (hr : ∀ j, j < n -> wfIt (f j)) (hy : mayU n f = true) : SemF Tryd.prog (fun _ => none) 43 [.c 0] ⟨[], [itE n f]⟩ (.inr (0, 0, none)) (seM n f (tgZ f n) (fun i => (ahN f (lgG n f) i : Int)) (lgG n f)) := by
 obtain ⟨k, k1, k2, k3⟩ := st_stops n f
 have h := fnS_ok (E := envSt n f) (envSt_ok n f) rfl (fuel := 1000) (d := 30) (f := 43) (args := [.c 0]) (own := ⟨[], [itE n f]⟩) (plan := [⟨seP, seQ, some none, seR n f (tgZ f n) (fun i => (ahN f (stR n f k) i : Int)) (stR n f k)⟩]) (orc := []) (l := [(pre (decide ((n : Int) = (n : Int) /\ 0 <= (n : Int) /\ 1 * ((n : Int)).toNat <= 281474976710656 /\ ((n : Int)).toNat <= maxLen)), true), (pre (decide ((n : Int) = (n : Int) /\ 0 <= (n : Int) /\ 8 * ((n : Int)).toNat <= 281474976710656 /\ ((n : Int)).toNat <= maxLen)), true), (pre (propB (isItE (itE n f) n f /\ n <= 1000000 /\ ∀ (j : Nat), j < n -> wfIt (f j))), true)]) (tr := [⟨.loop seC, seS n f (tgZ f n) (fun _ => 0) (fun _ => false), some none, seR n f (tgZ f n) (fun i => (ahN f (stR n f k) i : Int)) (stR n f k)⟩]) (r := .inr (0, 0, none)) (own' := seM n f (tgZ f n) (fun i => (ahN f (stR n f k) i : Int)) (stR n f k)) (by kernel_rfl) (by kernel_rfl) ?_ Tryd.func43 fun w0 hG t ht => by
   obtain rfl := List.mem_singleton.mp ht
   exact sem_loop (x := some none) (fun j => seS n f (tgZ f n) (seA n f j) (stR n f j)) k (by simp) (fun j hj => by
     cases e : fstN (lgB n f (stR n f j)) n with
     | none => exact absurd e (k3 j hj)
     | some i => exact se_round n f _ _ hn hy (seA_rng n f j) (fun i hi h => stR_kind hi h) i e w0 hG) (se_last n f _ _ hn hy (seA_rng n f k) (fun i hi h => stR_kind hi h) k2 w0 hG)
 . have hs : ∀ i, i < n -> stR n f k i = lgG n f i := fun i hi => stR_end k2 i hi
   exact h.same rfl ⟨.refl _, .refl _, same_iE fun i hi => by rw [ahN_cg fun j hj => hs j (by omega)], same_blE hs, trivial⟩
 . refine qA ?_ <| qA ?_ <| qA ?_ qZ
   . unfold pre; exact decide_eq_true ⟨rfl, by omega, by omega, by rw [qN]; unfold maxLen; omega⟩
   . unfold pre; exact decide_eq_true ⟨rfl, by omega, by omega, by rw [qN]; unfold maxLen; omega⟩
   . exact propB_ok.mpr ⟨isItE_self n f (by omega), hn, hr⟩
noncomputable def eSettle (n : Nat) (f : Nat -> It) : ETab := erow 43 fun args own => match args, own with
 | [.c 0], ⟨[], [e0]⟩ => some { x := .inr (0, 0, none), ab := [layB], al := [iE n (tgZ f n), iE n (fun i => (ahN f (lgG n f) i : Int)), blE n (lgG n f)], ok := pre (propB (isOIt e0 n f /\ n <= 1000000 /\ (∀ j, j < n -> wfIt (f j)) /\ mayU n f = true)) }
 | _, _ => none
theorem eSettle_ok {gl : Gl} (n : Nat) (f : Nat -> It) : EffOk Tryd.prog gl (eSettle n f) := .row fun args own r h hr => by
 split at h
 . rename_i e0
   simp only [qS] at h
   subst h
   obtain ⟨⟨a1, a2, a3, a4, a5, a6⟩, hn, hw, hy⟩ := propB_ok.mp hr
   have hs : sameL [e0] [itE n f] := ⟨⟨a1, a2, a3, a4, a5, fun j hj => a6 j (by omega)⟩, trivial⟩
   show SemF _ _ _ _ ⟨[], [e0]⟩ _ ⟨[layB], [e0, iE n (tgZ f n), iE n (fun i => (ahN f (lgG n f) i : Int)), blE n (lgG n f)]⟩
   exact SemF.anyGlob (((settle_sem n f hn hw hy).from (own2 := ⟨[], [e0]⟩) rfl hs).same rfl ⟨(sameL_flip hs).1, .refl _, .refl _, .refl _, trivial⟩)
 . cases h
end Go.Proofs.YtilljoemebbnjaaDoor
