/- Layer 10: the reference: the fewest long branches, one by one. -/
import Derived.Test.YtilljoemebbnjaaDoorDist10
set_option linter.unusedVariables false
set_option linter.unusedSimpArgs false
namespace Go.Proofs.YtilljoemebbnjaaDoor
open Go.RowKit Sim S2
def updB (g : Nat -> Bool) (i : Nat) : Nat -> Bool := fun j => bif Nat.beq j i then true else g j
def lgB (n : Nat) (f : Nat -> It) (g : Nat -> Bool) (i : Nat) : Bool := (f i).kind == 3 && (!g i && (decide (disN f g n i < -4096) || decide (disN f g n i > 4094)))
def lgIt (n : Nat) (f : Nat -> It) : Nat -> Nat -> Bool
 | 0 => fun _ => false
 | k + 1 => match fstN (lgB n f (lgIt n f k)) n with
   | some i => updB (lgIt n f k) i
   | none => lgIt n f k
def cntB (g : Nat -> Bool) : Nat -> Nat
 | 0 => 0
 | k + 1 => cntB g k + (bif g k then 1 else 0)
theorem cntB_le (g : Nat -> Bool) : ∀ k, cntB g k <= k
 | 0 => Nat.le_refl _
 | k + 1 => by have := cntB_le g k; show cntB g k + _ <= _; cases g k <;> simp only [cond_true, cond_false] <;> omega
theorem updB_same (g : Nat -> Bool) (i : Nat) : updB g i i = true := by unfold updB; rw [Nat.beq_refl]; rfl
theorem updB_other (g : Nat -> Bool) {i j : Nat} (h : j ≠ i) : updB g i j = g j := by
 unfold updB
 cases e : Nat.beq j i
 . rfl
 . exact absurd (qB e) h
theorem cntB_congr {g h : Nat -> Bool} : ∀ {k : Nat}, (∀ j, j < k -> g j = h j) -> cntB g k = cntB h k
 | 0, _ => rfl
 | k + 1, hh => by show cntB g k + _ = cntB h k + _; rw [cntB_congr fun j hj => hh j (by omega), hh k (by omega)]
theorem cntB_upd (g : Nat -> Bool) (i : Nat) (hg : g i = false) : ∀ k, i < k -> cntB (updB g i) k = cntB g k + 1
 | 0, h => by omega
 | k + 1, h => by
   show cntB (updB g i) k + _ = cntB g k + _ + 1
   by_cases e : i = k
   . subst e
     rw [updB_same, hg, cntB_congr (h := g) fun j hj => updB_other g (by omega)]; rfl
   . rw [cntB_upd g i hg k (by omega), updB_other g (by omega)]; omega
theorem lgB_not {n : Nat} {f : Nat -> It} {g : Nat -> Bool} {i : Nat} (h : lgB n f g i = true) : g i = false := by
 unfold lgB at h
 obtain ⟨_, h⟩ := Bool.and_eq_true_iff.mp h
 obtain ⟨h, _⟩ := Bool.and_eq_true_iff.mp h
 simpa using h
theorem lgIt_cnt (n : Nat) (f : Nat -> It) : ∀ k, (∀ j, j < k -> fstN (lgB n f (lgIt n f j)) n ≠ none) -> cntB (lgIt n f k) n = k
 | 0, _ => by
   have : ∀ m, cntB (lgIt n f 0) m = 0 := fun m => by
     induction m with
     | zero => rfl
     | succ m ih => show cntB _ m + _ = 0; rw [ih]; rfl
   exact this n
 | k + 1, h => by
   have hk := lgIt_cnt n f k fun j hj => h j (by omega)
   cases e : fstN (lgB n f (lgIt n f k)) n with
   | none => exact absurd e (h k (by omega))
   | some i =>
     obtain ⟨h1, h2, _⟩ := fst_some e
     have e2 : lgIt n f (k + 1) = updB (lgIt n f k) i := by show (match fstN (lgB n f (lgIt n f k)) n with | some i => updB (lgIt n f k) i | none => lgIt n f k) = _; rw [e]
     rw [e2, cntB_upd _ i (lgB_not h2) n h1, hk]
theorem lg_stops (n : Nat) (f : Nat -> It) : ∃ k, k <= n /\ fstN (lgB n f (lgIt n f k)) n = none /\ ∀ j, j < k -> fstN (lgB n f (lgIt n f j)) n ≠ none := by
 cases h : fstN (fun k => (fstN (lgB n f (lgIt n f k)) n).isNone) (n + 1) with
 | some k =>
   obtain ⟨h1, h2, h3⟩ := fst_some h
   exact ⟨k, by omega, Option.isNone_iff_eq_none.mp h2, fun j hj hc => by have := h3 j hj; rw [hc] at this; cases this⟩
 | none =>
   have hall := fst_none h
   have := lgIt_cnt n f (n + 1) fun j hj hc => by have := hall j hj; rw [hc] at this; cases this
   have := cntB_le (lgIt n f (n + 1)) n
   omega
noncomputable def lgK (n : Nat) (f : Nat -> It) : Nat := Classical.choose (lg_stops n f)
theorem lgK_ok (n : Nat) (f : Nat -> It) : lgK n f <= n /\ fstN (lgB n f (lgIt n f (lgK n f))) n = none /\ ∀ j, j < lgK n f -> fstN (lgB n f (lgIt n f j)) n ≠ none := Classical.choose_spec (lg_stops n f)
noncomputable def lgG (n : Nat) (f : Nat -> It) : Nat -> Bool := lgIt n f (lgK n f)
theorem lgG_closed (n : Nat) (f : Nat -> It) (i : Nat) (hi : i < n) : lgB n f (lgG n f) i = false := fst_none (lgK_ok n f).2.1 i hi
def subB (n : Nat) (g h : Nat -> Bool) : Prop := ∀ i, i < n -> g i = true -> h i = true
theorem ahN_diff {f : Nat -> It} {g h : Nat -> Bool} {n : Nat} (hs : subB n g h) (a : Nat) : ∀ b, a <= b -> b <= n -> (ahN f g b : Int) - ahN f g a <= (ahN f h b : Int) - ahN f h a /\ ahN f g a <= ahN f g b
 | 0, h1, _ => by
   obtain rfl : a = 0 := by omega
   exact ⟨by omega, Nat.le_refl _⟩
 | b + 1, h1, h2 => by
   by_cases e : a = b + 1
   . subst e; exact ⟨by omega, Nat.le_refl _⟩
   . obtain ⟨i1, i2⟩ := ahN_diff (f := f) hs a b (by omega) (by omega)
     have hb := hs b (by omega)
     have e1 : ahN f g (b + 1) = ahN f g b + (bif (f b).kind != 1 then 1 else 0) + (bif g b then 1 else 0) := rfl
     have e2 : ahN f h (b + 1) = ahN f h b + (bif (f b).kind != 1 then 1 else 0) + (bif h b then 1 else 0) := rfl
     rw [e1, e2]
     generalize (bif (f b).kind != 1 then 1 else 0) = z
     have hle : (bif g b then 1 else 0) <= (bif h b then 1 else 0) := by
       cases hg : g b
       . exact Nat.zero_le _
       . rw [hb hg]; exact Nat.le_refl _
     generalize (bif g b then 1 else 0) = x at hle ⊢
     generalize (bif h b then 1 else 0) = y at hle ⊢
     constructor <;> omega
theorem far_mono {n : Nat} {f : Nat -> It} {g h : Nat -> Bool} (hs : subB n g h) {i : Nat} (hi : i < n) (hf : (decide (disN f g n i < -4096) || decide (disN f g n i > 4094)) = true) : (decide (disN f h n i < -4096) || decide (disN f h n i > 4094)) = true := by
 rw [Bool.or_eq_true, decide_eq_true_eq, decide_eq_true_eq] at hf ⊢
 unfold disN at hf ⊢
 cases hl : labAt f n (f i).n with
 | none => rw [hl] at hf; simp only at hf; omega
 | some k =>
   rw [hl] at hf
   simp only at hf ⊢
   have hk := (fst_some hl).1
   by_cases hc : i <= k
   . obtain ⟨a1, a2⟩ := ahN_diff (f := f) hs i k hc (by omega)
     omega
   . obtain ⟨a1, a2⟩ := ahN_diff (f := f) hs k i (by omega) (by omega)
     omega
theorem lgIt_least {n : Nat} {f : Nat -> It} {h : Nat -> Bool} (hc : ∀ i, i < n -> lgB n f h i = false) : ∀ k, subB n (lgIt n f k) h
 | 0 => fun i hi hg => by cases hg
 | k + 1 => by
   have ih := lgIt_least hc k
   show subB n (match fstN (lgB n f (lgIt n f k)) n with | some i => updB (lgIt n f k) i | none => lgIt n f k) h
   cases e : fstN (lgB n f (lgIt n f k)) n with
   | none => exact ih
   | some i =>
     obtain ⟨h1, h2, _⟩ := fst_some e
     intro j hj hg
     by_cases ej : j = i
     . subst ej
       have hb := hc j hj
       unfold lgB at h2 hb
       obtain ⟨h3, h4⟩ := Bool.and_eq_true_iff.mp h2
       obtain ⟨h5, h6⟩ := Bool.and_eq_true_iff.mp h4
       rw [h3, Bool.true_and, far_mono ih hj h6, Bool.and_true] at hb
       simpa using hb
     . exact ih j hj (by have hg : updB (lgIt n f k) i j = true := hg; rw [updB_other _ ej] at hg; exact hg)
theorem lgG_least {n : Nat} {f : Nat -> It} {h : Nat -> Bool} (hc : ∀ i, i < n -> lgB n f h i = false) : subB n (lgG n f) h := lgIt_least hc _
theorem lgIt_kind {n : Nat} {f : Nat -> It} : ∀ k i, lgIt n f k i = true -> i < n /\ (f i).kind = 3
 | 0, i, h => by cases h
 | k + 1, i, h => by
   have ih := lgIt_kind (n := n) (f := f) k i
   have e2 : lgIt n f (k + 1) = (match fstN (lgB n f (lgIt n f k)) n with | some i => updB (lgIt n f k) i | none => lgIt n f k) := rfl
   rw [e2] at h
   cases e : fstN (lgB n f (lgIt n f k)) n with
   | none => rw [e] at h; exact ih h
   | some j =>
     rw [e] at h
     obtain ⟨h1, h2, _⟩ := fst_some e
     by_cases ej : i = j
     . subst ej
       unfold lgB at h2
       exact ⟨h1, by simpa using (Bool.and_eq_true_iff.mp h2).1⟩
     . exact ih (by have h : updB (lgIt n f k) j i = true := h; rw [updB_other _ ej] at h; exact h)
theorem lgG_kind {n : Nat} {f : Nat -> It} {i : Nat} (h : lgG n f i = true) : i < n /\ (f i).kind = 3 := lgIt_kind _ i h
noncomputable def envL10 (n : Nat) (f : Nat -> It) : S2.Env := envk Tryd.prog (fun _ => none) true noT noP (lDist n f)
theorem envL10_ok (n : Nat) (f : Nat -> It) : CallOk (envL10 n f) := envk_ok (nw := true) (.none _ _) (.none _ _) (lDist_ok n f)
def lgI (n : Nat) (f : Nat -> It) (g : Nat -> Bool) (k i : Nat) : S2.St := { tmps := [(0, .c 0), (3, .c 1), (4, .inl ([true], .int .i64 k)), (5, .inl ([], .bool false)), (6, .inl ([true], .int .i64 i))], own := ⟨[], [itE n f, blE n g]⟩, lo := 0, llo := 0, mem := true, orc := [], obl := [] }
def lgF (n : Nat) (f : Nat -> It) (e : LE) (k : Nat) : S2.St := { tmps := [(0, .c 0), (3, .c 1), (4, .inl ([true], .int .i64 k)), (5, .inl ([], .bool true))], own := ⟨[], [itE n f, e]⟩, lo := 0, llo := 0, mem := true, orc := [], obl := [] }
def lgN (n : Nat) (f : Nat -> It) (e : LE) (k : Nat) : S2.St := { tmps := [(0, .c 0), (3, .c 1), (4, .inl ([true], .int .i64 k)), (5, .inl ([], .bool false))], own := ⟨[], [itE n f, e]⟩, lo := 0, llo := 0, mem := true, orc := [], obl := [] }
def lgS (n : Nat) (f : Nat -> It) (e : LE) (k : Nat) : S2.St := { tmps := [(0, .c 0), (3, .c 1), (4, .inl ([true], .int .i64 k))], own := ⟨[], [itE n f, e]⟩, lo := 0, llo := 0, mem := true, orc := [], obl := [] }
def lgQI : Pick := { ts := [0, 3, 4, 5, 6], bs := [], ls := [0, 1], opn := [6] }
def lgQF : Pick := { ts := [0, 3, 4, 5], bs := [], ls := [0, 1], opn := [] }
def lgQN : Pick := { ts := [0, 3, 4, 5], bs := [], ls := [0, 1], opn := [] }
def lgQS : Pick := { ts := [0, 3, 4], bs := [], ls := [0, 1], opn := [4] }
def lgP : List Nat := [0, 1, 0, 1, 1]
def lgPI : List Nat := [0, 1, 0, 1, 0, 0, 1]
noncomputable def lgC : Code := codeAt (codeOf Tryd.prog 33) (0 :: lgP)
noncomputable def lgCI : Code := codeAt (codeOf Tryd.prog 33) (0 :: (lgPI ++ (0 :: lgP)))
theorem isBl_E (n : Nat) (g : Nat -> Bool) : isBl (blE n g) n := ⟨rfl, rfl, fun j _ => ⟨g j, rfl⟩⟩
def stB (n : Nat) (g : Nat -> Bool) (i : Nat) : LE := ⟨4, 1, n, setE (fun j => [.bool (g j)]) i [.bool true], true, false, true⟩
theorem stB_same (n : Nat) (g : Nat -> Bool) (i : Nat) : sameE (stB n g i) (blE n (updB g i)) := ⟨rfl, rfl, rfl, rfl, rfl, fun j hj => by
 show setE (fun j => [.bool (g j)]) i [.bool true] j = [.bool (updB g i j)]
 unfold setE updB; cases Nat.beq j i <;> rfl⟩
theorem lg_tt (n : Nat) (f : Nat -> It) (g : Nat -> Bool) (k i : Nat) (hn : n <= 1000000000) (hi : i < n) (h1 : ((f i).kind != 3) = true) (w : World) : S2.Sem (envL10 n f) w 51 lgCI (lgI n f g k i) none (lgI n f g k (i + 1)) := by
 refine sem_iter (envL10_ok n f) (GlobOk.none w) (p := lgQI) (fuel := 1000) [true, true] [(pre (inI ((i : Int) + 1)), true), ((f ((i : Int)).toNat).kind != 3, true), (pre (decide (((i : Int)).toNat < n)), true), (pre (decide (((i : Int)).toNat < n)), true), (pre (idxB ((i : Int)) n), true), (decide ((i : Int) < ↑n), true)] (by kernel_rfl) (by kernel_rfl) ?_
 try simp only [qN]
 refine qF ?_ ?_ ?_ ?_ <| qA ?_ <| qA ?_ <| qZ
 . exact ob_inI (by omega)
 . assumption
 . exact ob_lt (by omega)
 . exact ob_lt (by omega)
 . exact ob_idx (by omega)
 . exact ob_yes (by omega)
theorem lg_tft (n : Nat) (f : Nat -> It) (g : Nat -> Bool) (k i : Nat) (hn : n <= 1000000000) (hi : i < n) (h1 : ((f i).kind != 3) = false) (h2 : g i = true) (w : World) : S2.Sem (envL10 n f) w 51 lgCI (lgI n f g k i) none (lgI n f g k (i + 1)) := by
 refine sem_iter (envL10_ok n f) (GlobOk.none w) (p := lgQI) (fuel := 1000) [true, false, true] [(pre (inI ((i : Int) + 1)), true), (g ((i : Int)).toNat, true), (pre (decide (((i : Int)).toNat < n)), true), (pre (idxB ((i : Int)) n), true), ((f ((i : Int)).toNat).kind != 3, false), (pre (decide (((i : Int)).toNat < n)), true), (pre (decide (((i : Int)).toNat < n)), true), (pre (idxB ((i : Int)) n), true), (decide ((i : Int) < ↑n), true)] (by kernel_rfl) (by kernel_rfl) ?_
 try simp only [qN]
 refine qF ?_ ?_ ?_ ?_ <| qF ?_ ?_ ?_ ?_ <| qA ?_ <| qZ
 . exact ob_inI (by omega)
 . assumption
 . exact ob_lt (by omega)
 . exact ob_idx (by omega)
 . assumption
 . exact ob_lt (by omega)
 . exact ob_lt (by omega)
 . exact ob_idx (by omega)
 . exact ob_yes (by omega)
theorem lg_tffff (n : Nat) (f : Nat -> It) (g : Nat -> Bool) (k i : Nat) (hn : n <= 1000000000) (hi : i < n) (h1 : ((f i).kind != 3) = false) (h2 : g i = false) (h3 : decide (dsE n f (blE n g) i < -4096) = false) (h4 : decide (dsE n f (blE n g) i > 4094) = false) (w : World) : S2.Sem (envL10 n f) w 51 lgCI (lgI n f g k i) none (lgI n f g k (i + 1)) := by
 refine sem_iter (envL10_ok n f) (GlobOk.none w) (p := lgQI) (fuel := 1000) [true, false, false, false, false] [(pre (inI ((i : Int) + 1)), true), (decide (dsE n f (blE n g) ((i : Int)).toNat > 4094), false), (decide (dsE n f (blE n g) ((i : Int)).toNat < -4096), false), (pre (propB (isItE (itE n f) n f /\ n <= 1000000000 /\ isBl (blE n g) n /\ 0 <= (i : Int) /\ (i : Int) < (n : Int))), true), (g ((i : Int)).toNat, false), (pre (decide (((i : Int)).toNat < n)), true), (pre (idxB ((i : Int)) n), true), ((f ((i : Int)).toNat).kind != 3, false), (pre (decide (((i : Int)).toNat < n)), true), (pre (decide (((i : Int)).toNat < n)), true), (pre (idxB ((i : Int)) n), true), (decide ((i : Int) < ↑n), true)] (by kernel_rfl) (by kernel_rfl) ?_
 try simp only [qN]
 refine qF ?_ ?_ ?_ ?_ <| qF ?_ ?_ ?_ ?_ <| qF ?_ ?_ ?_ ?_ <| qZ
 . exact ob_inI (by omega)
 . assumption
 . assumption
 . exact propB_ok.mpr ⟨isItE_self n f (by omega), hn, isBl_E n g, by omega, by omega⟩
 . assumption
 . exact ob_lt (by omega)
 . exact ob_idx (by omega)
 . assumption
 . exact ob_lt (by omega)
 . exact ob_lt (by omega)
 . exact ob_idx (by omega)
 . exact ob_yes (by omega)
theorem lg_tffft (n : Nat) (f : Nat -> It) (g : Nat -> Bool) (k i : Nat) (hn : n <= 1000000000) (hi : i < n) (h1 : ((f i).kind != 3) = false) (h2 : g i = false) (h3 : decide (dsE n f (blE n g) i < -4096) = false) (h4 : decide (dsE n f (blE n g) i > 4094) = true) (w : World) : S2.Sem (envL10 n f) w 51 lgCI (lgI n f g k i) (some (some 2)) (lgF n f (stB n g i) k) := by
 refine sem_iter (envL10_ok n f) (GlobOk.none w) (p := lgQF) (fuel := 1000) [true, false, false, false, true] [(pre (decide (((i : Int)).toNat < n)), true), (pre (idxB ((i : Int)) n), true), (decide (dsE n f (blE n g) ((i : Int)).toNat > 4094), true), (decide (dsE n f (blE n g) ((i : Int)).toNat < -4096), false), (pre (propB (isItE (itE n f) n f /\ n <= 1000000000 /\ isBl (blE n g) n /\ 0 <= (i : Int) /\ (i : Int) < (n : Int))), true), (g ((i : Int)).toNat, false), (pre (decide (((i : Int)).toNat < n)), true), (pre (idxB ((i : Int)) n), true), ((f ((i : Int)).toNat).kind != 3, false), (pre (decide (((i : Int)).toNat < n)), true), (pre (decide (((i : Int)).toNat < n)), true), (pre (idxB ((i : Int)) n), true), (decide ((i : Int) < ↑n), true)] (by kernel_rfl) (by kernel_rfl) ?_
 try simp only [qN]
 refine qF ?_ ?_ ?_ ?_ <| qF ?_ ?_ ?_ ?_ <| qF ?_ ?_ ?_ ?_ <| qA ?_ <| qZ
 . exact ob_lt (by omega)
 . exact ob_idx (by omega)
 . assumption
 . assumption
 . exact propB_ok.mpr ⟨isItE_self n f (by omega), hn, isBl_E n g, by omega, by omega⟩
 . assumption
 . exact ob_lt (by omega)
 . exact ob_idx (by omega)
 . assumption
 . exact ob_lt (by omega)
 . exact ob_lt (by omega)
 . exact ob_idx (by omega)
 . exact ob_yes (by omega)
theorem lg_tfft (n : Nat) (f : Nat -> It) (g : Nat -> Bool) (k i : Nat) (hn : n <= 1000000000) (hi : i < n) (h1 : ((f i).kind != 3) = false) (h2 : g i = false) (h3 : decide (dsE n f (blE n g) i < -4096) = true) (w : World) : S2.Sem (envL10 n f) w 51 lgCI (lgI n f g k i) (some (some 2)) (lgF n f (stB n g i) k) := by
 refine sem_iter (envL10_ok n f) (GlobOk.none w) (p := lgQF) (fuel := 1000) [true, false, false, true] [(pre (decide (((i : Int)).toNat < n)), true), (pre (idxB ((i : Int)) n), true), (decide (dsE n f (blE n g) ((i : Int)).toNat < -4096), true), (pre (propB (isItE (itE n f) n f /\ n <= 1000000000 /\ isBl (blE n g) n /\ 0 <= (i : Int) /\ (i : Int) < (n : Int))), true), (g ((i : Int)).toNat, false), (pre (decide (((i : Int)).toNat < n)), true), (pre (idxB ((i : Int)) n), true), ((f ((i : Int)).toNat).kind != 3, false), (pre (decide (((i : Int)).toNat < n)), true), (pre (decide (((i : Int)).toNat < n)), true), (pre (idxB ((i : Int)) n), true), (decide ((i : Int) < ↑n), true)] (by kernel_rfl) (by kernel_rfl) ?_
 try simp only [qN]
 refine qF ?_ ?_ ?_ ?_ <| qF ?_ ?_ ?_ ?_ <| qF ?_ ?_ ?_ ?_ <| qZ
 . exact ob_lt (by omega)
 . exact ob_idx (by omega)
 . assumption
 . exact propB_ok.mpr ⟨isItE_self n f (by omega), hn, isBl_E n g, by omega, by omega⟩
 . assumption
 . exact ob_lt (by omega)
 . exact ob_idx (by omega)
 . assumption
 . exact ob_lt (by omega)
 . exact ob_lt (by omega)
 . exact ob_idx (by omega)
 . exact ob_yes (by omega)
theorem lg_end (n : Nat) (f : Nat -> It) (g : Nat -> Bool) (k : Nat) (w : World) : S2.Sem (envL10 n f) w 51 lgCI (lgI n f g k n) (some (some 2)) (lgN n f (blE n g) k) := by
 refine sem_iter (envL10_ok n f) (GlobOk.none w) (p := lgQN) (fuel := 1000) [false] [(decide ((n : Int) < (n : Int)), false)] (by kernel_rfl) (by kernel_rfl) ?_
 try simp only [qN]
 refine qA ?_ <| qZ
 . exact ob_no (by omega)
theorem lg_step (n : Nat) (f : Nat -> It) (g : Nat -> Bool) (k i : Nat) (hn : n <= 1000000000) (hi : i < n) (hb : lgB n f g i = false) (w : World) : S2.Sem (envL10 n f) w 51 lgCI (lgI n f g k i) none (lgI n f g k (i + 1)) := by
 unfold lgB at hb
 have ed : dsE n f (blE n g) i = disN f g n i := dsE_eq n f (blE n g) i
 cases h1 : (f i).kind != 3
 . have h1' : ((f i).kind == 3) = true := by simpa using h1
   rw [h1', Bool.true_and] at hb
   cases h2 : g i
   . rw [h2, Bool.not_false, Bool.true_and, Bool.or_eq_false_iff, <- ed] at hb
     exact lg_tffff n f g k i hn hi h1 h2 hb.1 hb.2 w
   . exact lg_tft n f g k i hn hi h1 h2 w
 . exact lg_tt n f g k i hn hi h1 w
theorem lg_found (n : Nat) (f : Nat -> It) (g : Nat -> Bool) (k i : Nat) (hn : n <= 1000000000) (hi : i < n) (hb : lgB n f g i = true) (w : World) : S2.Sem (envL10 n f) w 51 lgCI (lgI n f g k i) (some (some 2)) (lgF n f (stB n g i) k) := by
 unfold lgB at hb
 have ed : dsE n f (blE n g) i = disN f g n i := dsE_eq n f (blE n g) i
 obtain ⟨h1, h4⟩ := Bool.and_eq_true_iff.mp hb
 obtain ⟨h5, h6⟩ := Bool.and_eq_true_iff.mp h4
 have h1' : ((f i).kind != 3) = false := by simpa using h1
 have h5' : g i = false := by simpa using h5
 rw [<- ed] at h6
 cases h3 : decide (dsE n f (blE n g) i < -4096)
 . rw [h3, Bool.false_or] at h6
   exact lg_tffft n f g k i hn hi h1' h5' h3 h6 w
 . exact lg_tfft n f g k i hn hi h1' h5' h3 w
theorem lg_in (n : Nat) (f : Nat -> It) (g : Nat -> Bool) (k i : Nat) (hn : n <= 1000000000) (h : fstN (lgB n f g) n = some i) (w : World) : S2.Sem (envL10 n f) w 51 (.loop lgCI) (lgI n f g k 0) (some (some 2)) (lgF n f (stB n g i) k) := by
 obtain ⟨h1, h2, h3⟩ := fst_some h
 exact sem_loop (fun j => lgI n f g k j) i (by simp) (fun j hj => lg_step n f g k j hn (by omega) (h3 j hj) w) (lg_found n f g k i hn h1 h2 w)
theorem lg_out (n : Nat) (f : Nat -> It) (g : Nat -> Bool) (k : Nat) (hn : n <= 1000000000) (h : fstN (lgB n f g) n = none) (w : World) : S2.Sem (envL10 n f) w 51 (.loop lgCI) (lgI n f g k 0) (some (some 2)) (lgN n f (blE n g) k) :=
 sem_loop (fun j => lgI n f g k j) n (by simp) (fun j hj => lg_step n f g k j hn (by omega) (fst_none h j hj) w) (lg_end n f g k w)
theorem lg_round0 (n : Nat) (f : Nat -> It) (g : Nat -> Bool) (k i : Nat) (hn : n <= 1000000000) (hk : k <= n) (h : fstN (lgB n f g) n = some i) (w : World) : S2.Sem (envL10 n f) w 51 lgC (lgS n f (blE n g) k) none (lgS n f (stB n g i) (k + 1)) := by
 refine sem_iterP (envL10_ok n f) (GlobOk.none w) (fuel := 1000) (d := 30) (p := lgQS) [⟨lgPI, lgQI, some (some 2), lgF n f (stB n g i) k⟩] [true] [(pre (inI ((k : Int) + 1)), true), (decide ((k : Int) <= (n : Int)), true)] [⟨.loop lgCI, lgI n f g k 0, some (some 2), lgF n f (stB n g i) k⟩] (by kernel_rfl) (by kernel_rfl) ?_ (fun t ht => by obtain rfl := List.mem_singleton.mp ht; exact lg_in n f g k i hn h w)
 try simp only [qN]
 refine qA ?_ <| qA ?_ <| qZ
 . exact ob_inI (by omega)
 . exact ob_yes (by omega)
theorem lg_last (n : Nat) (f : Nat -> It) (g : Nat -> Bool) (k : Nat) (hn : n <= 1000000000) (hk : k <= n) (h : fstN (lgB n f g) n = none) (w : World) : S2.Sem (envL10 n f) w 51 lgC (lgS n f (blE n g) k) (some (some 0)) (lgS n f (blE n g) k) := by
 refine sem_iterP (envL10_ok n f) (GlobOk.none w) (fuel := 1000) (d := 30) (p := lgQS) [⟨lgPI, lgQI, some (some 2), lgN n f (blE n g) k⟩] [true] [(decide ((k : Int) <= (n : Int)), true)] [⟨.loop lgCI, lgI n f g k 0, some (some 2), lgN n f (blE n g) k⟩] (by kernel_rfl) (by kernel_rfl) ?_ (fun t ht => by obtain rfl := List.mem_singleton.mp ht; exact lg_out n f g k hn h w)
 try simp only [qN]
 refine qA ?_ <| qZ
 . exact ob_yes (by omega)
theorem lg_round (n : Nat) (f : Nat -> It) (k : Nat) (hn : n <= 1000000000) (hk : k <= n) (h : fstN (lgB n f (lgIt n f k)) n ≠ none) (w : World) : S2.Sem (envL10 n f) w 51 lgC (lgS n f (blE n (lgIt n f k)) k) none (lgS n f (blE n (lgIt n f (k + 1))) (k + 1)) := by
 cases e : fstN (lgB n f (lgIt n f k)) n with
 | none => exact absurd e h
 | some i =>
   have e2 : lgIt n f (k + 1) = updB (lgIt n f k) i := by show (match fstN (lgB n f (lgIt n f k)) n with | some i => updB (lgIt n f k) i | none => lgIt n f k) = _; rw [e]
   rw [e2]
   exact (lg_round0 n f _ k i hn hk e w).same rfl rfl ⟨.refl _, stB_same n _ i, trivial⟩ rfl
theorem refLong_ret (n : Nat) (f : Nat -> It) (hn : n <= 1000000000) (w : World) (vals : List Value) (ha : ArgsOk w [.inr (itE n f)] vals) : LRet Tryd.prog 33 vals false [.inr (blE n (lgG n f))] w := by
 obtain ⟨k1, k2, k3⟩ := lgK_ok n f
 refine fn_ok (envL10_ok n f) (fuel := 1000) (d := 30) (plan := [⟨lgP, lgQS, some (some 0), lgS n f (blE n (lgG n f)) (lgK n f)⟩]) (orc := []) (fls := [[]]) (l := [(pre (decide ((n : Int) = (n : Int) /\ 0 <= (n : Int) /\ 1 * (n : Int).toNat <= 281474976710656 /\ (n : Int).toNat <= maxLen)), true)]) (tr := [⟨.loop lgC, lgS n f (blE n (lgIt n f 0)) 0, some (some 0), lgS n f (blE n (lgG n f)) (lgK n f)⟩]) (by kernel_rfl) (qA ?_ qZ) Tryd.func33 w vals (GlobOk.none w) ha fun t ht => ?_
 . unfold pre; exact decide_eq_true ⟨rfl, by omega, by omega, by rw [qN]; unfold maxLen; omega⟩
 . obtain rfl := List.mem_singleton.mp ht
   exact sem_loop (fun j => lgS n f (blE n (lgIt n f j)) j) (lgK n f) (by simp) (fun j hj => lg_round n f j hn (by omega) (k3 j hj) w) (lg_last n f _ _ hn k1 k2 w)
end Go.Proofs.YtilljoemebbnjaaDoor
