/- Layer 10: the reference: how far labels are; which units may be laid out. -/
import Derived.Test.YtilljoemebbnjaaDoorRef10
set_option linter.unusedVariables false
set_option linter.unusedSimpArgs false
namespace Go.Proofs.YtilljoemebbnjaaDoor
open Go.RowKit Sim S2
theorem ahE_rng (f : Nat -> It) (e : LE) (k : Nat) (hk : k <= 1000000000) : 0 <= ahE f e k /\ ahE f e k <= 2000000000 := by
 rw [ahE_eq]; have := ahN_le f (fun j => bD (e.el j)) k; omega
def labAt (f : Nat -> It) (n : Nat) (x : Int) : Option Nat := fstN (labB f x) n
def disN (f : Nat -> It) (g : Nat -> Bool) (n k : Nat) : Int := match labAt f n (f k).n with
 | some i => 4 * ((ahN f g i : Int) - (ahN f g k : Int))
 | none => 0
noncomputable def envD10 (n : Nat) (f : Nat -> It) : S2.Env := envk Tryd.prog (fun _ => none) true noT noP (lAhead n f)
theorem envD10_ok (n : Nat) (f : Nat -> It) : CallOk (envD10 n f) := envk_ok (nw := true) (.none _ _) (.none _ _) (lAhead_ok n f)
def dsS (n : Nat) (f : Nat -> It) (g : Nat -> Bool) (k j : Nat) : S2.St := { tmps := [(0, .c 0), (1, .c 1), (2, .inl ([true], .int .i64 k)), (7, .inl ([true], .int .i64 j))], own := ⟨[], [itE n f, blI n g]⟩, lo := 0, llo := 0, mem := true, orc := [], obl := [] }
noncomputable def dsR (n : Nat) (f : Nat -> It) (g : Nat -> Bool) (k j : Nat) : S2.St := { tmps := [(6, .inl ([true], .int .i64 (4 * (ahE f (blI n g) j - ahE f (blI n g) k))))], own := ⟨[], []⟩, lo := 0, llo := 0, mem := true, orc := [], obl := [] }
def dsQ : Pick := { ts := [0, 1, 2, 7], bs := [], ls := [0, 1], opn := [7] }
def dsQR : Pick := { ts := [6], bs := [], ls := [], opn := [] }
def dsP : List Nat := [0, 1, 0, 1]
noncomputable def dsC : Code := codeAt (codeOf Tryd.prog 34) (0 :: dsP)
theorem ds_tf (n : Nat) (f : Nat -> It) (g : Nat -> Bool) (k j : Nat) (hn : n <= 1000000000) (hk : k < n) (hj : j < n) (h1 : ((f j).kind == 1) = false) (w : World) : S2.Sem (envD10 n f) w 43 dsC (dsS n f g k j) none (dsS n f g k (j + 1)) := by
 refine sem_iter (envD10_ok n f) (GlobOk.none w) (p := dsQ) (fuel := 1000) [true, false] [(pre (inI ((j : Int) + 1)), true), ((f ((j : Int)).toNat).kind == 1, false), (pre (decide (((j : Int)).toNat < n)), true), (pre (decide (((j : Int)).toNat < n)), true), (pre (idxB ((j : Int)) n), true), (decide ((j : Int) < ↑n), true)] (by kernel_rfl) (by kernel_rfl) ?_
 try simp only [qN]
 refine qF ?_ ?_ ?_ ?_ <| qA ?_ <| qA ?_ <| qZ
 . exact ob_inI (by omega)
 . assumption
 . exact ob_lt (by omega)
 . exact ob_lt (by omega)
 . exact ob_idx (by omega)
 . exact ob_yes (by omega)
theorem ds_ttf (n : Nat) (f : Nat -> It) (g : Nat -> Bool) (k j : Nat) (hn : n <= 1000000000) (hk : k < n) (hj : j < n) (h1 : ((f j).kind == 1) = true) (h2 : ((f j).n == (f k).n) = false) (w : World) : S2.Sem (envD10 n f) w 43 dsC (dsS n f g k j) none (dsS n f g k (j + 1)) := by
 refine sem_iter (envD10_ok n f) (GlobOk.none w) (p := dsQ) (fuel := 1000) [true, true, false] [(pre (inI ((j : Int) + 1)), true), ((f ((j : Int)).toNat).n == (f ((k : Int)).toNat).n, false), (pre (decide (((k : Int)).toNat < n)), true), (pre (decide (((k : Int)).toNat < n)), true), (pre (idxB ((k : Int)) n), true), (pre (decide (((j : Int)).toNat < n)), true), (pre (decide (((j : Int)).toNat < n)), true), (pre (idxB ((j : Int)) n), true), ((f ((j : Int)).toNat).kind == 1, true), (pre (decide (((j : Int)).toNat < n)), true), (pre (decide (((j : Int)).toNat < n)), true), (pre (idxB ((j : Int)) n), true), (decide ((j : Int) < ↑n), true)] (by kernel_rfl) (by kernel_rfl) ?_
 try simp only [qN]
 refine qF ?_ ?_ ?_ ?_ <| qF ?_ ?_ ?_ ?_ <| qF ?_ ?_ ?_ ?_ <| qA ?_ <| qZ
 . exact ob_inI (by omega)
 . assumption
 . exact ob_lt (by omega)
 . exact ob_lt (by omega)
 . exact ob_idx (by omega)
 . exact ob_lt (by omega)
 . exact ob_lt (by omega)
 . exact ob_idx (by omega)
 . assumption
 . exact ob_lt (by omega)
 . exact ob_lt (by omega)
 . exact ob_idx (by omega)
 . exact ob_yes (by omega)
theorem isBl_I (n : Nat) (g : Nat -> Bool) : isBl (blI n g) n := ⟨rfl, rfl, fun j _ => ⟨g j, rfl⟩⟩
theorem ds_ttt (n : Nat) (f : Nat -> It) (g : Nat -> Bool) (k j : Nat) (hn : n <= 1000000000) (hk : k < n) (hj : j < n) (h1 : ((f j).kind == 1) = true) (h2 : ((f j).n == (f k).n) = true) (w : World) : S2.Sem (envD10 n f) w 43 dsC (dsS n f g k j) (some none) (dsR n f g k j) := by
 have hA := ahE_rng f (blI n g) j (by omega)
 have hB := ahE_rng f (blI n g) k (by omega)
 refine sem_iter (envD10_ok n f) (GlobOk.none w) (p := dsQR) (fuel := 1000) [true, true, true] [(pre (inI (4 * (ahE f (blI n g) ((j : Int)).toNat - ahE f (blI n g) ((k : Int)).toNat))), true), (pre (inI (ahE f (blI n g) ((j : Int)).toNat - ahE f (blI n g) ((k : Int)).toNat)), true), (pre (propB (isItE (itE n f) n f /\ n <= 1000000000 /\ isBl (blI n g) n /\ 0 <= (k : Int) /\ (k : Int) <= (n : Int))), true), (pre (propB (isItE (itE n f) n f /\ n <= 1000000000 /\ isBl (blI n g) n /\ 0 <= (j : Int) /\ (j : Int) <= (n : Int))), true), ((f ((j : Int)).toNat).n == (f ((k : Int)).toNat).n, true), (pre (decide (((k : Int)).toNat < n)), true), (pre (decide (((k : Int)).toNat < n)), true), (pre (idxB ((k : Int)) n), true), (pre (decide (((j : Int)).toNat < n)), true), (pre (decide (((j : Int)).toNat < n)), true), (pre (idxB ((j : Int)) n), true), ((f ((j : Int)).toNat).kind == 1, true), (pre (decide (((j : Int)).toNat < n)), true), (pre (decide (((j : Int)).toNat < n)), true), (pre (idxB ((j : Int)) n), true), (decide ((j : Int) < ↑n), true)] (by kernel_rfl) (by kernel_rfl) ?_
 try simp only [qN]
 refine qF ?_ ?_ ?_ ?_ <| qF ?_ ?_ ?_ ?_ <| qF ?_ ?_ ?_ ?_ <| qF ?_ ?_ ?_ ?_ <| qZ
 . exact ob_inI (by omega)
 . exact ob_inI (by omega)
 . exact propB_ok.mpr ⟨isItE_self n f (by omega), hn, isBl_I n g, by omega, by omega⟩
 . exact propB_ok.mpr ⟨isItE_self n f (by omega), hn, isBl_I n g, by omega, by omega⟩
 . assumption
 . exact ob_lt (by omega)
 . exact ob_lt (by omega)
 . exact ob_idx (by omega)
 . exact ob_lt (by omega)
 . exact ob_lt (by omega)
 . exact ob_idx (by omega)
 . assumption
 . exact ob_lt (by omega)
 . exact ob_lt (by omega)
 . exact ob_idx (by omega)
 . exact ob_yes (by omega)
theorem ds_end (n : Nat) (f : Nat -> It) (g : Nat -> Bool) (k : Nat) (w : World) : S2.Sem (envD10 n f) w 43 dsC (dsS n f g k n) (some (some 0)) (dsS n f g k n) := by
 refine sem_iter (envD10_ok n f) (GlobOk.none w) (p := dsQ) (fuel := 1000) [false] [(decide ((n : Int) < (n : Int)), false)] (by kernel_rfl) (by kernel_rfl) ?_
 try simp only [qN]
 refine qA ?_ <| qZ
 . exact ob_no (by omega)
theorem ds_step (n : Nat) (f : Nat -> It) (g : Nat -> Bool) (k j : Nat) (hn : n <= 1000000000) (hk : k < n) (hj : j < n) (hb : labB f (f k).n j = false) (w : World) : S2.Sem (envD10 n f) w 43 dsC (dsS n f g k j) none (dsS n f g k (j + 1)) := by
 unfold labB at hb
 cases h1 : (f j).kind == 1
 . exact ds_tf n f g k j hn hk hj h1 w
 . rw [h1, Bool.true_and] at hb
   exact ds_ttf n f g k j hn hk hj h1 hb w
theorem refDist_ret (n : Nat) (f : Nat -> It) (g : Nat -> Bool) (k : Nat) (hn : n <= 1000000000) (hk : k < n) (w : World) (vals : List Value) (ha : ArgsOk w [.inr (itE n f), .inr (blI n g), .inl (.int .i64 k)] vals) : LRet Tryd.prog 34 vals false [.inl (.int .i64 (disN f g n k))] w := by
 unfold disN labAt
 cases hb : fstN (labB f (f k).n) n with
 | none =>
   refine fn_ok (envD10_ok n f) (fuel := 1000) (d := 30) (plan := [⟨dsP, dsQ, some (some 0), dsS n f g k n⟩]) (orc := []) (fls := [[], [], [true]]) (l := []) (tr := [⟨.loop dsC, dsS n f g k 0, some (some 0), dsS n f g k n⟩]) (by kernel_rfl) qZ Tryd.func34 w vals (GlobOk.none w) ha fun t ht => ?_
   obtain rfl := List.mem_singleton.mp ht
   exact sem_loop (fun j => dsS n f g k j) n (by simp) (fun j hj => ds_step n f g k j hn hk hj (fst_none hb j hj) w) (ds_end n f g k w)
 | some i =>
   obtain ⟨h1, h2, h3⟩ := fst_some hb
   obtain ⟨hx, hy⟩ := Bool.and_eq_true_iff.mp h2
   have e : (4 * ((ahN f g i : Int) - (ahN f g k : Int))) = 4 * (ahE f (blI n g) i - ahE f (blI n g) k) := by rw [ahE_eq, ahE_eq]; rfl
   show LRet _ _ vals false [.inl (.int .i64 (4 * ((ahN f g i : Int) - (ahN f g k : Int))))] w
   rw [e]
   refine fn_ok (envD10_ok n f) (fuel := 1000) (d := 30) (plan := [⟨dsP, dsQ, some none, dsR n f g k i⟩]) (orc := []) (fls := [[], [], [true]]) (l := []) (tr := [⟨.loop dsC, dsS n f g k 0, some none, dsR n f g k i⟩]) (by kernel_rfl) qZ Tryd.func34 w vals (GlobOk.none w) ha fun t ht => ?_
   obtain rfl := List.mem_singleton.mp ht
   exact sem_loop (fun j => dsS n f g k j) i (by simp) (fun j hj => ds_step n f g k j hn hk (by omega) (h3 j hj) w) (ds_ttt n f g k i hn hk h1 hx hy w)
theorem dsE_ex : ∃ h : Nat -> (Nat -> It) -> LE -> Nat -> Int, ∀ n f e k, h n f e k = disN f (fun j => bD (e.el j)) n k := ⟨_, fun _ _ _ _ => rfl⟩
noncomputable def dsE : Nat -> (Nat -> It) -> LE -> Nat -> Int := Classical.choose dsE_ex
theorem dsE_eq (n : Nat) (f : Nat -> It) (e : LE) (k : Nat) : dsE n f e k = disN f (fun j => bD (e.el j)) n k := Classical.choose_spec dsE_ex n f e k
theorem disN_rng {f : Nat -> It} {g : Nat -> Bool} {n k : Nat} (hn : n <= 1000000000) (hk : k <= n) : -8000000000 <= disN f g n k /\ disN f g n k <= 8000000000 := by
 unfold disN
 split
 . rename_i i hi
   have := (fst_some hi).1
   have := ahN_le f g i
   have := ahN_le f g k
   omega
 . omega
noncomputable def lDist (n : Nat) (f : Nat -> It) : LTab := lrow 34 fun args => match args with
 | [.inr e, .inr b, .inl (.int .i64 k)] => some (false, [.inl (.int .i64 (dsE n f b k.toNat))], pre (propB (isItE e n f /\ n <= 1000000000 /\ isBl b n /\ 0 <= k /\ k < n)))
 | _ => none
theorem lDist_ok {gl : Gl} (n : Nat) (f : Nat -> It) : LTabOk Tryd.prog gl (lDist n f) := .row fun args tup res h w vals hG ha => by
 split at h
 . rename_i e b k
   simp only [qS, qP] at h
   obtain ⟨rfl, rfl, hp⟩ := h
   obtain ⟨h1, h2, h3, h4, h5⟩ := propB_ok.mp hp
   obtain ⟨k, rfl⟩ := Int.eq_ofNat_of_zero_le h4
   rw [qN, dsE_eq]
   match vals, ha with
   | [u, v, x], ha => exact refDist_ret n f _ k h2 (by omega) w [u, v, x] ⟨InB.it ha.1 h1, InB.bl ha.2.1 h3, ha.2.2⟩
   | [], ha => exact ha.elim
   | [_], ha => exact ha.2.elim
   | [_, _], ha => exact ha.2.2.elim
   | _ :: _ :: _ :: _ :: _, ha => exact ha.2.2.2.elim
 . cases h
def mayU (n : Nat) (f : Nat -> It) : Bool := match fstN (fun j => (f j).kind == 4) n with
 | some _ => false
 | none => (unitR n f).2 == 0
end Go.Proofs.YtilljoemebbnjaaDoor
