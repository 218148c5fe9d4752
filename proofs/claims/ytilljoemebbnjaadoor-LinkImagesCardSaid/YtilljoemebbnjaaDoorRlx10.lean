/- Layer 10: the program's Opposite, Long and Lay keep what the document says of them. -/
import Derived.Test.YtilljoemebbnjaaDoorK08
import Derived.Test.YtilljoemebbnjaaDoorSettle10
set_option linter.unusedVariables false
set_option linter.unusedSimpArgs false
namespace Go.Proofs.YtilljoemebbnjaaDoor
open Go.RowKit Sim S2
theorem opP_ffffff (op : Int) : S2.simF envA10 1000 10 [] [false, false, false, false, false, false] 86 [[true]] [.inl (.int .i64 op)] = some (false, [.inl (.int .i64 0)], [(op == 10, false), (op == 9, false), (op == 8, false), (op == 7, false), (op == 6, false), (op == 5, false)], []) := by kernel_rfl
theorem opP_ffffft (op : Int) : S2.simF envA10 1000 10 [] [false, false, false, false, false, true] 86 [[true]] [.inl (.int .i64 op)] = some (false, [.inl (.int .i64 9)], [(op == 10, true), (op == 9, false), (op == 8, false), (op == 7, false), (op == 6, false), (op == 5, false)], []) := by kernel_rfl
theorem opP_fffft (op : Int) : S2.simF envA10 1000 10 [] [false, false, false, false, true] 86 [[true]] [.inl (.int .i64 op)] = some (false, [.inl (.int .i64 10)], [(op == 9, true), (op == 8, false), (op == 7, false), (op == 6, false), (op == 5, false)], []) := by kernel_rfl
theorem opP_ffft (op : Int) : S2.simF envA10 1000 10 [] [false, false, false, true] 86 [[true]] [.inl (.int .i64 op)] = some (false, [.inl (.int .i64 7)], [(op == 8, true), (op == 7, false), (op == 6, false), (op == 5, false)], []) := by kernel_rfl
theorem opP_fft (op : Int) : S2.simF envA10 1000 10 [] [false, false, true] 86 [[true]] [.inl (.int .i64 op)] = some (false, [.inl (.int .i64 8)], [(op == 7, true), (op == 6, false), (op == 5, false)], []) := by kernel_rfl
theorem opP_ft (op : Int) : S2.simF envA10 1000 10 [] [false, true] 86 [[true]] [.inl (.int .i64 op)] = some (false, [.inl (.int .i64 5)], [(op == 6, true), (op == 5, false)], []) := by kernel_rfl
theorem opP_t (op : Int) : S2.simF envA10 1000 10 [] [true] 86 [[true]] [.inl (.int .i64 op)] = some (false, [.inl (.int .i64 6)], [(op == 5, true)], []) := by kernel_rfl
theorem opP_ret (op : Int) (w : World) : Ret Tryd.prog 86 #[.int .i64 op] (.int .i64 (oppZ op)) w := by
 cases h0 : (op == 5)
 case' false =>
   cases h1 : (op == 6)
   case' false =>
     cases h2 : (op == 7)
     case' false =>
       cases h3 : (op == 8)
       case' false =>
         cases h4 : (op == 9)
         case' false =>
           cases h5 : (op == 10)
           case' false =>
             exact (ret7 envA10_ok _ _ (opP_ffffff op) (qA h5 <| qA h4 <| qA h3 <| qA h2 <| qA h1 <| qA h0 <| qZ) Tryd.func86 w [.int .i64 op] (GlobOk.none w) ⟨rfl, trivial⟩).of_eq (by unfold oppZ; rw [h0, h1, h2, h3, h4, h5]; rfl)
           case' true =>
             exact (ret7 envA10_ok _ _ (opP_ffffft op) (qA h5 <| qA h4 <| qA h3 <| qA h2 <| qA h1 <| qA h0 <| qZ) Tryd.func86 w [.int .i64 op] (GlobOk.none w) ⟨rfl, trivial⟩).of_eq (by unfold oppZ; rw [h0, h1, h2, h3, h4, h5]; rfl)
         case' true =>
           exact (ret7 envA10_ok _ _ (opP_fffft op) (qA h4 <| qA h3 <| qA h2 <| qA h1 <| qA h0 <| qZ) Tryd.func86 w [.int .i64 op] (GlobOk.none w) ⟨rfl, trivial⟩).of_eq (by unfold oppZ; rw [h0, h1, h2, h3, h4]; rfl)
       case' true =>
         exact (ret7 envA10_ok _ _ (opP_ffft op) (qA h3 <| qA h2 <| qA h1 <| qA h0 <| qZ) Tryd.func86 w [.int .i64 op] (GlobOk.none w) ⟨rfl, trivial⟩).of_eq (by unfold oppZ; rw [h0, h1, h2, h3]; rfl)
     case' true =>
       exact (ret7 envA10_ok _ _ (opP_fft op) (qA h2 <| qA h1 <| qA h0 <| qZ) Tryd.func86 w [.int .i64 op] (GlobOk.none w) ⟨rfl, trivial⟩).of_eq (by unfold oppZ; rw [h0, h1, h2]; rfl)
   case' true =>
     exact (ret7 envA10_ok _ _ (opP_ft op) (qA h1 <| qA h0 <| qZ) Tryd.func86 w [.int .i64 op] (GlobOk.none w) ⟨rfl, trivial⟩).of_eq (by unfold oppZ; rw [h0, h1]; rfl)
 case' true =>
   exact (ret7 envA10_ok _ _ (opP_t op) (qA h0 <| qZ) Tryd.func86 w [.int .i64 op] (GlobOk.none w) ⟨rfl, trivial⟩).of_eq (by unfold oppZ; rw [h0]; rfl)
theorem tOpP_ok {gl : Gl} : TabOk Tryd.prog gl tOpP := tabI fun x w hG => opP_ret x w
def decBr : List Value -> Option (Int × In × Int)
 | [.int .i64 o, v, .int .i64 d] => match decIn [v] with
   | some i => some (o, i, d)
   | none => none
 | _ => none
theorem decBr_eq : ∀ (l : List Value) (x : Int × In × Int), decBr l = some x -> l = [.int .i64 x.1, inV x.2.1, .int .i64 x.2.2] := fun l x h => by
 unfold decBr at h
 split at h
 . rename_i o v d
   split at h
   . rename_i i hi
     simp only [qS] at h
     subst h
     have := decIn_eq _ _ hi
     simp only [List.cons.injEq, and_true] at this
     rw [this]
   . cases h
 . cases h
def tBr : Tab := row 66 decBr fun x => inV (ifI x.1 x.2.1.a x.2.1.b x.2.2)
theorem br_sim (o : Int) (i : In) (d : Int) : S2.simF envA10 1000 10 [] [] 66 [[true], [true, true, true, true, true, true, true], [true]] [.inl (.int .i64 o), .inl (inV i), .inl (.int .i64 d)] = some (false, [.inl (inV (ifI o i.a i.b d))], [], []) := by kernel_rfl
theorem tBr_ok {gl : Gl} : TabOk Tryd.prog gl tBr := .row fun args a he w hG => by
 rw [args_eq (decBr_eq _ _ he)]
 exact ret7 envA10_ok _ _ (br_sim a.1 a.2.1 a.2.2) qZ Tryd.func66 w [.int .i64 a.1, inV a.2.1, .int .i64 a.2.2] (GlobOk.none w) ⟨rfl, rfl, rfl, trivial⟩
theorem even4 (z : Int) : evenB (4 * z) = true := by
 unfold evenB
 have : (4 * z).tmod 2 = 0 := Int.tmod_eq_zero_of_dvd ⟨2 * z, by omega⟩
 rw [this]; rfl
theorem fit21 (z : Int) : fitZ (4 * z) 21 = !farJ (4 * z) := by
 unfold fitZ farJ
 rw [if_pos (by decide)]
 unfold fitsB
 show ((4 * z) / 1048576 == 0 || (4 * z) / 1048576 == -1) = _
 by_cases h1 : 4 * z < -1048576
 . rw [decide_eq_true h1, Bool.true_or]
   have : ¬ (4 * z) / 1048576 = 0 := by omega
   have : ¬ (4 * z) / 1048576 = -1 := by omega
   simp [*]
 . rw [decide_eq_false h1, Bool.false_or]
   by_cases h2 : 4 * z > 1048574
   . rw [decide_eq_true h2]
     have : ¬ (4 * z) / 1048576 = 0 := by omega
     have : ¬ (4 * z) / 1048576 = -1 := by omega
     simp [*]
   . rw [decide_eq_false h2]
     by_cases h3 : 0 <= z
     . have : (4 * z) / 1048576 = 0 := by omega
       simp [this]
     . have : (4 * z) / 1048576 = -1 := by omega
       simp [this]
theorem may_jal (z : Int) : mayB (jalI (4 * z)) = !farJ (4 * z) := by
 have h : mayB (jalI (4 * z)) = immB (4 * z) 2 := by
   unfold mayB jalI
   show (okB 3 && (regB 0 (rdF (formZ 3)) && (regB 0 (aF (formZ 3)) && (regB 0 (bF (formZ 3)) && (immB (4 * z) (formZ 3) && (oF (formZ 3) || (!false && !false))))))) = _
   have e : formZ 3 = 2 := by decide
   rw [e]
   have e1 : okB 3 = true := by decide
   have e2 : regB 0 (rdF 2) = true := by decide
   have e3 : regB 0 (aF 2) = true := by decide
   have e4 : regB 0 (bF 2) = true := by decide
   rw [e1, e2, e3, e4]
   simp
 rw [h]
 unfold immB
 show (evenB (4 * z) && fitZ (4 * z) 21) = _
 rw [even4, fit21, Bool.true_and]
theorem form4 {o : Int} (h : (formZ o == 4) = true) : 5 <= o /\ o <= 10 := by
 have h : formZ o = 4 := eq_of_beq h
 by_cases hr : 1 <= o /\ o <= 87
 . obtain ⟨k, rfl⟩ := Int.eq_ofNat_of_zero_le (show 0 <= o by omega)
   have key : ∀ m : Fin 88, formZ (m.val : Int) = 4 -> 5 <= m.val /\ m.val <= 10 := by decide +kernel
   have : 5 <= k /\ k <= 10 := key ⟨k, by omega⟩ h
   omega
 . have : formZ o = -1 \/ o = 0 := by
     by_cases h0 : o = 0
     . exact .inr h0
     . left
       exact atZ_out _ _ _ (by have : formL.length = 88 := by decide +kernel
                               omega)
   rcases this with h1 | h1
   . omega
   . subst h1
     have : formZ 0 ≠ 4 := by decide
     exact absurd h this
theorem form4_of {o : Int} (h : 5 <= o /\ o <= 10) : formZ o = 4 /\ okB o = true := by
 have : o = 5 \/ o = 6 \/ o = 7 \/ o = 8 \/ o = 9 \/ o = 10 := by omega
 rcases this with rfl | rfl | rfl | rfl | rfl | rfl <;> decide
theorem opp4 {o : Int} (h : 5 <= o /\ o <= 10) : 5 <= oppZ o /\ oppZ o <= 10 := by
 have : o = 5 \/ o = 6 \/ o = 7 \/ o = 8 \/ o = 9 \/ o = 10 := by omega
 rcases this with rfl | rfl | rfl | rfl | rfl | rfl <;> decide
theorem may_if {o a b d : Int} (ho : 5 <= o /\ o <= 10) (ha : regB a true = true) (hb : regB b true = true) (hd : (evenB d && fitZ d 13) = true) : mayB (ifI o a b d) = true := by
 obtain ⟨e, e1⟩ := form4_of ho
 unfold mayB ifI
 show (okB o && (regB 0 (rdF (formZ o)) && (regB a (aF (formZ o)) && (regB b (bF (formZ o)) && (immB d (formZ o) && (oF (formZ o) || (!false && !false))))))) = true
 rw [e, e1]
 have e2 : regB 0 (rdF 4) = true := by decide
 have e3 : aF 4 = true := by decide
 have e4 : bF 4 = true := by decide
 have e5 : immB d 4 = (evenB d && fitZ d 13) := rfl
 rw [e2, e3, e4, e5, ha, hb, hd]
 simp
theorem may_ins {n : Nat} {f : Nat -> It} (h : mayU n f = true) {i : Nat} (hi : i < n) (hk : (f i).kind = 0) : mayB (f i).ins = true := by
 have := (mayU_ok h).2.1 i hi
 unfold bad1 rightB at this
 rw [hk] at this
 have this : (!(mayB (f i).ins && ((f i).n == 0 && decide ((f i).note >= 0)))) = false := this
 cases e : mayB (f i).ins
 . rw [e] at this; cases this
 . rfl
theorem may_br {n : Nat} {f : Nat -> It} (h : mayU n f = true) {i : Nat} (hi : i < n) (hk : (f i).kind = 3) : (5 <= (f i).ins.op /\ (f i).ins.op <= 10) /\ regB (f i).ins.a true = true /\ regB (f i).ins.b true = true := by
 have := (mayU_ok h).2.1 i hi
 unfold bad1 rightB at this
 rw [hk] at this
 have this : (!((formZ (f i).ins.op == 4) && (mayB (f i).ins && ((f i).ins.imm == 0 && (decide ((f i).n >= 0) && decide ((f i).note >= 0)))))) = false := this
 cases e : formZ (f i).ins.op == 4
 . rw [e] at this; cases this
 cases e2 : mayB (f i).ins
 . rw [e, e2] at this; cases this
 have e3 := form4 e
 refine ⟨e3, ?_⟩
 unfold mayB at e2
 rw [(form4_of e3).1] at e2
 simp only [Bool.and_eq_true] at e2
 exact ⟨e2.2.2.1, e2.2.2.2.1⟩
noncomputable def envPg (n : Nat) (f : Nat -> It) : S2.Env := enve Tryd.prog (fun _ => none) true (orT tMay (orT tOpP tBr)) noP (lMayL n f) (orE (eDist n f) (eSettle n f))
theorem envPg_ok (n : Nat) (f : Nat -> It) : CallOk (envPg n f) := enve_ok (nw := true) (tMay_ok.or (tOpP_ok.or tBr_ok)) (.none _ _) (lMayL_ok n f) ((eDist_ok n f).or (eSettle_ok n f))
theorem isOIt_self (n : Nat) (f : Nat -> It) : isOIt (itE n f) n f := ⟨rfl, rfl, rfl, rfl, rfl, fun _ _ => rfl⟩
def pgM (n : Nat) (f : Nat -> It) (tg at_ : Nat -> Int) (lg : Nat -> Bool) (a b : LE) : S2.Mem := ⟨[layB], [itE n f, iE n tg, iE n at_, blE n lg, a, b]⟩
def pgS (n : Nat) (f : Nat -> It) (tg at_ : Nat -> Int) (lg : Nat -> Bool) (a b : LE) (j : Nat) : S2.St := { tmps := [(5, .inr (0, 0, none)), (6, .c 4), (7, .c 5), (17, .c 0), (18, .inl ([true], .int .i64 n)), (19, .inl ([true], .int .i64 j))], own := pgM n f tg at_ lg a b, lo := 0, llo := 0, mem := true, orc := [], obl := [] }
def pgR : S2.St := { tmps := [(2, .inl ([], .slice none 0 0)), (3, .inl ([], .slice none 0 0)), (4, .inl ([], .int .i64 33))], own := ⟨[], []⟩, lo := 0, llo := 0, mem := true, orc := [], obl := [] }
def pgP : List Nat := [0, 1, 0, 1, 1, 1, 1, 1]
noncomputable def pgC : Code := codeAt (codeOf Tryd.prog 28) (0 :: pgP)
def pgQ (x y : Nat) : Pick := { ts := [5, 6, 7, 17, 18, 19], bs := [0], ls := [0, 1, 2, 3, x, y], opn := [19] }
def pgQR : Pick := { ts := [2, 3, 4], bs := [], ls := [], opn := [] }
theorem pg_1 (n : Nat) (f : Nat -> It) (tg at_ : Nat -> Int) (lg : Nat -> Bool) (A : List In) (N : List Int) (i : Nat) (hn : n <= 1000000) (r1 : ∀ j, j < n -> 0 <= tg j /\ tg j < n) (r2 : ∀ j, j < n -> 0 <= at_ j /\ at_ j <= 2 * n) (hi : i < n) (hA : A.length <= 2 * i) (hN : N.length <= 2 * i) (k0 : ((f i).kind == 0) = false) (k2 : ((f i).kind == 2) = false) (k3 : ((f i).kind == 3) = false) (w : World) : S2.Sem (envPg n f) w 48 pgC (pgS n f tg at_ lg (wdE A) (ntE N) i) none (pgS n f tg at_ lg (wdE A) (ntE N) (i + 1)) := by
 refine sem_iter (envPg_ok n f) (GlobOk.none w) (p := (pgQ 4 5)) (fuel := 1000) [true, false, false, false] [(pre (inI ((i : Int) + 1)), true), ((f ((i : Int)).toNat).kind == 3, false), ((f ((i : Int)).toNat).kind == 2, false), ((f ((i : Int)).toNat).kind == 0, false), (pre (decide (((i : Int)).toNat < n)), true), (pre (idxB ((i : Int)) n), true), (pre (decide (((i : Int)).toNat < n)), true), (pre (idxB ((i : Int)) n), true), (decide ((i : Int) < (n : Int)), true)] (by kernel_rfl) (by kernel_rfl) ?_
 try simp only [qN]
 refine qF ?_ ?_ ?_ ?_ <| qF ?_ ?_ ?_ ?_ <| qA ?_ <| qZ
 . exact ob_inI (by omega)
 . assumption
 . assumption
 . assumption
 . exact ob_lt (by omega)
 . exact ob_idx (by omega)
 . exact ob_lt (by omega)
 . exact ob_idx (by omega)
 . exact ob_yes (by omega)
theorem pg_0 (n : Nat) (f : Nat -> It) (tg at_ : Nat -> Int) (lg : Nat -> Bool) (A : List In) (N : List Int) (i : Nat) (hn : n <= 1000000) (r1 : ∀ j, j < n -> 0 <= tg j /\ tg j < n) (r2 : ∀ j, j < n -> 0 <= at_ j /\ at_ j <= 2 * n) (hi : i < n) (hA : A.length <= 2 * i) (hN : N.length <= 2 * i) (k0 : ((f i).kind == 0) = true) (hM : mayB (f i).ins = true) (w : World) : S2.Sem (envPg n f) w 48 pgC (pgS n f tg at_ lg (wdE A) (ntE N) i) none (pgS n f tg at_ lg (wd1 A (f i).ins) (nt1 N (f i).note) (i + 1)) := by
 refine sem_iter (envPg_ok n f) (GlobOk.none w) (p := (pgQ 6 7)) (fuel := 1000) [true, true, false] [(pre (inI ((i : Int) + 1)), true), (pre (decide (N.length + 1 <= maxLen /\ (N.length + 1) * 8 <= 140737488355328 /\ 0 < 1)), true), (pre (decide (A.length + 1 <= maxLen /\ (A.length + 1) * 48 <= 140737488355328 /\ 0 < 1)), true), (!mayB (f ((i : Int)).toNat).ins, false), ((f ((i : Int)).toNat).kind == 0, true), (pre (decide (((i : Int)).toNat < n)), true), (pre (idxB ((i : Int)) n), true), (pre (decide (((i : Int)).toNat < n)), true), (pre (idxB ((i : Int)) n), true), (decide ((i : Int) < (n : Int)), true)] (by kernel_rfl) (by kernel_rfl) ?_
 try simp only [qN]
 refine qF ?_ ?_ ?_ ?_ <| qF ?_ ?_ ?_ ?_ <| qA ?_ <| qA ?_ <| qZ
 . exact ob_inI (by omega)
 . exact ob_app (by omega) (by decide) (by decide)
 . exact ob_app (by omega) (by decide) (by decide)
 . exact (by rw [hM]; rfl)
 . assumption
 . exact ob_lt (by omega)
 . exact ob_idx (by omega)
 . exact ob_lt (by omega)
 . exact ob_idx (by omega)
 . exact ob_yes (by omega)
theorem pg_2 (n : Nat) (f : Nat -> It) (tg at_ : Nat -> Int) (lg : Nat -> Bool) (A : List In) (N : List Int) (i : Nat) (hn : n <= 1000000) (r1 : ∀ j, j < n -> 0 <= tg j /\ tg j < n) (r2 : ∀ j, j < n -> 0 <= at_ j /\ at_ j <= 2 * n) (hi : i < n) (hA : A.length <= 2 * i) (hN : N.length <= 2 * i) (k0 : ((f i).kind == 0) = false) (k2 : ((f i).kind == 2) = true) (hM : mayB (jalI (dzE (iE n tg) (iE n at_) i)) = true) (w : World) : S2.Sem (envPg n f) w 48 pgC (pgS n f tg at_ lg (wdE A) (ntE N) i) none (pgS n f tg at_ lg (wd1 A (jalI (dzE (iE n tg) (iE n at_) i))) (nt1 N (f i).note) (i + 1)) := by
 refine sem_iter (envPg_ok n f) (GlobOk.none w) (p := (pgQ 6 7)) (fuel := 1000) [true, false, true, false] [(pre (inI ((i : Int) + 1)), true), (pre (decide (N.length + 1 <= maxLen /\ (N.length + 1) * 8 <= 140737488355328 /\ 0 < 1)), true), (pre (decide (A.length + 1 <= maxLen /\ (A.length + 1) * 48 <= 140737488355328 /\ 0 < 1)), true), (!mayB (jalI (dzE (iE n tg) (iE n at_) ((i : Int)).toNat)), false), (pre (propB (layOk n f layB (itE n f) (iE n tg) (iE n at_) (blE n lg) /\ 0 <= (i : Int) /\ (i : Int) < (n : Int))), true), ((f ((i : Int)).toNat).kind == 2, true), ((f ((i : Int)).toNat).kind == 0, false), (pre (decide (((i : Int)).toNat < n)), true), (pre (idxB ((i : Int)) n), true), (pre (decide (((i : Int)).toNat < n)), true), (pre (idxB ((i : Int)) n), true), (decide ((i : Int) < (n : Int)), true)] (by kernel_rfl) (by kernel_rfl) ?_
 try simp only [qN]
 refine qF ?_ ?_ ?_ ?_ <| qF ?_ ?_ ?_ ?_ <| qF ?_ ?_ ?_ ?_ <| qZ
 . exact ob_inI (by omega)
 . exact ob_app (by omega) (by decide) (by decide)
 . exact ob_app (by omega) (by decide) (by decide)
 . exact (by rw [hM]; rfl)
 . exact propB_ok.mpr ⟨layOk_self n f tg at_ lg hn r1 r2, by omega, by omega⟩
 . assumption
 . assumption
 . exact ob_lt (by omega)
 . exact ob_idx (by omega)
 . exact ob_lt (by omega)
 . exact ob_idx (by omega)
 . exact ob_yes (by omega)
theorem pg_2f (n : Nat) (f : Nat -> It) (tg at_ : Nat -> Int) (lg : Nat -> Bool) (A : List In) (N : List Int) (i : Nat) (hn : n <= 1000000) (r1 : ∀ j, j < n -> 0 <= tg j /\ tg j < n) (r2 : ∀ j, j < n -> 0 <= at_ j /\ at_ j <= 2 * n) (hi : i < n) (hA : A.length <= 2 * i) (hN : N.length <= 2 * i) (k0 : ((f i).kind == 0) = false) (k2 : ((f i).kind == 2) = true) (hM : mayB (jalI (dzE (iE n tg) (iE n at_) i)) = false) (w : World) : S2.Sem (envPg n f) w 48 pgC (pgS n f tg at_ lg (wdE A) (ntE N) i) (some none) (pgR) := by
 refine sem_iter (envPg_ok n f) (GlobOk.none w) (p := pgQR) (fuel := 1000) [true, false, true, true] [(!mayB (jalI (dzE (iE n tg) (iE n at_) ((i : Int)).toNat)), true), (pre (propB (layOk n f layB (itE n f) (iE n tg) (iE n at_) (blE n lg) /\ 0 <= (i : Int) /\ (i : Int) < (n : Int))), true), ((f ((i : Int)).toNat).kind == 2, true), ((f ((i : Int)).toNat).kind == 0, false), (pre (decide (((i : Int)).toNat < n)), true), (pre (idxB ((i : Int)) n), true), (pre (decide (((i : Int)).toNat < n)), true), (pre (idxB ((i : Int)) n), true), (decide ((i : Int) < (n : Int)), true)] (by kernel_rfl) (by kernel_rfl) ?_
 try simp only [qN]
 refine qF ?_ ?_ ?_ ?_ <| qF ?_ ?_ ?_ ?_ <| qA ?_ <| qZ
 . exact (by rw [hM]; rfl)
 . exact propB_ok.mpr ⟨layOk_self n f tg at_ lg hn r1 r2, by omega, by omega⟩
 . assumption
 . assumption
 . exact ob_lt (by omega)
 . exact ob_idx (by omega)
 . exact ob_lt (by omega)
 . exact ob_idx (by omega)
 . exact ob_yes (by omega)
theorem pg_3 (n : Nat) (f : Nat -> It) (tg at_ : Nat -> Int) (lg : Nat -> Bool) (A : List In) (N : List Int) (i : Nat) (hn : n <= 1000000) (r1 : ∀ j, j < n -> 0 <= tg j /\ tg j < n) (r2 : ∀ j, j < n -> 0 <= at_ j /\ at_ j <= 2 * n) (hi : i < n) (hA : A.length <= 2 * i) (hN : N.length <= 2 * i) (k0 : ((f i).kind == 0) = false) (k2 : ((f i).kind == 2) = false) (k3 : ((f i).kind == 3) = true) (hg : lg i = false) (hM : mayB (ifI (f i).ins.op (f i).ins.a (f i).ins.b (dzE (iE n tg) (iE n at_) i)) = true) (w : World) : S2.Sem (envPg n f) w 48 pgC (pgS n f tg at_ lg (wdE A) (ntE N) i) none (pgS n f tg at_ lg (wd1 A (ifI (f i).ins.op (f i).ins.a (f i).ins.b (dzE (iE n tg) (iE n at_) i))) (nt1 N (f i).note) (i + 1)) := by
 refine sem_iter (envPg_ok n f) (GlobOk.none w) (p := (pgQ 6 7)) (fuel := 1000) [true, false, false, true, false, false] [(pre (inI ((i : Int) + 1)), true), (pre (decide (N.length + 1 <= maxLen /\ (N.length + 1) * 8 <= 140737488355328 /\ 0 < 1)), true), (pre (decide (A.length + 1 <= maxLen /\ (A.length + 1) * 48 <= 140737488355328 /\ 0 < 1)), true), (!mayB (ifI (f ((i : Int)).toNat).ins.op (f ((i : Int)).toNat).ins.a (f ((i : Int)).toNat).ins.b (dzE (iE n tg) (iE n at_) ((i : Int)).toNat)), false), (pre (propB (layOk n f layB (itE n f) (iE n tg) (iE n at_) (blE n lg) /\ 0 <= (i : Int) /\ (i : Int) < (n : Int))), true), (lg ((i : Int)).toNat, false), (pre (decide (((i : Int)).toNat < n)), true), (pre (idxB ((i : Int)) n), true), ((f ((i : Int)).toNat).kind == 3, true), ((f ((i : Int)).toNat).kind == 2, false), ((f ((i : Int)).toNat).kind == 0, false), (pre (decide (((i : Int)).toNat < n)), true), (pre (idxB ((i : Int)) n), true), (pre (decide (((i : Int)).toNat < n)), true), (pre (idxB ((i : Int)) n), true), (decide ((i : Int) < (n : Int)), true)] (by kernel_rfl) (by kernel_rfl) ?_
 try simp only [qN]
 refine qF ?_ ?_ ?_ ?_ <| qF ?_ ?_ ?_ ?_ <| qF ?_ ?_ ?_ ?_ <| qF ?_ ?_ ?_ ?_ <| qZ
 . exact ob_inI (by omega)
 . exact ob_app (by omega) (by decide) (by decide)
 . exact ob_app (by omega) (by decide) (by decide)
 . exact (by rw [hM]; rfl)
 . exact propB_ok.mpr ⟨layOk_self n f tg at_ lg hn r1 r2, by omega, by omega⟩
 . assumption
 . exact ob_lt (by omega)
 . exact ob_idx (by omega)
 . assumption
 . assumption
 . assumption
 . exact ob_lt (by omega)
 . exact ob_idx (by omega)
 . exact ob_lt (by omega)
 . exact ob_idx (by omega)
 . exact ob_yes (by omega)
theorem pg_3l (n : Nat) (f : Nat -> It) (tg at_ : Nat -> Int) (lg : Nat -> Bool) (A : List In) (N : List Int) (i : Nat) (hn : n <= 1000000) (r1 : ∀ j, j < n -> 0 <= tg j /\ tg j < n) (r2 : ∀ j, j < n -> 0 <= at_ j /\ at_ j <= 2 * n) (hi : i < n) (hA : A.length <= 2 * i) (hN : N.length <= 2 * i) (k0 : ((f i).kind == 0) = false) (k2 : ((f i).kind == 2) = false) (k3 : ((f i).kind == 3) = true) (hg : lg i = true) (hD : -9223372036854775000 <= (dzE (iE n tg) (iE n at_) i) /\ (dzE (iE n tg) (iE n at_) i) <= 9223372036854775000) (hM1 : mayB (ifI (oppZ (f i).ins.op) (f i).ins.a (f i).ins.b 8) = true) (hM : mayB (jalI ((dzE (iE n tg) (iE n at_) i) - 4)) = true) (w : World) : S2.Sem (envPg n f) w 48 pgC (pgS n f tg at_ lg (wdE A) (ntE N) i) none (pgS n f tg at_ lg (wd2 A (ifI (oppZ (f i).ins.op) (f i).ins.a (f i).ins.b 8) (jalI ((dzE (iE n tg) (iE n at_) i) - 4))) (nt2 N (f i).note (f i).note) (i + 1)) := by
 refine sem_iter (envPg_ok n f) (GlobOk.none w) (p := (pgQ 8 9)) (fuel := 1000) [true, false, false, true, true, false, false] [(pre (inI ((i : Int) + 1)), true), (pre (decide (N.length + 1 + 1 <= maxLen /\ (N.length + 1 + 1) * 8 <= 140737488355328 /\ 0 < 1)), true), (pre (decide (A.length + 1 + 1 <= maxLen /\ (A.length + 1 + 1) * 48 <= 140737488355328 /\ 0 < 1)), true), (!mayB (jalI ((dzE (iE n tg) (iE n at_) ((i : Int)).toNat) - 4)), false), (pre (decide (N.length + 1 <= maxLen /\ (N.length + 1) * 8 <= 140737488355328 /\ 0 < 1)), true), (pre (decide (A.length + 1 <= maxLen /\ (A.length + 1) * 48 <= 140737488355328 /\ 0 < 1)), true), (!mayB (ifI (oppZ (f ((i : Int)).toNat).ins.op) (f ((i : Int)).toNat).ins.a (f ((i : Int)).toNat).ins.b 8), false), (pre (inI ((dzE (iE n tg) (iE n at_) ((i : Int)).toNat) - 4)), true), (pre (propB (layOk n f layB (itE n f) (iE n tg) (iE n at_) (blE n lg) /\ 0 <= (i : Int) /\ (i : Int) < (n : Int))), true), (lg ((i : Int)).toNat, true), (pre (decide (((i : Int)).toNat < n)), true), (pre (idxB ((i : Int)) n), true), ((f ((i : Int)).toNat).kind == 3, true), ((f ((i : Int)).toNat).kind == 2, false), ((f ((i : Int)).toNat).kind == 0, false), (pre (decide (((i : Int)).toNat < n)), true), (pre (idxB ((i : Int)) n), true), (pre (decide (((i : Int)).toNat < n)), true), (pre (idxB ((i : Int)) n), true), (decide ((i : Int) < (n : Int)), true)] (by kernel_rfl) (by kernel_rfl) ?_
 try simp only [qN]
 refine qF ?_ ?_ ?_ ?_ <| qF ?_ ?_ ?_ ?_ <| qF ?_ ?_ ?_ ?_ <| qF ?_ ?_ ?_ ?_ <| qF ?_ ?_ ?_ ?_ <| qZ
 . exact ob_inI (by omega)
 . exact ob_app (by omega) (by decide) (by decide)
 . exact ob_app (by omega) (by decide) (by decide)
 . exact (by rw [hM]; rfl)
 . exact ob_app (by omega) (by decide) (by decide)
 . exact ob_app (by omega) (by decide) (by decide)
 . exact (by rw [hM1]; rfl)
 . exact ob_inI (by omega)
 . exact propB_ok.mpr ⟨layOk_self n f tg at_ lg hn r1 r2, by omega, by omega⟩
 . assumption
 . exact ob_lt (by omega)
 . exact ob_idx (by omega)
 . assumption
 . assumption
 . assumption
 . exact ob_lt (by omega)
 . exact ob_idx (by omega)
 . exact ob_lt (by omega)
 . exact ob_idx (by omega)
 . exact ob_yes (by omega)
theorem pg_3f (n : Nat) (f : Nat -> It) (tg at_ : Nat -> Int) (lg : Nat -> Bool) (A : List In) (N : List Int) (i : Nat) (hn : n <= 1000000) (r1 : ∀ j, j < n -> 0 <= tg j /\ tg j < n) (r2 : ∀ j, j < n -> 0 <= at_ j /\ at_ j <= 2 * n) (hi : i < n) (hA : A.length <= 2 * i) (hN : N.length <= 2 * i) (k0 : ((f i).kind == 0) = false) (k2 : ((f i).kind == 2) = false) (k3 : ((f i).kind == 3) = true) (hg : lg i = true) (hD : -9223372036854775000 <= (dzE (iE n tg) (iE n at_) i) /\ (dzE (iE n tg) (iE n at_) i) <= 9223372036854775000) (hM1 : mayB (ifI (oppZ (f i).ins.op) (f i).ins.a (f i).ins.b 8) = true) (hM : mayB (jalI ((dzE (iE n tg) (iE n at_) i) - 4)) = false) (w : World) : S2.Sem (envPg n f) w 48 pgC (pgS n f tg at_ lg (wdE A) (ntE N) i) (some none) (pgR) := by
 refine sem_iter (envPg_ok n f) (GlobOk.none w) (p := pgQR) (fuel := 1000) [true, false, false, true, true, false, true] [(!mayB (jalI ((dzE (iE n tg) (iE n at_) ((i : Int)).toNat) - 4)), true), (pre (decide (N.length + 1 <= maxLen /\ (N.length + 1) * 8 <= 140737488355328 /\ 0 < 1)), true), (pre (decide (A.length + 1 <= maxLen /\ (A.length + 1) * 48 <= 140737488355328 /\ 0 < 1)), true), (!mayB (ifI (oppZ (f ((i : Int)).toNat).ins.op) (f ((i : Int)).toNat).ins.a (f ((i : Int)).toNat).ins.b 8), false), (pre (inI ((dzE (iE n tg) (iE n at_) ((i : Int)).toNat) - 4)), true), (pre (propB (layOk n f layB (itE n f) (iE n tg) (iE n at_) (blE n lg) /\ 0 <= (i : Int) /\ (i : Int) < (n : Int))), true), (lg ((i : Int)).toNat, true), (pre (decide (((i : Int)).toNat < n)), true), (pre (idxB ((i : Int)) n), true), ((f ((i : Int)).toNat).kind == 3, true), ((f ((i : Int)).toNat).kind == 2, false), ((f ((i : Int)).toNat).kind == 0, false), (pre (decide (((i : Int)).toNat < n)), true), (pre (idxB ((i : Int)) n), true), (pre (decide (((i : Int)).toNat < n)), true), (pre (idxB ((i : Int)) n), true), (decide ((i : Int) < (n : Int)), true)] (by kernel_rfl) (by kernel_rfl) ?_
 try simp only [qN]
 refine qF ?_ ?_ ?_ ?_ <| qF ?_ ?_ ?_ ?_ <| qF ?_ ?_ ?_ ?_ <| qF ?_ ?_ ?_ ?_ <| qA ?_ <| qZ
 . exact (by rw [hM]; rfl)
 . exact ob_app (by omega) (by decide) (by decide)
 . exact ob_app (by omega) (by decide) (by decide)
 . exact (by rw [hM1]; rfl)
 . exact ob_inI (by omega)
 . exact propB_ok.mpr ⟨layOk_self n f tg at_ lg hn r1 r2, by omega, by omega⟩
 . assumption
 . exact ob_lt (by omega)
 . exact ob_idx (by omega)
 . assumption
 . assumption
 . assumption
 . exact ob_lt (by omega)
 . exact ob_idx (by omega)
 . exact ob_lt (by omega)
 . exact ob_idx (by omega)
 . exact ob_yes (by omega)
theorem pg_end (n : Nat) (f : Nat -> It) (tg at_ : Nat -> Int) (lg : Nat -> Bool) (a b : LE) (w : World) : S2.Sem (envPg n f) w 48 pgC (pgS n f tg at_ lg a b n) (some (some 0)) (pgS n f tg at_ lg a b n) := by
 refine sem_iter (envPg_ok n f) (GlobOk.none w) (p := (pgQ 4 5)) (fuel := 1000) [false] [(decide ((n : Int) < (n : Int)), false)] (by kernel_rfl) (by kernel_rfl) ?_
 try simp only [qN]
 refine qA ?_ <| qZ
 . exact ob_no (by omega)
theorem dzE_dis {n : Nat} {f : Nat -> It} {g : Nat -> Bool} (h : mayU n f = true) {i : Nat} (hi : i < n) (hk : (f i).kind = 2 \/ (f i).kind = 3) : dzE (iE n (tgZ f n)) (iE n (fun i => (ahN f g i : Int))) i = disN f g n i := by
 rw [dzE_self]; exact dz_dis h hi hk
theorem dis4 {n : Nat} {f : Nat -> It} {g : Nat -> Bool} (h : mayU n f = true) {i : Nat} (hi : i < n) (hk : (f i).kind = 2 \/ (f i).kind = 3) : ∃ z, disN f g n i = 4 * z := ⟨_, disN_at (laI_at h hi hk).1⟩
def AH (f : Nat -> It) (g : Nat -> Bool) (i : Nat) : Int := ahN f g i
theorem AH_rng (n : Nat) (f : Nat -> It) (g : Nat -> Bool) (j : Nat) (hj : j < n) : 0 <= AH f g j /\ AH f g j <= 2 * n := by have := ahN_le f g j; unfold AH; omega
theorem pg_step (n : Nat) (f : Nat -> It) (hn : n <= 1000000) (hy : mayU n f = true) (i : Nat) (hi : i < n) (hb : badJ f (lgG n f) n i = false) (w : World) : S2.Sem (envPg n f) w 48 pgC (pgS n f (tgZ f n) (AH f (lgG n f)) (lgG n f) (wdE (layA f (lgG n f) n i)) (ntE (layN f (lgG n f) n i)) i) none (pgS n f (tgZ f n) (AH f (lgG n f)) (lgG n f) (wdE (layA f (lgG n f) n (i + 1))) (ntE (layN f (lgG n f) n (i + 1))) (i + 1)) := by
 obtain ⟨hA, hNA⟩ := layA_len f (lgG n f) n i
 have hN : (layN f (lgG n f) n i).length <= 2 * i := by omega
 have eA : layA f (lgG n f) n (i + 1) = layA f (lgG n f) n i ++ layW f (lgG n f) n i := rfl
 have eN : layN f (lgG n f) n (i + 1) = layN f (lgG n f) n i ++ (layW f (lgG n f) n i).map fun _ => (f i).note := rfl
 obtain ⟨hk, hgk⟩ := may_kind hy i hi
 have r1 := tgZ_rng f n
 have r2 := AH_rng n f (lgG n f)
 have hno : (f i).kind ≠ 3 -> lgG n f i = false := fun hc => by
   cases e : lgG n f i
   . rfl
   . exact absurd (hgk e) hc
 rcases hk with hk | hk | hk | hk
 . have e : layW f (lgG n f) n i = [(f i).ins] := by unfold layW; rw [hk]; rfl
   refine (pg_0 n f _ _ _ _ _ i hn r1 r2 hi hA hN (by rw [hk]; rfl) (may_ins hy hi hk) w).same rfl rfl ⟨.refl _, .refl _, .refl _, .refl _, ?_, ?_, trivial⟩ rfl
   . rw [eA, e]; exact wd1_same _ _
   . rw [eN, e]; exact nt1_same _ _
 . have e : layW f (lgG n f) n i = [] := by unfold layW; rw [hk, hno (by omega)]; rfl
   refine (pg_1 n f _ _ _ _ _ i hn r1 r2 hi hA hN (by rw [hk]; rfl) (by rw [hk]; rfl) (by rw [hk]; rfl) w).same rfl rfl ⟨.refl _, .refl _, .refl _, .refl _, ?_, ?_, trivial⟩ rfl
   . rw [eA, e, List.append_nil]; exact .refl _
   . rw [eN, e, List.map_nil, List.append_nil]; exact .refl _
 . have ed : dzE (iE n (tgZ f n)) (iE n (AH f (lgG n f))) i = disN f (lgG n f) n i := dzE_dis hy hi (.inl hk)
   have e : layW f (lgG n f) n i = [jalI (dzE (iE n (tgZ f n)) (iE n (AH f (lgG n f))) i)] := by rw [ed]; unfold layW; rw [hk]; rfl
   refine (pg_2 n f _ _ _ _ _ i hn r1 r2 hi hA hN (by rw [hk]; rfl) (by rw [hk]; rfl) ?_ w).same rfl rfl ⟨.refl _, .refl _, .refl _, .refl _, ?_, ?_, trivial⟩ rfl
   . obtain ⟨z, hz⟩ := dis4 (g := lgG n f) hy hi (.inl hk)
     rw [ed, hz, may_jal]
     unfold badJ at hb
     rw [hk, hz] at hb
     have hb : ((true && farJ (4 * z)) || (lgG n f i && farJ (4 * z - 4))) = false := hb
     rw [Bool.true_and, Bool.or_eq_false_iff] at hb
     rw [hb.1]; rfl
   . rw [eA, e]; exact wd1_same _ _
   . rw [eN, e]; exact nt1_same _ _
 . have ed : dzE (iE n (tgZ f n)) (iE n (AH f (lgG n f))) i = disN f (lgG n f) n i := dzE_dis hy hi (.inr hk)
   obtain ⟨ho, hra, hrb⟩ := may_br hy hi hk
   obtain ⟨z, hz⟩ := dis4 (g := lgG n f) hy hi (.inr hk)
   cases hg : lgG n f i
   . have e : layW f (lgG n f) n i = [ifI (f i).ins.op (f i).ins.a (f i).ins.b (dzE (iE n (tgZ f n)) (iE n (AH f (lgG n f))) i)] := by rw [ed]; unfold layW; rw [hk, hg]; rfl
     refine (pg_3 n f _ _ _ _ _ i hn r1 r2 hi hA hN (by rw [hk]; rfl) (by rw [hk]; rfl) (by rw [hk]; rfl) hg ?_ w).same rfl rfl ⟨.refl _, .refl _, .refl _, .refl _, ?_, ?_, trivial⟩ rfl
     . have hc := lgG_closed n f i hi
       unfold lgB at hc
       rw [hk, hg, hz] at hc
       have hc : (decide (4 * z < -4096) || decide (4 * z > 4094)) = false := hc
       rw [<- fit13] at hc
       refine may_if ho hra hrb ?_
       rw [ed, hz, even4, Bool.true_and]
       simpa using hc
     . rw [eA, e]; exact wd1_same _ _
     . rw [eN, e]; exact nt1_same _ _
   . have e : layW f (lgG n f) n i = [ifI (oppZ (f i).ins.op) (f i).ins.a (f i).ins.b 8, jalI (dzE (iE n (tgZ f n)) (iE n (AH f (lgG n f))) i - 4)] := by rw [ed]; unfold layW; rw [hk, hg]; rfl
     have hD := disN_rng (f := f) (g := lgG n f) (n := n) (k := i) (by omega) (Nat.le_of_lt hi)
     refine (pg_3l n f _ _ _ _ _ i hn r1 r2 hi hA hN (by rw [hk]; rfl) (by rw [hk]; rfl) (by rw [hk]; rfl) hg (by rw [ed]; omega) (may_if (opp4 ho) hra hrb (by decide)) ?_ w).same rfl rfl ⟨.refl _, .refl _, .refl _, .refl _, ?_, ?_, trivial⟩ rfl
     . rw [ed, hz, show 4 * z - 4 = 4 * (z - 1) by omega, may_jal]
       unfold badJ at hb
       rw [hk, hg, hz, show 4 * z - 4 = 4 * (z - 1) by omega] at hb
       have hb : ((false && farJ (4 * z)) || (true && farJ (4 * (z - 1)))) = false := hb
       rw [Bool.false_and, Bool.false_or, Bool.true_and] at hb
       rw [hb]; rfl
     . rw [eA, e]; exact wd2_same _ _ _
     . rw [eN, e]; exact nt2_same _ _ _
theorem pg_far (n : Nat) (f : Nat -> It) (hn : n <= 1000000) (hy : mayU n f = true) (i : Nat) (hi : i < n) (hb : badJ f (lgG n f) n i = true) (w : World) : S2.Sem (envPg n f) w 48 pgC (pgS n f (tgZ f n) (AH f (lgG n f)) (lgG n f) (wdE (layA f (lgG n f) n i)) (ntE (layN f (lgG n f) n i)) i) (some none) pgR := by
 obtain ⟨hA, hNA⟩ := layA_len f (lgG n f) n i
 have hN : (layN f (lgG n f) n i).length <= 2 * i := by omega
 obtain ⟨hk, hgk⟩ := may_kind hy i hi
 have r1 := tgZ_rng f n
 have r2 := AH_rng n f (lgG n f)
 have hno : (f i).kind ≠ 3 -> lgG n f i = false := fun hc => by
   cases e : lgG n f i
   . rfl
   . exact absurd (hgk e) hc
 unfold badJ at hb
 rcases hk with hk | hk | hk | hk
 . rw [hk, hno (by omega)] at hb; cases hb
 . rw [hk, hno (by omega)] at hb; cases hb
 . have ed : dzE (iE n (tgZ f n)) (iE n (AH f (lgG n f))) i = disN f (lgG n f) n i := dzE_dis hy hi (.inl hk)
   obtain ⟨z, hz⟩ := dis4 (g := lgG n f) hy hi (.inl hk)
   refine pg_2f n f _ _ _ _ _ i hn r1 r2 hi hA hN (by rw [hk]; rfl) (by rw [hk]; rfl) ?_ w
   rw [hk, hno (by omega), hz] at hb
   have hb : ((true && farJ (4 * z)) || (false && farJ (4 * z - 4))) = true := hb
   rw [Bool.true_and, Bool.false_and, Bool.or_false] at hb
   rw [ed, hz, may_jal, hb]; rfl
 . have ed : dzE (iE n (tgZ f n)) (iE n (AH f (lgG n f))) i = disN f (lgG n f) n i := dzE_dis hy hi (.inr hk)
   obtain ⟨ho, hra, hrb⟩ := may_br hy hi hk
   obtain ⟨z, hz⟩ := dis4 (g := lgG n f) hy hi (.inr hk)
   have hD := disN_rng (f := f) (g := lgG n f) (n := n) (k := i) (by omega) (Nat.le_of_lt hi)
   cases hg : lgG n f i
   . rw [hk, hg] at hb; cases hb
   . refine pg_3f n f _ _ _ _ _ i hn r1 r2 hi hA hN (by rw [hk]; rfl) (by rw [hk]; rfl) (by rw [hk]; rfl) hg (by rw [ed]; omega) (may_if (opp4 ho) hra hrb (by decide)) ?_ w
     rw [hk, hg, hz, show 4 * z - 4 = 4 * (z - 1) by omega] at hb
     have hb : ((false && farJ (4 * z)) || (true && farJ (4 * (z - 1)))) = true := hb
     rw [Bool.false_and, Bool.false_or, Bool.true_and] at hb
     rw [ed, hz, show 4 * z - 4 = 4 * (z - 1) by omega, may_jal, hb]; rfl
def pgQ0 : Pick := { pgQ 4 5 with nil := [(6, 42, 7, nil7), (7, 3, 1, nil1)] }
theorem lay_yes (n : Nat) (f : Nat -> It) (hn : n <= 1000000) (hr : ∀ j, j < n -> wfIt (f j)) (hy : mayU n f = true) (hb : fstN (badJ f (lgG n f) n) n = none) (w : World) (vals : List Value) (ha : ArgsOk w [.inr (itE n f)] vals) : LRet Tryd.prog 28 vals true [.inr (wdE (layA f (lgG n f) n n)), .inr (ntE (layN f (lgG n f) n n)), .inl (.int .i64 0)] w := by
 refine fn_ok (envPg_ok n f) (fuel := 1000) (d := 30) (plan := [⟨pgP, pgQ0, some (some 0), pgS n f (tgZ f n) (AH f (lgG n f)) (lgG n f) (wdE (layA f (lgG n f) n n)) (ntE (layN f (lgG n f) n n)) n⟩]) (orc := [false]) (fls := [[]]) (l := [(pre (propB (isOIt (itE n f) n f /\ n <= 1000000 /\ (∀ (j : Nat), j < n -> wfIt (f j)) /\ mayU n f = true)), true), (!mayU n f, false), (pre (propB (isItE (itE n f) n f /\ n <= 1000000 /\ ∀ (j : Nat), j < n -> wfIt (f j))), true)]) (tr := [⟨.loop pgC, pgS n f (tgZ f n) (AH f (lgG n f)) (lgG n f) (wdE []) (ntE []) 0, some (some 0), pgS n f (tgZ f n) (AH f (lgG n f)) (lgG n f) (wdE (layA f (lgG n f) n n)) (ntE (layN f (lgG n f) n n)) n⟩]) (by kernel_rfl) (qA (propB_ok.mpr ⟨isOIt_self n f, hn, hr, hy⟩) <| qA (by rw [hy]; rfl) <| qA (propB_ok.mpr ⟨isItE_self n f (by omega), hn, hr⟩) qZ) Tryd.func28 w vals (GlobOk.none w) ha fun t ht => ?_
 obtain rfl := List.mem_singleton.mp ht
 exact sem_loop (x := some (some 0)) (fun i => pgS n f (tgZ f n) (AH f (lgG n f)) (lgG n f) (wdE (layA f (lgG n f) n i)) (ntE (layN f (lgG n f) n i)) i) n (by simp) (fun i hi => pg_step n f hn hy i hi (fst_none hb i hi) w) (pg_end n f _ _ _ _ _ w)
theorem lay_far (n : Nat) (f : Nat -> It) (hn : n <= 1000000) (hr : ∀ j, j < n -> wfIt (f j)) (hy : mayU n f = true) (k : Nat) (hb : fstN (badJ f (lgG n f) n) n = some k) (w : World) (vals : List Value) (ha : ArgsOk w [.inr (itE n f)] vals) : LRet Tryd.prog 28 vals false [.inl (.tuple #[.slice none 0 0, .slice none 0 0, .int .i64 33])] w := by
 obtain ⟨h1, h2, h3⟩ := fst_some hb
 refine fn_ok (envPg_ok n f) (fuel := 1000) (d := 30) (plan := [⟨pgP, pgQ0, some none, pgR⟩]) (orc := [false]) (fls := [[]]) (l := [(pre (propB (isOIt (itE n f) n f /\ n <= 1000000 /\ (∀ (j : Nat), j < n -> wfIt (f j)) /\ mayU n f = true)), true), (!mayU n f, false), (pre (propB (isItE (itE n f) n f /\ n <= 1000000 /\ ∀ (j : Nat), j < n -> wfIt (f j))), true)]) (tr := [⟨.loop pgC, pgS n f (tgZ f n) (AH f (lgG n f)) (lgG n f) (wdE []) (ntE []) 0, some none, pgR⟩]) (by kernel_rfl) (qA (propB_ok.mpr ⟨isOIt_self n f, hn, hr, hy⟩) <| qA (by rw [hy]; rfl) <| qA (propB_ok.mpr ⟨isItE_self n f (by omega), hn, hr⟩) qZ) Tryd.func28 w vals (GlobOk.none w) ha fun t ht => ?_
 obtain rfl := List.mem_singleton.mp ht
 exact sem_loop (x := some none) (fun i => pgS n f (tgZ f n) (AH f (lgG n f)) (lgG n f) (wdE (layA f (lgG n f) n i)) (ntE (layN f (lgG n f) n i)) i) k (by simp) (fun i hi => pg_step n f hn hy i (by omega) (h3 i hi) w) (pg_far n f hn hy k h1 h2 w)
theorem lLyP_ok {gl : Gl} (n : Nat) (f : Nat -> It) : LTabOk Tryd.prog gl (lLyP n f) := .row fun args tup res h w vals hG ha => by
 split at h
 . rename_i e
   simp only [qS, qP] at h
   obtain ⟨rfl, rfl, hp⟩ := h
   obtain ⟨h1, h2, h3, h4, h5⟩ := propB_ok.mp hp
   match vals, ha with
   | [u], ha => exact lay_yes n f h2 h3 h4 h5 w [u] ⟨InB.it ha.1 h1, trivial⟩
   | [], ha => exact ha.elim
   | _ :: _ :: _, ha => exact ha.2.elim
 . cases h
theorem lLyF_ok {gl : Gl} (n : Nat) (f : Nat -> It) : LTabOk Tryd.prog gl (lLyF n f) := .row fun args tup res h w vals hG ha => by
 split at h
 . rename_i e
   simp only [qS, qP] at h
   obtain ⟨rfl, rfl, hp⟩ := h
   obtain ⟨h1, h2, h3, h4, h5⟩ := propB_ok.mp hp
   match vals, ha with
   | [u], ha =>
     cases hb : fstN (badJ f (lgG n f) n) n with
     | none => exact absurd hb h5
     | some k => exact lay_far n f h2 h3 h4 k hb w [u] ⟨InB.it ha.1 h1, trivial⟩
   | [], ha => exact ha.elim
   | _ :: _ :: _, ha => exact ha.2.elim
 . cases h
end Go.Proofs.YtilljoemebbnjaaDoor
