/- Layer 10: the reference: the code of a unit, by definition. -/
import Derived.Test.YtilljoemebbnjaaDoorLong10
set_option linter.unusedVariables false
set_option linter.unusedSimpArgs false
namespace Go.Proofs.YtilljoemebbnjaaDoor
open Go.RowKit Sim S2
def oppZ (o : Int) : Int := bif o == 5 then 6 else bif o == 6 then 5 else bif o == 7 then 8 else bif o == 8 then 7 else bif o == 9 then 10 else bif o == 10 then 9 else 0
def zI10 : In := ⟨0, 0, 0, 0, 0, false, false⟩
def wdE (L : List In) : LE := ⟨42, 7, L.length, fun j => inC ((L[j]?).getD zI10), true, false, true⟩
def ntE (L : List Int) : LE := ⟨3, 1, L.length, fun j => [.int .i64 ((L[j]?).getD 0)], true, false, true⟩
def nil7 : Nat -> List Value := fun j => inC ((([] : List In)[j]?).getD zI10)
def nil1 : Nat -> List Value := fun j => [.int .i64 ((([] : List Int)[j]?).getD 0)]
def raw7 (n : Nat) (f : Nat -> List Value) : LE := ⟨42, 7, n, f, true, false, true⟩
def raw1 (n : Nat) (f : Nat -> List Value) : LE := ⟨3, 1, n, f, true, false, true⟩
theorem same7 {A : List In} {m : Nat} {g : Nat -> List Value} (h : sameE (raw7 m g) (wdE A)) (x : In) : sameE (raw7 (m + 1) (joinE m g (tabE [inC x]))) (wdE (A ++ [x])) := by
 obtain ⟨_, _, h3, _, _, h6⟩ := h
 have h3 : m = A.length := h3
 subst h3
 refine ⟨rfl, rfl, by simp [raw7, wdE], rfl, rfl, fun j hj => ?_⟩
 have hj : j < A.length + 1 := hj
 show joinE A.length g (tabE [inC x]) j = inC (((A ++ [x])[j]?).getD zI10)
 unfold joinE
 cases hb : Nat.blt j A.length
 . have : ¬ j < A.length := fun hc => by rw [<- Nat.blt_eq, hb] at hc; cases hc
   obtain rfl : j = A.length := by omega
   simp [tabE]
 . have hlt : j < A.length := by simpa [Nat.blt_eq] using hb
   simp only [cond_true]
   rw [List.getElem?_append_left hlt]
   exact h6 j hlt
theorem same1 {N : List Int} {m : Nat} {g : Nat -> List Value} (h : sameE (raw1 m g) (ntE N)) (x : Int) : sameE (raw1 (m + 1) (joinE m g (tabE [[.int .i64 x]]))) (ntE (N ++ [x])) := by
 obtain ⟨_, _, h3, _, _, h6⟩ := h
 have h3 : m = N.length := h3
 subst h3
 refine ⟨rfl, rfl, by simp [raw1, ntE], rfl, rfl, fun j hj => ?_⟩
 have hj : j < N.length + 1 := hj
 show joinE N.length g (tabE [[.int .i64 x]]) j = [.int .i64 (((N ++ [x])[j]?).getD 0)]
 unfold joinE
 cases hb : Nat.blt j N.length
 . have : ¬ j < N.length := fun hc => by rw [<- Nat.blt_eq, hb] at hc; cases hc
   obtain rfl : j = N.length := by omega
   simp [tabE]
 . have hlt : j < N.length := by simpa [Nat.blt_eq] using hb
   simp only [cond_true]
   rw [List.getElem?_append_left hlt]
   exact h6 j hlt
def farJ (d : Int) : Bool := decide (d < -1048576) || decide (d > 1048574)
def jalI (d : Int) : In := ⟨3, 0, 0, 0, d, false, false⟩
def ifI (o a b d : Int) : In := ⟨o, 0, a, b, d, false, false⟩
def layW (f : Nat -> It) (g : Nat -> Bool) (n i : Nat) : List In :=
 bif (f i).kind == 0 then [(f i).ins] else bif (f i).kind == 2 then [jalI (disN f g n i)]
 else bif g i then [ifI (oppZ (f i).ins.op) (f i).ins.a (f i).ins.b 8, jalI (disN f g n i - 4)]
 else bif (f i).kind == 3 then [ifI (f i).ins.op (f i).ins.a (f i).ins.b (disN f g n i)] else []
def badJ (f : Nat -> It) (g : Nat -> Bool) (n i : Nat) : Bool := ((f i).kind == 2 && farJ (disN f g n i)) || (g i && farJ (disN f g n i - 4))
def layA (f : Nat -> It) (g : Nat -> Bool) (n : Nat) : Nat -> List In
 | 0 => []
 | i + 1 => layA f g n i ++ layW f g n i
def layN (f : Nat -> It) (g : Nat -> Bool) (n : Nat) : Nat -> List Int
 | 0 => []
 | i + 1 => layN f g n i ++ (layW f g n i).map fun _ => (f i).note
theorem layW_len (f : Nat -> It) (g : Nat -> Bool) (n i : Nat) : (layW f g n i).length <= 2 := by
 unfold layW
 cases (f i).kind == 0 <;> cases (f i).kind == 2 <;> cases g i <;> cases (f i).kind == 3 <;> simp
theorem layA_len (f : Nat -> It) (g : Nat -> Bool) (n : Nat) : ∀ i, (layA f g n i).length <= 2 * i /\ (layN f g n i).length = (layA f g n i).length
 | 0 => ⟨Nat.le_refl _, rfl⟩
 | i + 1 => by
   obtain ⟨h1, h2⟩ := layA_len f g n i
   have := layW_len f g n i
   show (layA f g n i ++ _).length <= _ /\ (layN f g n i ++ _).length = (layA f g n i ++ _).length
   rw [List.length_append, List.length_append, List.length_map]
   omega
theorem opp_not (o : Int) : (oppZ o == 3) = false := by
 unfold oppZ
 cases o == 5 <;> cases o == 6 <;> cases o == 7 <;> cases o == 8 <;> cases o == 9 <;> cases o == 10 <;> rfl
theorem opR_ffffff (op : Int) : S2.simF envA10 1000 10 [] [false, false, false, false, false, false] 35 [[true]] [.inl (.int .i64 op)] = some (false, [.inl (.int .i64 0)], [(op == 10, false), (op == 9, false), (op == 8, false), (op == 7, false), (op == 6, false), (op == 5, false)], []) := by kernel_rfl
theorem opR_ffffft (op : Int) : S2.simF envA10 1000 10 [] [false, false, false, false, false, true] 35 [[true]] [.inl (.int .i64 op)] = some (false, [.inl (.int .i64 9)], [(op == 10, true), (op == 9, false), (op == 8, false), (op == 7, false), (op == 6, false), (op == 5, false)], []) := by kernel_rfl
theorem opR_fffft (op : Int) : S2.simF envA10 1000 10 [] [false, false, false, false, true] 35 [[true]] [.inl (.int .i64 op)] = some (false, [.inl (.int .i64 10)], [(op == 9, true), (op == 8, false), (op == 7, false), (op == 6, false), (op == 5, false)], []) := by kernel_rfl
theorem opR_ffft (op : Int) : S2.simF envA10 1000 10 [] [false, false, false, true] 35 [[true]] [.inl (.int .i64 op)] = some (false, [.inl (.int .i64 7)], [(op == 8, true), (op == 7, false), (op == 6, false), (op == 5, false)], []) := by kernel_rfl
theorem opR_fft (op : Int) : S2.simF envA10 1000 10 [] [false, false, true] 35 [[true]] [.inl (.int .i64 op)] = some (false, [.inl (.int .i64 8)], [(op == 7, true), (op == 6, false), (op == 5, false)], []) := by kernel_rfl
theorem opR_ft (op : Int) : S2.simF envA10 1000 10 [] [false, true] 35 [[true]] [.inl (.int .i64 op)] = some (false, [.inl (.int .i64 5)], [(op == 6, true), (op == 5, false)], []) := by kernel_rfl
theorem opR_t (op : Int) : S2.simF envA10 1000 10 [] [true] 35 [[true]] [.inl (.int .i64 op)] = some (false, [.inl (.int .i64 6)], [(op == 5, true)], []) := by kernel_rfl
theorem opR_ret (op : Int) (w : World) : Ret Tryd.prog 35 #[.int .i64 op] (.int .i64 (oppZ op)) w := by
 cases h0 : (op == 5)
 case' false =>
   cases h1 : (op == 6)
   case' false =>
     cases h2 : (op == 7)
     case' false =>
       cases h3 : (op == 8)
       case' false =>
         cases h4 : (op == 9)
         case' false =>
           cases h5 : (op == 10)
           case' false =>
             exact (ret7 envA10_ok _ _ (opR_ffffff op) (qA h5 <| qA h4 <| qA h3 <| qA h2 <| qA h1 <| qA h0 <| qZ) Tryd.func35 w [.int .i64 op] (GlobOk.none w) ⟨rfl, trivial⟩).of_eq (by unfold oppZ; rw [h0, h1, h2, h3, h4, h5]; rfl)
           case' true =>
             exact (ret7 envA10_ok _ _ (opR_ffffft op) (qA h5 <| qA h4 <| qA h3 <| qA h2 <| qA h1 <| qA h0 <| qZ) Tryd.func35 w [.int .i64 op] (GlobOk.none w) ⟨rfl, trivial⟩).of_eq (by unfold oppZ; rw [h0, h1, h2, h3, h4, h5]; rfl)
         case' true =>
           exact (ret7 envA10_ok _ _ (opR_fffft op) (qA h4 <| qA h3 <| qA h2 <| qA h1 <| qA h0 <| qZ) Tryd.func35 w [.int .i64 op] (GlobOk.none w) ⟨rfl, trivial⟩).of_eq (by unfold oppZ; rw [h0, h1, h2, h3, h4]; rfl)
       case' true =>
         exact (ret7 envA10_ok _ _ (opR_ffft op) (qA h3 <| qA h2 <| qA h1 <| qA h0 <| qZ) Tryd.func35 w [.int .i64 op] (GlobOk.none w) ⟨rfl, trivial⟩).of_eq (by unfold oppZ; rw [h0, h1, h2, h3]; rfl)
     case' true =>
       exact (ret7 envA10_ok _ _ (opR_fft op) (qA h2 <| qA h1 <| qA h0 <| qZ) Tryd.func35 w [.int .i64 op] (GlobOk.none w) ⟨rfl, trivial⟩).of_eq (by unfold oppZ; rw [h0, h1, h2]; rfl)
   case' true =>
     exact (ret7 envA10_ok _ _ (opR_ft op) (qA h1 <| qA h0 <| qZ) Tryd.func35 w [.int .i64 op] (GlobOk.none w) ⟨rfl, trivial⟩).of_eq (by unfold oppZ; rw [h0, h1]; rfl)
 case' true =>
   exact (ret7 envA10_ok _ _ (opR_t op) (qA h0 <| qZ) Tryd.func35 w [.int .i64 op] (GlobOk.none w) ⟨rfl, trivial⟩).of_eq (by unfold oppZ; rw [h0]; rfl)
def tOpR : Tab := row 35 decI fun x => .int .i64 (oppZ x)
theorem tOpR_ok {gl : Gl} : TabOk Tryd.prog gl tOpR := tabI fun x w hG => opR_ret x w
noncomputable def lLongR (n : Nat) (f : Nat -> It) : LTab := lrow 33 fun args => match args with
 | [.inr e] => some (false, [.inr (blE n (lgG n f))], pre (propB (isItE e n f /\ n <= 1000000000)))
 | _ => none
theorem lLongR_ok {gl : Gl} (n : Nat) (f : Nat -> It) : LTabOk Tryd.prog gl (lLongR n f) := .row fun args tup res h w vals hG ha => by
 split at h
 . rename_i e
   simp only [qS, qP] at h
   obtain ⟨rfl, rfl, hp⟩ := h
   obtain ⟨h1, h2⟩ := propB_ok.mp hp
   match vals, ha with
   | [u], ha => exact refLong_ret n f h2 w [u] ⟨InB.it ha.1 h1, trivial⟩
   | [], ha => exact ha.elim
   | _ :: _ :: _, ha => exact ha.2.elim
 . cases h
noncomputable def envY10 (n : Nat) (f : Nat -> It) : S2.Env := envk Tryd.prog (fun _ => none) true tOpR noP (orL (lLongR n f) (lDist n f))
noncomputable def lyS (n : Nat) (f : Nat -> It) (g : Nat -> Bool) (a b : LE) (i : Nat) : S2.St := { tmps := [(0, .c 0), (5, .c 1), (6, .c 2), (7, .c 3), (8, .inl ([true], .int .i64 i))], own := ⟨[], [itE n f, blE n g, a, b]⟩, lo := 0, llo := 0, mem := true, orc := [], obl := [] }
def lyQ : Pick := { ts := [0, 5, 6, 7, 8], bs := [], ls := [0, 1, 2, 3], opn := [8] }
def lyQ0 : Pick := { ts := [0, 5, 6, 7, 8], bs := [], ls := [0, 1, 2, 3], nil := [(6, 42, 7, nil7), (7, 3, 1, nil1)], opn := [8] }
def lyQR : Pick := { ts := [2, 3, 4], bs := [], ls := [], opn := [] }
def lyP : List Nat := [0, 1, 0, 1, 1, 1, 1]
noncomputable def lyC : Code := codeAt (codeOf Tryd.prog 21) (0 :: lyP)
theorem envY10_ok (n : Nat) (f : Nat -> It) : CallOk (envY10 n f) := envk_ok (nw := true) tOpR_ok (.none _ _) ((lLongR_ok n f).or (lDist_ok n f))
def lyQ1 : Pick := { ts := [0, 5, 6, 7, 8], bs := [], ls := [0, 1, 4, 5], opn := [8] }
def lyQ2 : Pick := { ts := [0, 5, 6, 7, 8], bs := [], ls := [0, 1, 6, 7], opn := [8] }
def lyR : S2.St := { tmps := [(2, .inl ([], .slice none 0 0)), (3, .inl ([], .slice none 0 0)), (4, .inl ([], .bool false))], own := ⟨[], []⟩, lo := 0, llo := 0, mem := true, orc := [], obl := [] }
def wd1 (A : List In) (x : In) : LE := raw7 (A.length + 1) (joinE A.length (wdE A).el (tabE [inC x]))
def wd2 (A : List In) (x y : In) : LE := raw7 (A.length + 1 + 1) (joinE (A.length + 1) (wd1 A x).el (tabE [inC y]))
def nt1 (N : List Int) (x : Int) : LE := raw1 (N.length + 1) (joinE N.length (ntE N).el (tabE [[.int .i64 x]]))
def nt2 (N : List Int) (x y : Int) : LE := raw1 (N.length + 1 + 1) (joinE (N.length + 1) (nt1 N x).el (tabE [[.int .i64 y]]))
theorem wd1_same (A : List In) (x : In) : sameE (wd1 A x) (wdE (A ++ [x])) := same7 (g := (wdE A).el) ⟨rfl, rfl, rfl, rfl, rfl, fun _ _ => rfl⟩ x
theorem wd2_same (A : List In) (x y : In) : sameE (wd2 A x y) (wdE (A ++ [x, y])) := by
 have := same7 (g := (wd1 A x).el) (m := A.length + 1) (wd1_same A x) y
 rw [List.append_assoc] at this
 exact this
theorem nt1_same (N : List Int) (x : Int) : sameE (nt1 N x) (ntE (N ++ [x])) := same1 (g := (ntE N).el) ⟨rfl, rfl, rfl, rfl, rfl, fun _ _ => rfl⟩ x
theorem nt2_same (N : List Int) (x y : Int) : sameE (nt2 N x y) (ntE (N ++ [x, y])) := by
 have := same1 (g := (nt1 N x).el) (m := N.length + 1) (nt1_same N x) y
 rw [List.append_assoc] at this
 exact this
theorem ly_0a (n : Nat) (f : Nat -> It) (g : Nat -> Bool) (A : List In) (N : List Int) (i : Nat) (hn : n <= 1000000000) (hi : i < n) (hA : A.length <= 2 * i) (hN : N.length <= 2 * i) (k0 : ((f i).kind == 0) = true) (k2 : ((f i).kind == 2) = false) (k3 : ((f i).kind == 3) = false) (h1 : ((f i).ins.op == 3) = true) (h2 : ((f i).kind != 0) = false) (w : World) : S2.Sem (envY10 n f) w 171 lyC (lyS n f g (wdE A) (ntE N) i) none (lyS n f g (wd1 A ((f i).ins)) (nt1 N (f i).note) (i + 1)) := by
 have hD := disN_rng (f := f) (g := g) hn (Nat.le_of_lt hi)
 rw [<- show dsE n f (blE n g) i = disN f g n i from dsE_eq n f (blE n g) i] at hD
 refine sem_iter (envY10_ok n f) (GlobOk.none w) (p := lyQ1) (fuel := 1000) [true, false, false, true, true, false] [(pre (inI ((i : Int) + 1)), true), (pre (decide (N.length + 1 <= maxLen /\ (N.length + 1) * 8 <= 140737488355328 /\ 0 < 1)), true), (pre (decide (((i : Int)).toNat < n)), true), (pre (decide (((i : Int)).toNat < n)), true), (pre (idxB ((i : Int)) n), true), (pre (decide (A.length + 1 <= maxLen /\ (A.length + 1) * 48 <= 140737488355328 /\ 0 < 1)), true), ((f ((i : Int)).toNat).kind != 0, false), (pre (decide (((i : Int)).toNat < n)), true), (pre (decide (((i : Int)).toNat < n)), true), (pre (idxB ((i : Int)) n), true), ((f ((i : Int)).toNat).ins.op == 3, true), (pre (decide (((i : Int)).toNat < n)), true), (pre (decide (((i : Int)).toNat < n)), true), (pre (idxB ((i : Int)) n), true), ((f ((i : Int)).toNat).kind == 0, true), (pre (decide (((i : Int)).toNat < n)), true), (pre (decide (((i : Int)).toNat < n)), true), (pre (idxB ((i : Int)) n), true), ((f ((i : Int)).toNat).kind == 3, false), (pre (decide (((i : Int)).toNat < n)), true), (pre (decide (((i : Int)).toNat < n)), true), (pre (idxB ((i : Int)) n), true), ((f ((i : Int)).toNat).kind == 2, false), (pre (decide (((i : Int)).toNat < n)), true), (pre (decide (((i : Int)).toNat < n)), true), (pre (idxB ((i : Int)) n), true), (decide ((i : Int) < ↑n), true)] (by kernel_rfl) (by kernel_rfl) ?_
 try simp only [qN]
 refine qF ?_ ?_ ?_ ?_ <| qF ?_ ?_ ?_ ?_ <| qF ?_ ?_ ?_ ?_ <| qF ?_ ?_ ?_ ?_ <| qF ?_ ?_ ?_ ?_ <| qF ?_ ?_ ?_ ?_ <| qA ?_ <| qA ?_ <| qA ?_ <| qZ
 . exact ob_inI (by omega)
 . exact ob_app (by omega) (by decide) (by decide)
 . exact ob_lt (by omega)
 . exact ob_lt (by omega)
 . exact ob_idx (by omega)
 . exact ob_app (by omega) (by decide) (by decide)
 . assumption
 . exact ob_lt (by omega)
 . exact ob_lt (by omega)
 . exact ob_idx (by omega)
 . assumption
 . exact ob_lt (by omega)
 . exact ob_lt (by omega)
 . exact ob_idx (by omega)
 . assumption
 . exact ob_lt (by omega)
 . exact ob_lt (by omega)
 . exact ob_idx (by omega)
 . assumption
 . exact ob_lt (by omega)
 . exact ob_lt (by omega)
 . exact ob_idx (by omega)
 . assumption
 . exact ob_lt (by omega)
 . exact ob_lt (by omega)
 . exact ob_idx (by omega)
 . exact ob_yes (by omega)
theorem ly_0b (n : Nat) (f : Nat -> It) (g : Nat -> Bool) (A : List In) (N : List Int) (i : Nat) (hn : n <= 1000000000) (hi : i < n) (hA : A.length <= 2 * i) (hN : N.length <= 2 * i) (k0 : ((f i).kind == 0) = true) (k2 : ((f i).kind == 2) = false) (k3 : ((f i).kind == 3) = false) (h1 : ((f i).ins.op == 3) = false) (w : World) : S2.Sem (envY10 n f) w 171 lyC (lyS n f g (wdE A) (ntE N) i) none (lyS n f g (wd1 A ((f i).ins)) (nt1 N (f i).note) (i + 1)) := by
 have hD := disN_rng (f := f) (g := g) hn (Nat.le_of_lt hi)
 rw [<- show dsE n f (blE n g) i = disN f g n i from dsE_eq n f (blE n g) i] at hD
 refine sem_iter (envY10_ok n f) (GlobOk.none w) (p := lyQ1) (fuel := 1000) [true, false, false, true, false] [(pre (inI ((i : Int) + 1)), true), (pre (decide (N.length + 1 <= maxLen /\ (N.length + 1) * 8 <= 140737488355328 /\ 0 < 1)), true), (pre (decide (((i : Int)).toNat < n)), true), (pre (decide (((i : Int)).toNat < n)), true), (pre (idxB ((i : Int)) n), true), (pre (decide (A.length + 1 <= maxLen /\ (A.length + 1) * 48 <= 140737488355328 /\ 0 < 1)), true), ((f ((i : Int)).toNat).ins.op == 3, false), (pre (decide (((i : Int)).toNat < n)), true), (pre (decide (((i : Int)).toNat < n)), true), (pre (idxB ((i : Int)) n), true), ((f ((i : Int)).toNat).kind == 0, true), (pre (decide (((i : Int)).toNat < n)), true), (pre (decide (((i : Int)).toNat < n)), true), (pre (idxB ((i : Int)) n), true), ((f ((i : Int)).toNat).kind == 3, false), (pre (decide (((i : Int)).toNat < n)), true), (pre (decide (((i : Int)).toNat < n)), true), (pre (idxB ((i : Int)) n), true), ((f ((i : Int)).toNat).kind == 2, false), (pre (decide (((i : Int)).toNat < n)), true), (pre (decide (((i : Int)).toNat < n)), true), (pre (idxB ((i : Int)) n), true), (decide ((i : Int) < ↑n), true)] (by kernel_rfl) (by kernel_rfl) ?_
 try simp only [qN]
 refine qF ?_ ?_ ?_ ?_ <| qF ?_ ?_ ?_ ?_ <| qF ?_ ?_ ?_ ?_ <| qF ?_ ?_ ?_ ?_ <| qF ?_ ?_ ?_ ?_ <| qA ?_ <| qA ?_ <| qA ?_ <| qZ
 . exact ob_inI (by omega)
 . exact ob_app (by omega) (by decide) (by decide)
 . exact ob_lt (by omega)
 . exact ob_lt (by omega)
 . exact ob_idx (by omega)
 . exact ob_app (by omega) (by decide) (by decide)
 . assumption
 . exact ob_lt (by omega)
 . exact ob_lt (by omega)
 . exact ob_idx (by omega)
 . assumption
 . exact ob_lt (by omega)
 . exact ob_lt (by omega)
 . exact ob_idx (by omega)
 . assumption
 . exact ob_lt (by omega)
 . exact ob_lt (by omega)
 . exact ob_idx (by omega)
 . assumption
 . exact ob_lt (by omega)
 . exact ob_lt (by omega)
 . exact ob_idx (by omega)
 . exact ob_yes (by omega)
theorem ly_no (n : Nat) (f : Nat -> It) (g : Nat -> Bool) (A : List In) (N : List Int) (i : Nat) (hn : n <= 1000000000) (hi : i < n) (hA : A.length <= 2 * i) (hN : N.length <= 2 * i) (k0 : ((f i).kind == 0) = false) (k2 : ((f i).kind == 2) = false) (k3 : ((f i).kind == 3) = false) (hg : g i = false) (w : World) : S2.Sem (envY10 n f) w 171 lyC (lyS n f g (wdE A) (ntE N) i) none (lyS n f g (wdE A) (ntE N) (i + 1)) := by
 have hD := disN_rng (f := f) (g := g) hn (Nat.le_of_lt hi)
 rw [<- show dsE n f (blE n g) i = disN f g n i from dsE_eq n f (blE n g) i] at hD
 refine sem_iter (envY10_ok n f) (GlobOk.none w) (p := lyQ) (fuel := 1000) [true, false, false, false, false, false, false] [(pre (inI ((i : Int) + 1)), true), ((f ((i : Int)).toNat).kind == 3, false), (pre (decide (((i : Int)).toNat < n)), true), (pre (decide (((i : Int)).toNat < n)), true), (pre (idxB ((i : Int)) n), true), (g ((i : Int)).toNat, false), (pre (decide (((i : Int)).toNat < n)), true), (pre (idxB ((i : Int)) n), true), ((f ((i : Int)).toNat).kind == 2, false), (pre (decide (((i : Int)).toNat < n)), true), (pre (decide (((i : Int)).toNat < n)), true), (pre (idxB ((i : Int)) n), true), ((f ((i : Int)).toNat).kind == 0, false), (pre (decide (((i : Int)).toNat < n)), true), (pre (decide (((i : Int)).toNat < n)), true), (pre (idxB ((i : Int)) n), true), ((f ((i : Int)).toNat).kind == 3, false), (pre (decide (((i : Int)).toNat < n)), true), (pre (decide (((i : Int)).toNat < n)), true), (pre (idxB ((i : Int)) n), true), ((f ((i : Int)).toNat).kind == 2, false), (pre (decide (((i : Int)).toNat < n)), true), (pre (decide (((i : Int)).toNat < n)), true), (pre (idxB ((i : Int)) n), true), (decide ((i : Int) < ↑n), true)] (by kernel_rfl) (by kernel_rfl) ?_
 try simp only [qN]
 refine qF ?_ ?_ ?_ ?_ <| qF ?_ ?_ ?_ ?_ <| qF ?_ ?_ ?_ ?_ <| qF ?_ ?_ ?_ ?_ <| qF ?_ ?_ ?_ ?_ <| qF ?_ ?_ ?_ ?_ <| qA ?_ <| qZ
 . exact ob_inI (by omega)
 . assumption
 . exact ob_lt (by omega)
 . exact ob_lt (by omega)
 . exact ob_idx (by omega)
 . assumption
 . exact ob_lt (by omega)
 . exact ob_idx (by omega)
 . assumption
 . exact ob_lt (by omega)
 . exact ob_lt (by omega)
 . exact ob_idx (by omega)
 . assumption
 . exact ob_lt (by omega)
 . exact ob_lt (by omega)
 . exact ob_idx (by omega)
 . assumption
 . exact ob_lt (by omega)
 . exact ob_lt (by omega)
 . exact ob_idx (by omega)
 . assumption
 . exact ob_lt (by omega)
 . exact ob_lt (by omega)
 . exact ob_idx (by omega)
 . exact ob_yes (by omega)
theorem ly_2 (n : Nat) (f : Nat -> It) (g : Nat -> Bool) (A : List In) (N : List Int) (i : Nat) (hn : n <= 1000000000) (hi : i < n) (hA : A.length <= 2 * i) (hN : N.length <= 2 * i) (k0 : ((f i).kind == 0) = false) (k2 : ((f i).kind == 2) = true) (k3 : ((f i).kind == 3) = false) (h1 : ((f i).kind != 0) = true) (d1 : decide (dsE n f (blE n g) i < -1048576) = false) (d2 : decide (dsE n f (blE n g) i > 1048574) = false) (w : World) : S2.Sem (envY10 n f) w 171 lyC (lyS n f g (wdE A) (ntE N) i) none (lyS n f g (wd1 A (jalI (dsE n f (blE n g) i))) (nt1 N (f i).note) (i + 1)) := by
 have hD := disN_rng (f := f) (g := g) hn (Nat.le_of_lt hi)
 rw [<- show dsE n f (blE n g) i = disN f g n i from dsE_eq n f (blE n g) i] at hD
 refine sem_iter (envY10_ok n f) (GlobOk.none w) (p := lyQ1) (fuel := 1000) [true, true, false, true, true, true, false, false] [(pre (inI ((i : Int) + 1)), true), (pre (decide (N.length + 1 <= maxLen /\ (N.length + 1) * 8 <= 140737488355328 /\ 0 < 1)), true), (pre (decide (((i : Int)).toNat < n)), true), (pre (decide (((i : Int)).toNat < n)), true), (pre (idxB ((i : Int)) n), true), (pre (decide (A.length + 1 <= maxLen /\ (A.length + 1) * 48 <= 140737488355328 /\ 0 < 1)), true), (decide (dsE n f (blE n g) ((i : Int)).toNat > 1048574), false), (decide (dsE n f (blE n g) ((i : Int)).toNat < -1048576), false), ((f ((i : Int)).toNat).kind != 0, true), (pre (decide (((i : Int)).toNat < n)), true), (pre (decide (((i : Int)).toNat < n)), true), (pre (idxB ((i : Int)) n), true), (true, true), ((f ((i : Int)).toNat).kind == 2, true), (pre (decide (((i : Int)).toNat < n)), true), (pre (decide (((i : Int)).toNat < n)), true), (pre (idxB ((i : Int)) n), true), ((f ((i : Int)).toNat).kind == 0, false), (pre (decide (((i : Int)).toNat < n)), true), (pre (decide (((i : Int)).toNat < n)), true), (pre (idxB ((i : Int)) n), true), (pre (propB (isItE (itE n f) n f /\ n <= 1000000000 /\ isBl (blE n g) n /\ 0 <= (i : Int) /\ (i : Int) < (n : Int))), true), ((f ((i : Int)).toNat).kind == 2, true), (pre (decide (((i : Int)).toNat < n)), true), (pre (decide (((i : Int)).toNat < n)), true), (pre (idxB ((i : Int)) n), true), (decide ((i : Int) < ↑n), true)] (by kernel_rfl) (by kernel_rfl) ?_
 try simp only [qN]
 refine qF ?_ ?_ ?_ ?_ <| qF ?_ ?_ ?_ ?_ <| qF ?_ ?_ ?_ ?_ <| qF ?_ ?_ ?_ ?_ <| qF ?_ ?_ ?_ ?_ <| qF ?_ ?_ ?_ ?_ <| qA ?_ <| qA ?_ <| qA ?_ <| qZ
 . exact ob_inI (by omega)
 . exact ob_app (by omega) (by decide) (by decide)
 . exact ob_lt (by omega)
 . exact ob_lt (by omega)
 . exact ob_idx (by omega)
 . exact ob_app (by omega) (by decide) (by decide)
 . assumption
 . assumption
 . assumption
 . exact ob_lt (by omega)
 . exact ob_lt (by omega)
 . exact ob_idx (by omega)
 . exact rfl
 . assumption
 . exact ob_lt (by omega)
 . exact ob_lt (by omega)
 . exact ob_idx (by omega)
 . assumption
 . exact ob_lt (by omega)
 . exact ob_lt (by omega)
 . exact ob_idx (by omega)
 . exact propB_ok.mpr ⟨isItE_self n f (by omega), hn, isBl_E n g, by omega, by omega⟩
 . assumption
 . exact ob_lt (by omega)
 . exact ob_lt (by omega)
 . exact ob_idx (by omega)
 . exact ob_yes (by omega)
theorem ly_2x (n : Nat) (f : Nat -> It) (g : Nat -> Bool) (A : List In) (N : List Int) (i : Nat) (hn : n <= 1000000000) (hi : i < n) (hA : A.length <= 2 * i) (hN : N.length <= 2 * i) (k0 : ((f i).kind == 0) = false) (k2 : ((f i).kind == 2) = true) (k3 : ((f i).kind == 3) = false) (h1 : ((f i).kind != 0) = true) (d1 : decide (dsE n f (blE n g) i < -1048576) = true) (w : World) : S2.Sem (envY10 n f) w 171 lyC (lyS n f g (wdE A) (ntE N) i) (some none) (lyR) := by
 have hD := disN_rng (f := f) (g := g) hn (Nat.le_of_lt hi)
 rw [<- show dsE n f (blE n g) i = disN f g n i from dsE_eq n f (blE n g) i] at hD
 refine sem_iter (envY10_ok n f) (GlobOk.none w) (p := lyQR) (fuel := 1000) [true, true, false, true, true, true, true] [(decide (dsE n f (blE n g) ((i : Int)).toNat < -1048576), true), ((f ((i : Int)).toNat).kind != 0, true), (pre (decide (((i : Int)).toNat < n)), true), (pre (decide (((i : Int)).toNat < n)), true), (pre (idxB ((i : Int)) n), true), (true, true), ((f ((i : Int)).toNat).kind == 2, true), (pre (decide (((i : Int)).toNat < n)), true), (pre (decide (((i : Int)).toNat < n)), true), (pre (idxB ((i : Int)) n), true), ((f ((i : Int)).toNat).kind == 0, false), (pre (decide (((i : Int)).toNat < n)), true), (pre (decide (((i : Int)).toNat < n)), true), (pre (idxB ((i : Int)) n), true), (pre (propB (isItE (itE n f) n f /\ n <= 1000000000 /\ isBl (blE n g) n /\ 0 <= (i : Int) /\ (i : Int) < (n : Int))), true), ((f ((i : Int)).toNat).kind == 2, true), (pre (decide (((i : Int)).toNat < n)), true), (pre (decide (((i : Int)).toNat < n)), true), (pre (idxB ((i : Int)) n), true), (decide ((i : Int) < ↑n), true)] (by kernel_rfl) (by kernel_rfl) ?_
 try simp only [qN]
 refine qF ?_ ?_ ?_ ?_ <| qF ?_ ?_ ?_ ?_ <| qF ?_ ?_ ?_ ?_ <| qF ?_ ?_ ?_ ?_ <| qF ?_ ?_ ?_ ?_ <| qZ
 . assumption
 . assumption
 . exact ob_lt (by omega)
 . exact ob_lt (by omega)
 . exact ob_idx (by omega)
 . exact rfl
 . assumption
 . exact ob_lt (by omega)
 . exact ob_lt (by omega)
 . exact ob_idx (by omega)
 . assumption
 . exact ob_lt (by omega)
 . exact ob_lt (by omega)
 . exact ob_idx (by omega)
 . exact propB_ok.mpr ⟨isItE_self n f (by omega), hn, isBl_E n g, by omega, by omega⟩
 . assumption
 . exact ob_lt (by omega)
 . exact ob_lt (by omega)
 . exact ob_idx (by omega)
 . exact ob_yes (by omega)
theorem ly_2y (n : Nat) (f : Nat -> It) (g : Nat -> Bool) (A : List In) (N : List Int) (i : Nat) (hn : n <= 1000000000) (hi : i < n) (hA : A.length <= 2 * i) (hN : N.length <= 2 * i) (k0 : ((f i).kind == 0) = false) (k2 : ((f i).kind == 2) = true) (k3 : ((f i).kind == 3) = false) (h1 : ((f i).kind != 0) = true) (d1 : decide (dsE n f (blE n g) i < -1048576) = false) (d2 : decide (dsE n f (blE n g) i > 1048574) = true) (w : World) : S2.Sem (envY10 n f) w 171 lyC (lyS n f g (wdE A) (ntE N) i) (some none) (lyR) := by
 have hD := disN_rng (f := f) (g := g) hn (Nat.le_of_lt hi)
 rw [<- show dsE n f (blE n g) i = disN f g n i from dsE_eq n f (blE n g) i] at hD
 refine sem_iter (envY10_ok n f) (GlobOk.none w) (p := lyQR) (fuel := 1000) [true, true, false, true, true, true, false, true] [(decide (dsE n f (blE n g) ((i : Int)).toNat > 1048574), true), (decide (dsE n f (blE n g) ((i : Int)).toNat < -1048576), false), ((f ((i : Int)).toNat).kind != 0, true), (pre (decide (((i : Int)).toNat < n)), true), (pre (decide (((i : Int)).toNat < n)), true), (pre (idxB ((i : Int)) n), true), (true, true), ((f ((i : Int)).toNat).kind == 2, true), (pre (decide (((i : Int)).toNat < n)), true), (pre (decide (((i : Int)).toNat < n)), true), (pre (idxB ((i : Int)) n), true), ((f ((i : Int)).toNat).kind == 0, false), (pre (decide (((i : Int)).toNat < n)), true), (pre (decide (((i : Int)).toNat < n)), true), (pre (idxB ((i : Int)) n), true), (pre (propB (isItE (itE n f) n f /\ n <= 1000000000 /\ isBl (blE n g) n /\ 0 <= (i : Int) /\ (i : Int) < (n : Int))), true), ((f ((i : Int)).toNat).kind == 2, true), (pre (decide (((i : Int)).toNat < n)), true), (pre (decide (((i : Int)).toNat < n)), true), (pre (idxB ((i : Int)) n), true), (decide ((i : Int) < ↑n), true)] (by kernel_rfl) (by kernel_rfl) ?_
 try simp only [qN]
 refine qF ?_ ?_ ?_ ?_ <| qF ?_ ?_ ?_ ?_ <| qF ?_ ?_ ?_ ?_ <| qF ?_ ?_ ?_ ?_ <| qF ?_ ?_ ?_ ?_ <| qA ?_ <| qZ
 . assumption
 . assumption
 . assumption
 . exact ob_lt (by omega)
 . exact ob_lt (by omega)
 . exact ob_idx (by omega)
 . exact rfl
 . assumption
 . exact ob_lt (by omega)
 . exact ob_lt (by omega)
 . exact ob_idx (by omega)
 . assumption
 . exact ob_lt (by omega)
 . exact ob_lt (by omega)
 . exact ob_idx (by omega)
 . exact propB_ok.mpr ⟨isItE_self n f (by omega), hn, isBl_E n g, by omega, by omega⟩
 . assumption
 . exact ob_lt (by omega)
 . exact ob_lt (by omega)
 . exact ob_idx (by omega)
 . exact ob_yes (by omega)
theorem ly_s (n : Nat) (f : Nat -> It) (g : Nat -> Bool) (A : List In) (N : List Int) (i : Nat) (hn : n <= 1000000000) (hi : i < n) (hA : A.length <= 2 * i) (hN : N.length <= 2 * i) (k0 : ((f i).kind == 0) = false) (k2 : ((f i).kind == 2) = false) (k3 : ((f i).kind == 3) = true) (hg : g i = false) (h1 : ((f i).ins.op == 3) = false) (w : World) : S2.Sem (envY10 n f) w 171 lyC (lyS n f g (wdE A) (ntE N) i) none (lyS n f g (wd1 A (ifI (f i).ins.op (f i).ins.a (f i).ins.b (dsE n f (blE n g) i))) (nt1 N (f i).note) (i + 1)) := by
 have hD := disN_rng (f := f) (g := g) hn (Nat.le_of_lt hi)
 rw [<- show dsE n f (blE n g) i = disN f g n i from dsE_eq n f (blE n g) i] at hD
 refine sem_iter (envY10_ok n f) (GlobOk.none w) (p := lyQ1) (fuel := 1000) [true, false, true, false, false, false, true, false] [(pre (inI ((i : Int) + 1)), true), (pre (decide (N.length + 1 <= maxLen /\ (N.length + 1) * 8 <= 140737488355328 /\ 0 < 1)), true), (pre (decide (((i : Int)).toNat < n)), true), (pre (decide (((i : Int)).toNat < n)), true), (pre (idxB ((i : Int)) n), true), (pre (decide (A.length + 1 <= maxLen /\ (A.length + 1) * 48 <= 140737488355328 /\ 0 < 1)), true), ((f ((i : Int)).toNat).ins.op == 3, false), (pre (decide (((i : Int)).toNat < n)), true), (pre (decide (((i : Int)).toNat < n)), true), (pre (decide (((i : Int)).toNat < n)), true), (pre (idxB ((i : Int)) n), true), (pre (decide (((i : Int)).toNat < n)), true), (pre (decide (((i : Int)).toNat < n)), true), (pre (decide (((i : Int)).toNat < n)), true), (pre (idxB ((i : Int)) n), true), (pre (decide (((i : Int)).toNat < n)), true), (pre (decide (((i : Int)).toNat < n)), true), (pre (decide (((i : Int)).toNat < n)), true), (pre (idxB ((i : Int)) n), true), ((f ((i : Int)).toNat).kind == 3, true), (pre (decide (((i : Int)).toNat < n)), true), (pre (decide (((i : Int)).toNat < n)), true), (pre (idxB ((i : Int)) n), true), (g ((i : Int)).toNat, false), (pre (decide (((i : Int)).toNat < n)), true), (pre (idxB ((i : Int)) n), true), ((f ((i : Int)).toNat).kind == 2, false), (pre (decide (((i : Int)).toNat < n)), true), (pre (decide (((i : Int)).toNat < n)), true), (pre (idxB ((i : Int)) n), true), ((f ((i : Int)).toNat).kind == 0, false), (pre (decide (((i : Int)).toNat < n)), true), (pre (decide (((i : Int)).toNat < n)), true), (pre (idxB ((i : Int)) n), true), (pre (propB (isItE (itE n f) n f /\ n <= 1000000000 /\ isBl (blE n g) n /\ 0 <= (i : Int) /\ (i : Int) < (n : Int))), true), ((f ((i : Int)).toNat).kind == 3, true), (pre (decide (((i : Int)).toNat < n)), true), (pre (decide (((i : Int)).toNat < n)), true), (pre (idxB ((i : Int)) n), true), ((f ((i : Int)).toNat).kind == 2, false), (pre (decide (((i : Int)).toNat < n)), true), (pre (decide (((i : Int)).toNat < n)), true), (pre (idxB ((i : Int)) n), true), (decide ((i : Int) < ↑n), true)] (by kernel_rfl) (by kernel_rfl) ?_
 try simp only [qN]
 refine qF ?_ ?_ ?_ ?_ <| qF ?_ ?_ ?_ ?_ <| qF ?_ ?_ ?_ ?_ <| qF ?_ ?_ ?_ ?_ <| qF ?_ ?_ ?_ ?_ <| qF ?_ ?_ ?_ ?_ <| qF ?_ ?_ ?_ ?_ <| qF ?_ ?_ ?_ ?_ <| qF ?_ ?_ ?_ ?_ <| qF ?_ ?_ ?_ ?_ <| qF ?_ ?_ ?_ ?_ <| qZ
 . exact ob_inI (by omega)
 . exact ob_app (by omega) (by decide) (by decide)
 . exact ob_lt (by omega)
 . exact ob_lt (by omega)
 . exact ob_idx (by omega)
 . exact ob_app (by omega) (by decide) (by decide)
 . assumption
 . exact ob_lt (by omega)
 . exact ob_lt (by omega)
 . exact ob_lt (by omega)
 . exact ob_idx (by omega)
 . exact ob_lt (by omega)
 . exact ob_lt (by omega)
 . exact ob_lt (by omega)
 . exact ob_idx (by omega)
 . exact ob_lt (by omega)
 . exact ob_lt (by omega)
 . exact ob_lt (by omega)
 . exact ob_idx (by omega)
 . assumption
 . exact ob_lt (by omega)
 . exact ob_lt (by omega)
 . exact ob_idx (by omega)
 . assumption
 . exact ob_lt (by omega)
 . exact ob_idx (by omega)
 . assumption
 . exact ob_lt (by omega)
 . exact ob_lt (by omega)
 . exact ob_idx (by omega)
 . assumption
 . exact ob_lt (by omega)
 . exact ob_lt (by omega)
 . exact ob_idx (by omega)
 . exact propB_ok.mpr ⟨isItE_self n f (by omega), hn, isBl_E n g, by omega, by omega⟩
 . assumption
 . exact ob_lt (by omega)
 . exact ob_lt (by omega)
 . exact ob_idx (by omega)
 . assumption
 . exact ob_lt (by omega)
 . exact ob_lt (by omega)
 . exact ob_idx (by omega)
 . exact ob_yes (by omega)
theorem ly_lx (n : Nat) (f : Nat -> It) (g : Nat -> Bool) (A : List In) (N : List Int) (i : Nat) (hn : n <= 1000000000) (hi : i < n) (hA : A.length <= 2 * i) (hN : N.length <= 2 * i) (k0 : ((f i).kind == 0) = false) (k2 : ((f i).kind == 2) = false) (k3 : ((f i).kind == 3) = true) (hg : g i = true) (h1 : ((f i).kind != 0) = true) (ho : (oppZ (f i).ins.op == 3) = false) (d1 : decide (dsE n f (blE n g) i - 4 < -1048576) = true) (w : World) : S2.Sem (envY10 n f) w 171 lyC (lyS n f g (wdE A) (ntE N) i) (some none) (lyR) := by
 have hD := disN_rng (f := f) (g := g) hn (Nat.le_of_lt hi)
 rw [<- show dsE n f (blE n g) i = disN f g n i from dsE_eq n f (blE n g) i] at hD
 refine sem_iter (envY10_ok n f) (GlobOk.none w) (p := lyQR) (fuel := 1000) [true, false, true, false, false, true, false, true, true, true] [(decide (dsE n f (blE n g) ((i : Int)).toNat - 4 < -1048576), true), ((f ((i : Int)).toNat).kind != 0, true), (pre (decide (((i : Int)).toNat < n)), true), (pre (decide (((i : Int)).toNat < n)), true), (pre (idxB ((i : Int)) n), true), (true, true), (pre (decide (N.length + 1 <= maxLen /\ (N.length + 1) * 8 <= 140737488355328 /\ 0 < 1)), true), (pre (decide (((i : Int)).toNat < n)), true), (pre (decide (((i : Int)).toNat < n)), true), (pre (idxB ((i : Int)) n), true), (pre (decide (A.length + 1 <= maxLen /\ (A.length + 1) * 48 <= 140737488355328 /\ 0 < 1)), true), (oppZ (f ((i : Int)).toNat).ins.op == 3, false), (pre (inI (dsE n f (blE n g) ((i : Int)).toNat - 4)), true), (pre (decide (((i : Int)).toNat < n)), true), (pre (decide (((i : Int)).toNat < n)), true), (pre (decide (((i : Int)).toNat < n)), true), (pre (idxB ((i : Int)) n), true), (pre (decide (((i : Int)).toNat < n)), true), (pre (decide (((i : Int)).toNat < n)), true), (pre (decide (((i : Int)).toNat < n)), true), (pre (idxB ((i : Int)) n), true), (pre (decide (((i : Int)).toNat < n)), true), (pre (decide (((i : Int)).toNat < n)), true), (pre (decide (((i : Int)).toNat < n)), true), (pre (idxB ((i : Int)) n), true), (g ((i : Int)).toNat, true), (pre (decide (((i : Int)).toNat < n)), true), (pre (idxB ((i : Int)) n), true), ((f ((i : Int)).toNat).kind == 2, false), (pre (decide (((i : Int)).toNat < n)), true), (pre (decide (((i : Int)).toNat < n)), true), (pre (idxB ((i : Int)) n), true), ((f ((i : Int)).toNat).kind == 0, false), (pre (decide (((i : Int)).toNat < n)), true), (pre (decide (((i : Int)).toNat < n)), true), (pre (idxB ((i : Int)) n), true), (pre (propB (isItE (itE n f) n f /\ n <= 1000000000 /\ isBl (blE n g) n /\ 0 <= (i : Int) /\ (i : Int) < (n : Int))), true), ((f ((i : Int)).toNat).kind == 3, true), (pre (decide (((i : Int)).toNat < n)), true), (pre (decide (((i : Int)).toNat < n)), true), (pre (idxB ((i : Int)) n), true), ((f ((i : Int)).toNat).kind == 2, false), (pre (decide (((i : Int)).toNat < n)), true), (pre (decide (((i : Int)).toNat < n)), true), (pre (idxB ((i : Int)) n), true), (decide ((i : Int) < ↑n), true)] (by kernel_rfl) (by kernel_rfl) ?_
 try simp only [qN]
 refine qF ?_ ?_ ?_ ?_ <| qF ?_ ?_ ?_ ?_ <| qF ?_ ?_ ?_ ?_ <| qF ?_ ?_ ?_ ?_ <| qF ?_ ?_ ?_ ?_ <| qF ?_ ?_ ?_ ?_ <| qF ?_ ?_ ?_ ?_ <| qF ?_ ?_ ?_ ?_ <| qF ?_ ?_ ?_ ?_ <| qF ?_ ?_ ?_ ?_ <| qF ?_ ?_ ?_ ?_ <| qA ?_ <| qA ?_ <| qZ
 . assumption
 . assumption
 . exact ob_lt (by omega)
 . exact ob_lt (by omega)
 . exact ob_idx (by omega)
 . exact rfl
 . exact ob_app (by omega) (by decide) (by decide)
 . exact ob_lt (by omega)
 . exact ob_lt (by omega)
 . exact ob_idx (by omega)
 . exact ob_app (by omega) (by decide) (by decide)
 . assumption
 . exact ob_inI (by omega)
 . exact ob_lt (by omega)
 . exact ob_lt (by omega)
 . exact ob_lt (by omega)
 . exact ob_idx (by omega)
 . exact ob_lt (by omega)
 . exact ob_lt (by omega)
 . exact ob_lt (by omega)
 . exact ob_idx (by omega)
 . exact ob_lt (by omega)
 . exact ob_lt (by omega)
 . exact ob_lt (by omega)
 . exact ob_idx (by omega)
 . assumption
 . exact ob_lt (by omega)
 . exact ob_idx (by omega)
 . assumption
 . exact ob_lt (by omega)
 . exact ob_lt (by omega)
 . exact ob_idx (by omega)
 . assumption
 . exact ob_lt (by omega)
 . exact ob_lt (by omega)
 . exact ob_idx (by omega)
 . exact propB_ok.mpr ⟨isItE_self n f (by omega), hn, isBl_E n g, by omega, by omega⟩
 . assumption
 . exact ob_lt (by omega)
 . exact ob_lt (by omega)
 . exact ob_idx (by omega)
 . assumption
 . exact ob_lt (by omega)
 . exact ob_lt (by omega)
 . exact ob_idx (by omega)
 . exact ob_yes (by omega)
theorem ly_ly (n : Nat) (f : Nat -> It) (g : Nat -> Bool) (A : List In) (N : List Int) (i : Nat) (hn : n <= 1000000000) (hi : i < n) (hA : A.length <= 2 * i) (hN : N.length <= 2 * i) (k0 : ((f i).kind == 0) = false) (k2 : ((f i).kind == 2) = false) (k3 : ((f i).kind == 3) = true) (hg : g i = true) (h1 : ((f i).kind != 0) = true) (ho : (oppZ (f i).ins.op == 3) = false) (d1 : decide (dsE n f (blE n g) i - 4 < -1048576) = false) (d2 : decide (dsE n f (blE n g) i - 4 > 1048574) = true) (w : World) : S2.Sem (envY10 n f) w 171 lyC (lyS n f g (wdE A) (ntE N) i) (some none) (lyR) := by
 have hD := disN_rng (f := f) (g := g) hn (Nat.le_of_lt hi)
 rw [<- show dsE n f (blE n g) i = disN f g n i from dsE_eq n f (blE n g) i] at hD
 refine sem_iter (envY10_ok n f) (GlobOk.none w) (p := lyQR) (fuel := 1000) [true, false, true, false, false, true, false, true, true, false, true] [(decide (dsE n f (blE n g) ((i : Int)).toNat - 4 > 1048574), true), (decide (dsE n f (blE n g) ((i : Int)).toNat - 4 < -1048576), false), ((f ((i : Int)).toNat).kind != 0, true), (pre (decide (((i : Int)).toNat < n)), true), (pre (decide (((i : Int)).toNat < n)), true), (pre (idxB ((i : Int)) n), true), (true, true), (pre (decide (N.length + 1 <= maxLen /\ (N.length + 1) * 8 <= 140737488355328 /\ 0 < 1)), true), (pre (decide (((i : Int)).toNat < n)), true), (pre (decide (((i : Int)).toNat < n)), true), (pre (idxB ((i : Int)) n), true), (pre (decide (A.length + 1 <= maxLen /\ (A.length + 1) * 48 <= 140737488355328 /\ 0 < 1)), true), (oppZ (f ((i : Int)).toNat).ins.op == 3, false), (pre (inI (dsE n f (blE n g) ((i : Int)).toNat - 4)), true), (pre (decide (((i : Int)).toNat < n)), true), (pre (decide (((i : Int)).toNat < n)), true), (pre (decide (((i : Int)).toNat < n)), true), (pre (idxB ((i : Int)) n), true), (pre (decide (((i : Int)).toNat < n)), true), (pre (decide (((i : Int)).toNat < n)), true), (pre (decide (((i : Int)).toNat < n)), true), (pre (idxB ((i : Int)) n), true), (pre (decide (((i : Int)).toNat < n)), true), (pre (decide (((i : Int)).toNat < n)), true), (pre (decide (((i : Int)).toNat < n)), true), (pre (idxB ((i : Int)) n), true), (g ((i : Int)).toNat, true), (pre (decide (((i : Int)).toNat < n)), true), (pre (idxB ((i : Int)) n), true), ((f ((i : Int)).toNat).kind == 2, false), (pre (decide (((i : Int)).toNat < n)), true), (pre (decide (((i : Int)).toNat < n)), true), (pre (idxB ((i : Int)) n), true), ((f ((i : Int)).toNat).kind == 0, false), (pre (decide (((i : Int)).toNat < n)), true), (pre (decide (((i : Int)).toNat < n)), true), (pre (idxB ((i : Int)) n), true), (pre (propB (isItE (itE n f) n f /\ n <= 1000000000 /\ isBl (blE n g) n /\ 0 <= (i : Int) /\ (i : Int) < (n : Int))), true), ((f ((i : Int)).toNat).kind == 3, true), (pre (decide (((i : Int)).toNat < n)), true), (pre (decide (((i : Int)).toNat < n)), true), (pre (idxB ((i : Int)) n), true), ((f ((i : Int)).toNat).kind == 2, false), (pre (decide (((i : Int)).toNat < n)), true), (pre (decide (((i : Int)).toNat < n)), true), (pre (idxB ((i : Int)) n), true), (decide ((i : Int) < ↑n), true)] (by kernel_rfl) (by kernel_rfl) ?_
 try simp only [qN]
 refine qF ?_ ?_ ?_ ?_ <| qF ?_ ?_ ?_ ?_ <| qF ?_ ?_ ?_ ?_ <| qF ?_ ?_ ?_ ?_ <| qF ?_ ?_ ?_ ?_ <| qF ?_ ?_ ?_ ?_ <| qF ?_ ?_ ?_ ?_ <| qF ?_ ?_ ?_ ?_ <| qF ?_ ?_ ?_ ?_ <| qF ?_ ?_ ?_ ?_ <| qF ?_ ?_ ?_ ?_ <| qA ?_ <| qA ?_ <| qA ?_ <| qZ
 . assumption
 . assumption
 . assumption
 . exact ob_lt (by omega)
 . exact ob_lt (by omega)
 . exact ob_idx (by omega)
 . exact rfl
 . exact ob_app (by omega) (by decide) (by decide)
 . exact ob_lt (by omega)
 . exact ob_lt (by omega)
 . exact ob_idx (by omega)
 . exact ob_app (by omega) (by decide) (by decide)
 . assumption
 . exact ob_inI (by omega)
 . exact ob_lt (by omega)
 . exact ob_lt (by omega)
 . exact ob_lt (by omega)
 . exact ob_idx (by omega)
 . exact ob_lt (by omega)
 . exact ob_lt (by omega)
 . exact ob_lt (by omega)
 . exact ob_idx (by omega)
 . exact ob_lt (by omega)
 . exact ob_lt (by omega)
 . exact ob_lt (by omega)
 . exact ob_idx (by omega)
 . assumption
 . exact ob_lt (by omega)
 . exact ob_idx (by omega)
 . assumption
 . exact ob_lt (by omega)
 . exact ob_lt (by omega)
 . exact ob_idx (by omega)
 . assumption
 . exact ob_lt (by omega)
 . exact ob_lt (by omega)
 . exact ob_idx (by omega)
 . exact propB_ok.mpr ⟨isItE_self n f (by omega), hn, isBl_E n g, by omega, by omega⟩
 . assumption
 . exact ob_lt (by omega)
 . exact ob_lt (by omega)
 . exact ob_idx (by omega)
 . assumption
 . exact ob_lt (by omega)
 . exact ob_lt (by omega)
 . exact ob_idx (by omega)
 . exact ob_yes (by omega)
theorem ly_l (n : Nat) (f : Nat -> It) (g : Nat -> Bool) (A : List In) (N : List Int) (i : Nat) (hn : n <= 1000000000) (hi : i < n) (hA : A.length <= 2 * i) (hN : N.length <= 2 * i) (k0 : ((f i).kind == 0) = false) (k2 : ((f i).kind == 2) = false) (k3 : ((f i).kind == 3) = true) (hg : g i = true) (h1 : ((f i).kind != 0) = true) (ho : (oppZ (f i).ins.op == 3) = false) (d1 : decide (dsE n f (blE n g) i - 4 < -1048576) = false) (d2 : decide (dsE n f (blE n g) i - 4 > 1048574) = false) (w : World) : S2.Sem (envY10 n f) w 171 lyC (lyS n f g (wdE A) (ntE N) i) none (lyS n f g (wd2 A (ifI (oppZ (f i).ins.op) (f i).ins.a (f i).ins.b 8) (jalI (dsE n f (blE n g) i - 4))) (nt2 N (f i).note (f i).note) (i + 1)) := by
 have hD := disN_rng (f := f) (g := g) hn (Nat.le_of_lt hi)
 rw [<- show dsE n f (blE n g) i = disN f g n i from dsE_eq n f (blE n g) i] at hD
 refine sem_iter (envY10_ok n f) (GlobOk.none w) (p := lyQ2) (fuel := 1000) [true, false, true, false, false, true, false, true, true, false, false] [(pre (inI ((i : Int) + 1)), true), (pre (decide (N.length + 1 + 1 <= maxLen /\ (N.length + 1 + 1) * 8 <= 140737488355328 /\ 0 < 1)), true), (pre (decide (((i : Int)).toNat < n)), true), (pre (decide (((i : Int)).toNat < n)), true), (pre (idxB ((i : Int)) n), true), (pre (decide (A.length + 1 + 1 <= maxLen /\ (A.length + 1 + 1) * 48 <= 140737488355328 /\ 0 < 1)), true), (decide (dsE n f (blE n g) ((i : Int)).toNat - 4 > 1048574), false), (decide (dsE n f (blE n g) ((i : Int)).toNat - 4 < -1048576), false), ((f ((i : Int)).toNat).kind != 0, true), (pre (decide (((i : Int)).toNat < n)), true), (pre (decide (((i : Int)).toNat < n)), true), (pre (idxB ((i : Int)) n), true), (true, true), (pre (decide (N.length + 1 <= maxLen /\ (N.length + 1) * 8 <= 140737488355328 /\ 0 < 1)), true), (pre (decide (((i : Int)).toNat < n)), true), (pre (decide (((i : Int)).toNat < n)), true), (pre (idxB ((i : Int)) n), true), (pre (decide (A.length + 1 <= maxLen /\ (A.length + 1) * 48 <= 140737488355328 /\ 0 < 1)), true), (oppZ (f ((i : Int)).toNat).ins.op == 3, false), (pre (inI (dsE n f (blE n g) ((i : Int)).toNat - 4)), true), (pre (decide (((i : Int)).toNat < n)), true), (pre (decide (((i : Int)).toNat < n)), true), (pre (decide (((i : Int)).toNat < n)), true), (pre (idxB ((i : Int)) n), true), (pre (decide (((i : Int)).toNat < n)), true), (pre (decide (((i : Int)).toNat < n)), true), (pre (decide (((i : Int)).toNat < n)), true), (pre (idxB ((i : Int)) n), true), (pre (decide (((i : Int)).toNat < n)), true), (pre (decide (((i : Int)).toNat < n)), true), (pre (decide (((i : Int)).toNat < n)), true), (pre (idxB ((i : Int)) n), true), (g ((i : Int)).toNat, true), (pre (decide (((i : Int)).toNat < n)), true), (pre (idxB ((i : Int)) n), true), ((f ((i : Int)).toNat).kind == 2, false), (pre (decide (((i : Int)).toNat < n)), true), (pre (decide (((i : Int)).toNat < n)), true), (pre (idxB ((i : Int)) n), true), ((f ((i : Int)).toNat).kind == 0, false), (pre (decide (((i : Int)).toNat < n)), true), (pre (decide (((i : Int)).toNat < n)), true), (pre (idxB ((i : Int)) n), true), (pre (propB (isItE (itE n f) n f /\ n <= 1000000000 /\ isBl (blE n g) n /\ 0 <= (i : Int) /\ (i : Int) < (n : Int))), true), ((f ((i : Int)).toNat).kind == 3, true), (pre (decide (((i : Int)).toNat < n)), true), (pre (decide (((i : Int)).toNat < n)), true), (pre (idxB ((i : Int)) n), true), ((f ((i : Int)).toNat).kind == 2, false), (pre (decide (((i : Int)).toNat < n)), true), (pre (decide (((i : Int)).toNat < n)), true), (pre (idxB ((i : Int)) n), true), (decide ((i : Int) < ↑n), true)] (by kernel_rfl) (by kernel_rfl) ?_
 try simp only [qN]
 refine qF ?_ ?_ ?_ ?_ <| qF ?_ ?_ ?_ ?_ <| qF ?_ ?_ ?_ ?_ <| qF ?_ ?_ ?_ ?_ <| qF ?_ ?_ ?_ ?_ <| qF ?_ ?_ ?_ ?_ <| qF ?_ ?_ ?_ ?_ <| qF ?_ ?_ ?_ ?_ <| qF ?_ ?_ ?_ ?_ <| qF ?_ ?_ ?_ ?_ <| qF ?_ ?_ ?_ ?_ <| qF ?_ ?_ ?_ ?_ <| qF ?_ ?_ ?_ ?_ <| qA ?_ <| qZ
 . exact ob_inI (by omega)
 . exact ob_app (by omega) (by decide) (by decide)
 . exact ob_lt (by omega)
 . exact ob_lt (by omega)
 . exact ob_idx (by omega)
 . exact ob_app (by omega) (by decide) (by decide)
 . assumption
 . assumption
 . assumption
 . exact ob_lt (by omega)
 . exact ob_lt (by omega)
 . exact ob_idx (by omega)
 . exact rfl
 . exact ob_app (by omega) (by decide) (by decide)
 . exact ob_lt (by omega)
 . exact ob_lt (by omega)
 . exact ob_idx (by omega)
 . exact ob_app (by omega) (by decide) (by decide)
 . assumption
 . exact ob_inI (by omega)
 . exact ob_lt (by omega)
 . exact ob_lt (by omega)
 . exact ob_lt (by omega)
 . exact ob_idx (by omega)
 . exact ob_lt (by omega)
 . exact ob_lt (by omega)
 . exact ob_lt (by omega)
 . exact ob_idx (by omega)
 . exact ob_lt (by omega)
 . exact ob_lt (by omega)
 . exact ob_lt (by omega)
 . exact ob_idx (by omega)
 . assumption
 . exact ob_lt (by omega)
 . exact ob_idx (by omega)
 . assumption
 . exact ob_lt (by omega)
 . exact ob_lt (by omega)
 . exact ob_idx (by omega)
 . assumption
 . exact ob_lt (by omega)
 . exact ob_lt (by omega)
 . exact ob_idx (by omega)
 . exact propB_ok.mpr ⟨isItE_self n f (by omega), hn, isBl_E n g, by omega, by omega⟩
 . assumption
 . exact ob_lt (by omega)
 . exact ob_lt (by omega)
 . exact ob_idx (by omega)
 . assumption
 . exact ob_lt (by omega)
 . exact ob_lt (by omega)
 . exact ob_idx (by omega)
 . exact ob_yes (by omega)
theorem ly_end (n : Nat) (f : Nat -> It) (g : Nat -> Bool) (A : List In) (N : List Int) (w : World) : S2.Sem (envY10 n f) w 171 lyC (lyS n f g (wdE A) (ntE N) n) (some (some 0)) (lyS n f g (wdE A) (ntE N) n) := by
 refine sem_iter (envY10_ok n f) (GlobOk.none w) (p := lyQ) (fuel := 1000) [false] [(decide ((n : Int) < (n : Int)), false)] (by kernel_rfl) (by kernel_rfl) ?_
 try simp only [qN]
 refine qA ?_ <| qZ
 . exact ob_no (by omega)
theorem beq_false {a b c : Int} (h : (a == b) = true) (hc : b ≠ c) : (a == c) = false := by
 have := eq_of_beq h
 subst this
 simpa using hc
theorem ly_step (n : Nat) (f : Nat -> It) (g : Nat -> Bool) (i : Nat) (hn : n <= 1000000000) (hi : i < n) (hgk : g i = true -> (f i).kind = 3) (hop : (f i).kind = 3 -> (f i).ins.op ≠ 3) (hb : badJ f g n i = false) (w : World) : S2.Sem (envY10 n f) w 171 lyC (lyS n f g (wdE (layA f g n i)) (ntE (layN f g n i)) i) none (lyS n f g (wdE (layA f g n (i + 1))) (ntE (layN f g n (i + 1))) (i + 1)) := by
 obtain ⟨hA, hN⟩ := layA_len f g n i
 have hN : (layN f g n i).length <= 2 * i := by omega
 have eA : layA f g n (i + 1) = layA f g n i ++ layW f g n i := rfl
 have eN : layN f g n (i + 1) = layN f g n i ++ (layW f g n i).map fun _ => (f i).note := rfl
 have eD : dsE n f (blE n g) i = disN f g n i := dsE_eq n f (blE n g) i
 rw [eA, eN]
 generalize layA f g n i = A at hA ⊢
 generalize layN f g n i = N at hN ⊢
 unfold badJ at hb
 rw [Bool.or_eq_false_iff] at hb
 obtain ⟨hb1, hb2⟩ := hb
 cases k0 : (f i).kind == 0
 case' true =>
   have k2 := beq_false (c := 2) k0 (by decide)
   have k3 := beq_false (c := 3) k0 (by decide)
   have eW : layW f g n i = [(f i).ins] := by unfold layW; rw [k0]; rfl
   rw [eW]
   have hk0 : ((f i).kind != 0) = false := by simpa using k0
   cases h1 : (f i).ins.op == 3
   . exact (ly_0b n f g A N i hn hi hA hN k0 k2 k3 h1 w).same rfl rfl ⟨.refl _, .refl _, wd1_same A _, nt1_same N _, trivial⟩ rfl
   . exact (ly_0a n f g A N i hn hi hA hN k0 k2 k3 h1 hk0 w).same rfl rfl ⟨.refl _, .refl _, wd1_same A _, nt1_same N _, trivial⟩ rfl
 case' false =>
   have hk0 : ((f i).kind != 0) = true := by simpa using k0
   cases k2 : (f i).kind == 2
   case' true =>
     have k3 := beq_false (c := 3) k2 (by decide)
     rw [k2, Bool.true_and] at hb1
     unfold farJ at hb1
     rw [Bool.or_eq_false_iff, <- eD] at hb1
     have eW : layW f g n i = [jalI (dsE n f (blE n g) i)] := by unfold layW; rw [k0, k2, eD]; rfl
     rw [eW]
     exact (ly_2 n f g A N i hn hi hA hN k0 k2 k3 hk0 hb1.1 hb1.2 w).same rfl rfl ⟨.refl _, .refl _, wd1_same A _, nt1_same N _, trivial⟩ rfl
   case' false =>
     cases hg : g i
     case' true =>
       have k3 : ((f i).kind == 3) = true := by simpa using hgk hg
       rw [hg, Bool.true_and] at hb2
       unfold farJ at hb2
       rw [Bool.or_eq_false_iff, <- eD] at hb2
       have eW : layW f g n i = [ifI (oppZ (f i).ins.op) (f i).ins.a (f i).ins.b 8, jalI (dsE n f (blE n g) i - 4)] := by unfold layW; rw [k0, k2, hg, eD]; rfl
       rw [eW]
       exact (ly_l n f g A N i hn hi hA hN k0 k2 k3 hg hk0 (opp_not _) hb2.1 hb2.2 w).same rfl rfl ⟨.refl _, .refl _, wd2_same A _ _, nt2_same N _ _, trivial⟩ rfl
     case' false =>
       cases k3 : (f i).kind == 3
       . have eW : layW f g n i = [] := by unfold layW; rw [k0, k2, hg, k3]; rfl
         rw [eW, List.append_nil]
         show S2.Sem (envY10 n f) w 171 lyC _ none (lyS n f g (wdE A) (ntE (N ++ [])) (i + 1))
         rw [List.append_nil]
         exact ly_no n f g A N i hn hi hA hN k0 k2 k3 hg w
       . have h1 : ((f i).ins.op == 3) = false := by simpa using hop (eq_of_beq k3)
         have eW : layW f g n i = [ifI (f i).ins.op (f i).ins.a (f i).ins.b (dsE n f (blE n g) i)] := by unfold layW; rw [k0, k2, hg, k3, eD]; rfl
         rw [eW]
         exact (ly_s n f g A N i hn hi hA hN k0 k2 k3 hg h1 w).same rfl rfl ⟨.refl _, .refl _, wd1_same A _, nt1_same N _, trivial⟩ rfl
theorem ly_bad (n : Nat) (f : Nat -> It) (g : Nat -> Bool) (i : Nat) (hn : n <= 1000000000) (hi : i < n) (hgk : g i = true -> (f i).kind = 3) (hb : badJ f g n i = true) (w : World) : S2.Sem (envY10 n f) w 171 lyC (lyS n f g (wdE (layA f g n i)) (ntE (layN f g n i)) i) (some none) lyR := by
 obtain ⟨hA, hN⟩ := layA_len f g n i
 have hN : (layN f g n i).length <= 2 * i := by omega
 have eD : dsE n f (blE n g) i = disN f g n i := dsE_eq n f (blE n g) i
 generalize layA f g n i = A at hA ⊢
 generalize layN f g n i = N at hN ⊢
 unfold badJ at hb
 rw [Bool.or_eq_true] at hb
 rcases hb with hb | hb
 . obtain ⟨k2, hf⟩ := Bool.and_eq_true_iff.mp hb
   have k0 := beq_false (c := 0) k2 (by decide)
   have k3 := beq_false (c := 3) k2 (by decide)
   have hk0 : ((f i).kind != 0) = true := by simpa using k0
   unfold farJ at hf
   rw [<- eD] at hf
   cases d1 : decide (dsE n f (blE n g) i < -1048576)
   . rw [d1, Bool.false_or] at hf
     exact ly_2y n f g A N i hn hi hA hN k0 k2 k3 hk0 d1 hf w
   . exact ly_2x n f g A N i hn hi hA hN k0 k2 k3 hk0 d1 w
 . obtain ⟨hg, hf⟩ := Bool.and_eq_true_iff.mp hb
   have k3 : ((f i).kind == 3) = true := by simpa using hgk hg
   have k0 := beq_false (c := 0) k3 (by decide)
   have k2 := beq_false (c := 2) k3 (by decide)
   have hk0 : ((f i).kind != 0) = true := by simpa using k0
   unfold farJ at hf
   rw [<- eD] at hf
   cases d1 : decide (dsE n f (blE n g) i - 4 < -1048576)
   . rw [d1, Bool.false_or] at hf
     exact ly_ly n f g A N i hn hi hA hN k0 k2 k3 hg hk0 (opp_not _) d1 hf w
   . exact ly_lx n f g A N i hn hi hA hN k0 k2 k3 hg hk0 (opp_not _) d1 w
def ifOp (n : Nat) (f : Nat -> It) : Prop := ∀ i, i < n -> (f i).kind = 3 -> (f i).ins.op ≠ 3
theorem refLay_ret (n : Nat) (f : Nat -> It) (hn : n <= 1000000000) (hop : ifOp n f) (hb : fstN (badJ f (lgG n f) n) n = none) (w : World) (vals : List Value) (ha : ArgsOk w [.inr (itE n f)] vals) : LRet Tryd.prog 21 vals true [.inr (wdE (layA f (lgG n f) n n)), .inr (ntE (layN f (lgG n f) n n)), .inl (.bool true)] w := by
 refine fn_ok (envY10_ok n f) (fuel := 1000) (d := 30) (plan := [⟨lyP, lyQ0, some (some 0), lyS n f (lgG n f) (wdE (layA f (lgG n f) n n)) (ntE (layN f (lgG n f) n n)) n⟩]) (orc := []) (fls := [[]]) (l := [(pre (propB (isItE (itE n f) n f /\ n <= 1000000000)), true)]) (tr := [⟨.loop lyC, lyS n f (lgG n f) (wdE (layA f (lgG n f) n 0)) (ntE (layN f (lgG n f) n 0)) 0, some (some 0), lyS n f (lgG n f) (wdE (layA f (lgG n f) n n)) (ntE (layN f (lgG n f) n n)) n⟩]) (by kernel_rfl) (qA (propB_ok.mpr ⟨isItE_self n f (by omega), hn⟩) qZ) Tryd.func21 w vals (GlobOk.none w) ha fun t ht => ?_
 obtain rfl := List.mem_singleton.mp ht
 exact sem_loop (fun j => lyS n f (lgG n f) (wdE (layA f (lgG n f) n j)) (ntE (layN f (lgG n f) n j)) j) n (by simp) (fun j hj => ly_step n f _ j hn hj (fun h => (lgG_kind h).2) (hop j hj) (fst_none hb j hj) w) (ly_end n f _ _ _ w)
theorem refLay_far (n : Nat) (f : Nat -> It) (hn : n <= 1000000000) (hop : ifOp n f) (i : Nat) (hb : fstN (badJ f (lgG n f) n) n = some i) (w : World) (vals : List Value) (ha : ArgsOk w [.inr (itE n f)] vals) : LRet Tryd.prog 21 vals false [.inl (.tuple #[.slice none 0 0, .slice none 0 0, .bool false])] w := by
 obtain ⟨h1, h2, h3⟩ := fst_some hb
 refine fn_ok (envY10_ok n f) (fuel := 1000) (d := 30) (plan := [⟨lyP, lyQ0, some none, lyR⟩]) (orc := []) (fls := [[]]) (l := [(pre (propB (isItE (itE n f) n f /\ n <= 1000000000)), true)]) (tr := [⟨.loop lyC, lyS n f (lgG n f) (wdE (layA f (lgG n f) n 0)) (ntE (layN f (lgG n f) n 0)) 0, some none, lyR⟩]) (by kernel_rfl) (qA (propB_ok.mpr ⟨isItE_self n f (by omega), hn⟩) qZ) Tryd.func21 w vals (GlobOk.none w) ha fun t ht => ?_
 obtain rfl := List.mem_singleton.mp ht
 exact sem_loop (fun j => lyS n f (lgG n f) (wdE (layA f (lgG n f) n j)) (ntE (layN f (lgG n f) n j)) j) i (by simp) (fun j hj => ly_step n f _ j hn (by omega) (fun h => (lgG_kind h).2) (hop j (by omega)) (h3 j hj) w) (ly_bad n f _ i hn h1 (fun h => (lgG_kind h).2) h2 w)
end Go.Proofs.YtilljoemebbnjaaDoor
