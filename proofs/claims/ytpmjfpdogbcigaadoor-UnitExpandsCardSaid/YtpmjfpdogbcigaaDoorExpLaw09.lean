/- Layer 9: the law of expansions. -/
import Derived.Test.YtpmjfpdogbcigaaDoorLab09
namespace Go.Proofs.YtpmjfpdogbcigaaDoor
open Go.RowKit Sim S2
set_option linter.unusedVariables false
set_option linter.unusedSimpArgs false
noncomputable def XL (n : Nat) (f : Nat → It) : List It := xpL f n
def cstOk (n : Nat) (f : Nat → It) : Prop := ∀ j, j < n → ((f j).kind != 4) = false → (0 ≤ (f j).ins.rd ∧ (f j).ins.rd ≤ 31) ∧ isI (f j).n
noncomputable def lEx (n : Nat) (f : Nat → It) : LTab := lrow 13 fun args => match args with
  | [.inr e] => some (false, [.inr (itsE (XL n f))], pre (propB (isItE e n f ∧ n ≤ 1000000 ∧ cstOk n f)))
  | _ => none
noncomputable def lEy (n : Nat) (f : Nat → It) : LTab := lrow 16 fun args => match args with
  | [.inr e] => some (false, [.inr (itsE (XL n f))], pre (propB (isItE e n f ∧ n ≤ 1000000 ∧ cstOk n f)))
  | _ => none
noncomputable def lUe (n : Nat) (f : Nat → It) : LTab := orL (lCkR n f) <| orL (lEx n f) <| orL (lEy n f) <| orL (lCkP (XL n f).length (elI (XL n f))) <| orL (lRefSameIt (XL n f).length (elI (XL n f))) lLb
noncomputable def env9g (n : Nat) (f : Nat → It) : S2.Env := envk Tryd.prog gl9 true tAw9 noP (lUe n f)
def ueS (n : Nat) (f : Nat → It) (m : Int) (j : Nat) : S2.St := { tmps := [(0, .c 0), (5, .inl ([true], .int .i64 m)), (6, .inl ([true], .int .i64 j))], own := ⟨[], [itE n f]⟩, lo := 0, llo := 0, mem := true, orc := [], obl := [] }
def ueQ : Pick := { ts := [0, 5, 6], bs := [], ls := [0], opn := [5, 6] }
def ueQR : Pick := { ts := [2], bs := [], ls := [] }
def ueR : S2.St := { tmps := [(2, .inl ([false], .bool true))], own := ⟨[], []⟩, lo := 0, llo := 0, mem := true, orc := [], obl := [] }
def ueT (n : Nat) (f : Nat → It) (m : Int) (L : List It) (j : Nat) : S2.St := { tmps := [(0, .c 0), (5, .inl ([true], .int .i64 m)), (7, .c 1), (8, .inl ([true], .int .i64 j))], own := ⟨[], [itE n f, itsE L]⟩, lo := 0, llo := 0, mem := true, orc := [], obl := [] }
def ueQT : Pick := { ts := [0, 5, 7, 8], bs := [], ls := [0, 1], opn := [8] }
def ueP : List Nat := [0, 1, 0, 1, 1, 1, 1, 1]
def uePT : List Nat := [0, 1, 0, 1, 1, 1, 1, 1, 1, 1]
noncomputable def ueC : Code := codeAt (codeOf Tryd.prog 5) (0 :: ueP)
noncomputable def ueCT : Code := codeAt (codeOf Tryd.prog 5) (0 :: uePT)
theorem ue_tff (n : Nat) (f : Nat → It) (HC : CallOk (env9g n f)) (hn : n ≤ 1000000000000) (m : Int) (L : List It) (j : Nat) (hj : j < n) (hs : (f j).n < 4611686018427387904) (h1 : ((f j).kind == 1) = false) (w : World) (hG : GlobOk gl9 w) : S2.Sem (env9g n f) w 125 ueC (ueS n f m j) none (ueS n f m (j + 1)) := by
  refine sem_iter HC hG (p := ueQ) (fuel := 1000) [true, false, false] [(pre (inI ((j : Int) + 1)), true), (decide ((f (j : Int).toNat).n ≥ 4611686018427387904), false), (pre (decide ((j : Int).toNat < n)), true), (pre (decide ((j : Int).toNat < n)), true), (pre (idxB (j : Int) n), true), ((f (j : Int).toNat).kind == 1, false), (pre (decide ((j : Int).toNat < n)), true), (pre (decide ((j : Int).toNat < n)), true), (pre (idxB (j : Int) n), true), (decide ((j : Int) < (n : Int)), true)] (by kernel_rfl) (by kernel_rfl) ?_
  rw [Int.toNat_natCast]
  exact all_cons (ob_inI (by omega)) <| all_cons (ob_no (by omega)) <| all_cons (ob_lt hj) <| all_cons (ob_lt hj) <| all_cons (ob_idx (by omega)) <| all_cons (h1) <| all_cons (ob_lt hj) <| all_cons (ob_lt hj) <| all_cons (ob_idx (by omega)) <| all_cons (ob_yes (by omega)) <| all_nil
theorem ue_ttff (n : Nat) (f : Nat → It) (HC : CallOk (env9g n f)) (hn : n ≤ 1000000000000) (m : Int) (L : List It) (j : Nat) (hj : j < n) (hs : (f j).n < 4611686018427387904) (h1 : ((f j).kind == 1) = true) (h2 : ¬ (f j).n ≥ m) (w : World) (hG : GlobOk gl9 w) : S2.Sem (env9g n f) w 125 ueC (ueS n f m j) none (ueS n f m (j + 1)) := by
  refine sem_iter HC hG (p := ueQ) (fuel := 1000) [true, true, false, false] [(pre (inI ((j : Int) + 1)), true), (decide ((f (j : Int).toNat).n ≥ 4611686018427387904), false), (pre (decide ((j : Int).toNat < n)), true), (pre (decide ((j : Int).toNat < n)), true), (pre (idxB (j : Int) n), true), (decide ((f (j : Int).toNat).n ≥ m), false), (pre (decide ((j : Int).toNat < n)), true), (pre (decide ((j : Int).toNat < n)), true), (pre (idxB (j : Int) n), true), ((f (j : Int).toNat).kind == 1, true), (pre (decide ((j : Int).toNat < n)), true), (pre (decide ((j : Int).toNat < n)), true), (pre (idxB (j : Int) n), true), (decide ((j : Int) < (n : Int)), true)] (by kernel_rfl) (by kernel_rfl) ?_
  rw [Int.toNat_natCast]
  exact all_cons (ob_inI (by omega)) <| all_cons (ob_no (by omega)) <| all_cons (ob_lt hj) <| all_cons (ob_lt hj) <| all_cons (ob_idx (by omega)) <| all_cons (ob_no h2) <| all_cons (ob_lt hj) <| all_cons (ob_lt hj) <| all_cons (ob_idx (by omega)) <| all_cons (h1) <| all_cons (ob_lt hj) <| all_cons (ob_lt hj) <| all_cons (ob_idx (by omega)) <| all_cons (ob_yes (by omega)) <| all_nil
theorem ue_ttttf (n : Nat) (f : Nat → It) (HC : CallOk (env9g n f)) (hn : n ≤ 1000000000000) (m : Int) (L : List It) (j : Nat) (hj : j < n) (hs : (f j).n < 4611686018427387904) (h1 : ((f j).kind == 1) = true) (h2 : (f j).n ≥ m) (hw : wfIt (f j)) (w : World) (hG : GlobOk gl9 w) : S2.Sem (env9g n f) w 125 ueC (ueS n f m j) none (ueS n f ((f j).n + 1) (j + 1)) := by
  refine sem_iter HC hG (p := ueQ) (fuel := 1000) [true, true, true, true, false] [(pre (inI ((j : Int) + 1)), true), (decide ((f (j : Int).toNat).n ≥ 4611686018427387904), false), (pre (decide ((j : Int).toNat < n)), true), (pre (decide ((j : Int).toNat < n)), true), (pre (idxB (j : Int) n), true), (pre (inI ((f (j : Int).toNat).n + 1)), true), (pre (decide ((j : Int).toNat < n)), true), (pre (decide ((j : Int).toNat < n)), true), (pre (idxB (j : Int) n), true), (decide ((f (j : Int).toNat).n < 4611686018427387904), true), (pre (decide ((j : Int).toNat < n)), true), (pre (decide ((j : Int).toNat < n)), true), (pre (idxB (j : Int) n), true), (decide ((f (j : Int).toNat).n ≥ m), true), (pre (decide ((j : Int).toNat < n)), true), (pre (decide ((j : Int).toNat < n)), true), (pre (idxB (j : Int) n), true), ((f (j : Int).toNat).kind == 1, true), (pre (decide ((j : Int).toNat < n)), true), (pre (decide ((j : Int).toNat < n)), true), (pre (idxB (j : Int) n), true), (decide ((j : Int) < (n : Int)), true)] (by kernel_rfl) (by kernel_rfl) ?_
  rw [Int.toNat_natCast]
  exact all_cons (ob_inI (by omega)) <| all_cons (ob_no (by omega)) <| all_cons (ob_lt hj) <| all_cons (ob_lt hj) <| all_cons (ob_idx (by omega)) <| all_cons (ob_inI (by have := hw.1; omega)) <| all_cons (ob_lt hj) <| all_cons (ob_lt hj) <| all_cons (ob_idx (by omega)) <| all_cons (ob_yes (by omega)) <| all_cons (ob_lt hj) <| all_cons (ob_lt hj) <| all_cons (ob_idx (by omega)) <| all_cons (ob_yes h2) <| all_cons (ob_lt hj) <| all_cons (ob_lt hj) <| all_cons (ob_idx (by omega)) <| all_cons (h1) <| all_cons (ob_lt hj) <| all_cons (ob_lt hj) <| all_cons (ob_idx (by omega)) <| all_cons (ob_yes (by omega)) <| all_nil
theorem ue_tft (n : Nat) (f : Nat → It) (HC : CallOk (env9g n f)) (hn : n ≤ 1000000000000) (m : Int) (L : List It) (j : Nat) (hj : j < n) (hs : 4611686018427387904 ≤ (f j).n) (h1 : ((f j).kind == 1) = false) (w : World) (hG : GlobOk gl9 w) : S2.Sem (env9g n f) w 125 ueC (ueS n f m j) (some none) (ueR) := by
  refine sem_iter HC hG (p := ueQR) (fuel := 1000) [true, false, true] [(decide ((f (j : Int).toNat).n ≥ 4611686018427387904), true), (pre (decide ((j : Int).toNat < n)), true), (pre (decide ((j : Int).toNat < n)), true), (pre (idxB (j : Int) n), true), ((f (j : Int).toNat).kind == 1, false), (pre (decide ((j : Int).toNat < n)), true), (pre (decide ((j : Int).toNat < n)), true), (pre (idxB (j : Int) n), true), (decide ((j : Int) < (n : Int)), true)] (by kernel_rfl) (by kernel_rfl) ?_
  rw [Int.toNat_natCast]
  exact all_cons (ob_yes (by omega)) <| all_cons (ob_lt hj) <| all_cons (ob_lt hj) <| all_cons (ob_idx (by omega)) <| all_cons (h1) <| all_cons (ob_lt hj) <| all_cons (ob_lt hj) <| all_cons (ob_idx (by omega)) <| all_cons (ob_yes (by omega)) <| all_nil
theorem ue_ttft (n : Nat) (f : Nat → It) (HC : CallOk (env9g n f)) (hn : n ≤ 1000000000000) (m : Int) (L : List It) (j : Nat) (hj : j < n) (hs : 4611686018427387904 ≤ (f j).n) (h1 : ((f j).kind == 1) = true) (h2 : ¬ (f j).n ≥ m) (w : World) (hG : GlobOk gl9 w) : S2.Sem (env9g n f) w 125 ueC (ueS n f m j) (some none) (ueR) := by
  refine sem_iter HC hG (p := ueQR) (fuel := 1000) [true, true, false, true] [(decide ((f (j : Int).toNat).n ≥ 4611686018427387904), true), (pre (decide ((j : Int).toNat < n)), true), (pre (decide ((j : Int).toNat < n)), true), (pre (idxB (j : Int) n), true), (decide ((f (j : Int).toNat).n ≥ m), false), (pre (decide ((j : Int).toNat < n)), true), (pre (decide ((j : Int).toNat < n)), true), (pre (idxB (j : Int) n), true), ((f (j : Int).toNat).kind == 1, true), (pre (decide ((j : Int).toNat < n)), true), (pre (decide ((j : Int).toNat < n)), true), (pre (idxB (j : Int) n), true), (decide ((j : Int) < (n : Int)), true)] (by kernel_rfl) (by kernel_rfl) ?_
  rw [Int.toNat_natCast]
  exact all_cons (ob_yes (by omega)) <| all_cons (ob_lt hj) <| all_cons (ob_lt hj) <| all_cons (ob_idx (by omega)) <| all_cons (ob_no h2) <| all_cons (ob_lt hj) <| all_cons (ob_lt hj) <| all_cons (ob_idx (by omega)) <| all_cons (h1) <| all_cons (ob_lt hj) <| all_cons (ob_lt hj) <| all_cons (ob_idx (by omega)) <| all_cons (ob_yes (by omega)) <| all_nil
theorem ue_tttft (n : Nat) (f : Nat → It) (HC : CallOk (env9g n f)) (hn : n ≤ 1000000000000) (m : Int) (L : List It) (j : Nat) (hj : j < n) (hs : 4611686018427387904 ≤ (f j).n) (h1 : ((f j).kind == 1) = true) (h2 : (f j).n ≥ m) (w : World) (hG : GlobOk gl9 w) : S2.Sem (env9g n f) w 125 ueC (ueS n f m j) (some none) (ueR) := by
  refine sem_iter HC hG (p := ueQR) (fuel := 1000) [true, true, true, false, true] [(decide ((f (j : Int).toNat).n ≥ 4611686018427387904), true), (pre (decide ((j : Int).toNat < n)), true), (pre (decide ((j : Int).toNat < n)), true), (pre (idxB (j : Int) n), true), (decide ((f (j : Int).toNat).n < 4611686018427387904), false), (pre (decide ((j : Int).toNat < n)), true), (pre (decide ((j : Int).toNat < n)), true), (pre (idxB (j : Int) n), true), (decide ((f (j : Int).toNat).n ≥ m), true), (pre (decide ((j : Int).toNat < n)), true), (pre (decide ((j : Int).toNat < n)), true), (pre (idxB (j : Int) n), true), ((f (j : Int).toNat).kind == 1, true), (pre (decide ((j : Int).toNat < n)), true), (pre (decide ((j : Int).toNat < n)), true), (pre (idxB (j : Int) n), true), (decide ((j : Int) < (n : Int)), true)] (by kernel_rfl) (by kernel_rfl) ?_
  rw [Int.toNat_natCast]
  exact all_cons (ob_yes (by omega)) <| all_cons (ob_lt hj) <| all_cons (ob_lt hj) <| all_cons (ob_idx (by omega)) <| all_cons (ob_no (by omega)) <| all_cons (ob_lt hj) <| all_cons (ob_lt hj) <| all_cons (ob_idx (by omega)) <| all_cons (ob_yes h2) <| all_cons (ob_lt hj) <| all_cons (ob_lt hj) <| all_cons (ob_idx (by omega)) <| all_cons (h1) <| all_cons (ob_lt hj) <| all_cons (ob_lt hj) <| all_cons (ob_idx (by omega)) <| all_cons (ob_yes (by omega)) <| all_nil
theorem ue_Tf (n : Nat) (f : Nat → It) (HC : CallOk (env9g n f)) (hn : n ≤ 1000000000000) (m : Int) (L : List It) (j : Nat) (hj : j < n) (h1 : ((f j).kind == 0) = false) (w : World) (hG : GlobOk gl9 w) : S2.Sem (env9g n f) w 125 ueCT (ueT n f m L j) none (ueT n f m L (j + 1)) := by
  refine sem_iter HC hG (p := ueQT) (fuel := 1000) [true, false] [(pre (inI ((j : Int) + 1)), true), ((f (j : Int).toNat).kind == 0, false), (pre (decide ((j : Int).toNat < n)), true), (pre (decide ((j : Int).toNat < n)), true), (pre (idxB (j : Int) n), true), (decide ((j : Int) < (n : Int)), true)] (by kernel_rfl) (by kernel_rfl) ?_
  rw [Int.toNat_natCast]
  exact all_cons (ob_inI (by omega)) <| all_cons (h1) <| all_cons (ob_lt hj) <| all_cons (ob_lt hj) <| all_cons (ob_idx (by omega)) <| all_cons (ob_yes (by omega)) <| all_nil
theorem ue_Tt (n : Nat) (f : Nat → It) (HC : CallOk (env9g n f)) (hn : n ≤ 1000000000000) (m : Int) (L : List It) (j : Nat) (hj : j < n) (h1 : ((f j).kind == 0) = true) (h2 : (!(0 == (f j).kind && ((f j).ins.op == (f j).ins.op && ((f j).ins.rd == (f j).ins.rd && ((f j).ins.a == (f j).ins.a && ((f j).ins.b == (f j).ins.b && ((f j).ins.imm == (f j).ins.imm && ((f j).ins.aq == (f j).ins.aq && ((f j).ins.rl == (f j).ins.rl && true)))))) && (0 == (f j).n && ((f j).note == (f j).note && true))))) = false) (w : World) (hG : GlobOk gl9 w) : S2.Sem (env9g n f) w 125 ueCT (ueT n f m L j) none (ueT n f m L (j + 1)) := by
  refine sem_iter HC hG (p := ueQT) (fuel := 1000) [true, true, false] [(pre (inI ((j : Int) + 1)), true), (!(0 == (f (j : Int).toNat).kind && ((f (j : Int).toNat).ins.op == (f (j : Int).toNat).ins.op && ((f (j : Int).toNat).ins.rd == (f (j : Int).toNat).ins.rd && ((f (j : Int).toNat).ins.a == (f (j : Int).toNat).ins.a && ((f (j : Int).toNat).ins.b == (f (j : Int).toNat).ins.b && ((f (j : Int).toNat).ins.imm == (f (j : Int).toNat).ins.imm && ((f (j : Int).toNat).ins.aq == (f (j : Int).toNat).ins.aq && ((f (j : Int).toNat).ins.rl == (f (j : Int).toNat).ins.rl && true)))))) && (0 == (f (j : Int).toNat).n && ((f (j : Int).toNat).note == (f (j : Int).toNat).note && true)))), false), (pre (decide ((j : Int).toNat < n)), true), (pre (idxB (j : Int) n), true), (pre (decide ((j : Int).toNat < n)), true), (pre (decide ((j : Int).toNat < n)), true), (pre (idxB (j : Int) n), true), (pre (decide ((j : Int).toNat < n)), true), (pre (decide ((j : Int).toNat < n)), true), (pre (idxB (j : Int) n), true), ((f (j : Int).toNat).kind == 0, true), (pre (decide ((j : Int).toNat < n)), true), (pre (decide ((j : Int).toNat < n)), true), (pre (idxB (j : Int) n), true), (decide ((j : Int) < (n : Int)), true)] (by kernel_rfl) (by kernel_rfl) ?_
  rw [Int.toNat_natCast]
  exact all_cons (ob_inI (by omega)) <| all_cons (h2) <| all_cons (ob_lt hj) <| all_cons (ob_idx (by omega)) <| all_cons (ob_lt hj) <| all_cons (ob_lt hj) <| all_cons (ob_idx (by omega)) <| all_cons (ob_lt hj) <| all_cons (ob_lt hj) <| all_cons (ob_idx (by omega)) <| all_cons (h1) <| all_cons (ob_lt hj) <| all_cons (ob_lt hj) <| all_cons (ob_idx (by omega)) <| all_cons (ob_yes (by omega)) <| all_nil
theorem ue_end (n : Nat) (f : Nat → It) (HC : CallOk (env9g n f)) (m : Int) (w : World) (hG : GlobOk gl9 w) : S2.Sem (env9g n f) w 125 ueC (ueS n f m n) (some (some 0)) (ueS n f m n) :=
  sem_iter HC hG (p := ueQ) (fuel := 1000) [false] [(decide ((n : Int) < n), false)] (by kernel_rfl) (by kernel_rfl) (all_cons (ob_no (by omega)) all_nil)
theorem ue_endT (n : Nat) (f : Nat → It) (HC : CallOk (env9g n f)) (m : Int) (L : List It) (w : World) (hG : GlobOk gl9 w) : S2.Sem (env9g n f) w 125 ueCT (ueT n f m L n) (some (some 2)) (ueT n f m L n) :=
  sem_iter HC hG (p := ueQT) (fuel := 1000) [false] [(decide ((n : Int) < n), false)] (by kernel_rfl) (by kernel_rfl) (all_cons (ob_no (by omega)) all_nil)
/-- The law's own greatest label. -/
def mostZ (f : Nat → It) : Nat → Int
  | 0 => 0
  | j + 1 => bif (f j).kind == 1 && (decide ((f j).n ≥ mostZ f j) && decide ((f j).n < 4611686018427387904)) then (f j).n + 1 else mostZ f j
theorem most_lab (f : Nat → It) : ∀ j, (∀ i, i < j → (f i).n < 4611686018427387904) → mostZ f j = labM f j + 1
  | 0, _ => rfl
  | j + 1, h => by
    have ih := most_lab f j fun i hi => h i (by omega)
    have hj := h j (by omega)
    show (bif (f j).kind == 1 && (decide ((f j).n ≥ mostZ f j) && decide ((f j).n < 4611686018427387904)) then _ else _) = (bif (f j).kind == 1 then _ else _) + 1
    rw [decide_eq_true hj, Bool.and_true, ih]
    cases (f j).kind == 1
    · rfl
    · simp only [Bool.true_and, cond_true]
      by_cases hc : (f j).n ≥ labM f j + 1
      · rw [decide_eq_true hc, if_pos (show (f j).n > labM f j by omega)]; rfl
      · rw [decide_eq_false hc, if_neg (show ¬ (f j).n > labM f j by omega)]; rfl
theorem ue_step (n : Nat) (f : Nat → It) (HC : CallOk (env9g n f)) (hn : n ≤ 1000000000000) (j : Nat) (hj : j < n) (hs : (f j).n < 4611686018427387904) (hw : wfIt (f j)) (w : World) (hG : GlobOk gl9 w) : S2.Sem (env9g n f) w 125 ueC (ueS n f (mostZ f j) j) none (ueS n f (mostZ f (j + 1)) (j + 1)) := by
  have e : mostZ f (j + 1) = bif (f j).kind == 1 && (decide ((f j).n ≥ mostZ f j) && decide ((f j).n < 4611686018427387904)) then (f j).n + 1 else mostZ f j := rfl
  rw [e, decide_eq_true hs, Bool.and_true]
  cases h1 : (f j).kind == 1
  · exact ue_tff n f HC hn _ [] j hj hs h1 w hG
  · by_cases h2 : (f j).n ≥ mostZ f j
    · rw [decide_eq_true h2]
      exact ue_ttttf n f HC hn _ [] j hj hs h1 h2 hw w hG
    · rw [decide_eq_false h2]
      exact ue_ttff n f HC hn _ [] j hj hs h1 h2 w hG
theorem ue_far (n : Nat) (f : Nat → It) (HC : CallOk (env9g n f)) (hn : n ≤ 1000000000000) (m : Int) (j : Nat) (hj : j < n) (hs : 4611686018427387904 ≤ (f j).n) (w : World) (hG : GlobOk gl9 w) : S2.Sem (env9g n f) w 125 ueC (ueS n f m j) (some none) ueR := by
  cases h1 : (f j).kind == 1
  · exact ue_tft n f HC hn _ [] j hj hs h1 w hG
  · by_cases h2 : (f j).n ≥ m
    · exact ue_tttft n f HC hn _ [] j hj hs h1 h2 w hG
    · exact ue_ttft n f HC hn _ [] j hj hs h1 h2 w hG
theorem ue_stepT (n : Nat) (f : Nat → It) (HC : CallOk (env9g n f)) (hn : n ≤ 1000000000000) (m : Int) (L : List It) (j : Nat) (hj : j < n) (hr : rightB (f j) = true) (w : World) (hG : GlobOk gl9 w) : S2.Sem (env9g n f) w 125 ueCT (ueT n f m L j) none (ueT n f m L (j + 1)) := by
  cases h1 : (f j).kind == 0
  · exact ue_Tf n f HC hn m L j hj h1 w hG
  · refine ue_Tt n f HC hn m L j hj h1 ?_ w hG
    have hk : (f j).kind = 0 := by simpa using h1
    have hn0 : (f j).n = 0 := by
      unfold rightB at hr
      rw [h1, cond_true, Bool.and_eq_true, Bool.and_eq_true] at hr
      simpa using hr.2.1
    rw [hk, hn0]; simp
theorem ue_big (n : Nat) (f : Nat → It) : S2.simF (env9g n f) 1000 30 [] [true] 5 [[]] [.inr (itE n f)] = some (false, [.inl (.bool true)], [(decide ((n : Int) > 300), true)], []) := by kernel_rfl
theorem ue_bad (n : Nat) (f : Nat → It) : S2.simF (env9g n f) 1000 30 [] [false, true] 5 [[]] [.inr (itE n f)] = some (false, [.inl (.bool true)], [((unitR n f).2 != 0, true), (pre (propB (isItE (itE n f) n f)), true), (decide ((n : Int) > 300), false)], []) := by kernel_rfl
theorem ue_farS (n : Nat) (f : Nat → It) : S2.simF (env9g n f) 1000 30 [⟨ueP, ueQ, some none, ueR⟩] [false, false] 5 [[]] [.inr (itE n f)] = some (false, [.inl (.bool true)], [((unitR n f).2 != 0, false), (pre (propB (isItE (itE n f) n f)), true), (decide ((n : Int) > 300), false)], [⟨.loop ueC, ueS n f 0 0, some none, ueR⟩]) := by kernel_rfl
noncomputable def exC9 (n : Nat) (f : Nat → It) : Bool := pre (propB (isItE (itE n f) n f ∧ n ≤ 1000000 ∧ cstOk n f))
noncomputable def lbC9 (e : LE) : Bool := pre (propB (∃ f, isItE e e.n f ∧ -9223372036854775808 ≤ labM f e.n + 1 ∧ labM f e.n + 1 ≤ 9223372036854775807))
theorem ue_okS (n : Nat) (f : Nat → It) (m : Int) : S2.simF (env9g n f) 1000 30 [⟨ueP, ueQ, some (some 0), ueS n f m n⟩, ⟨uePT, ueQT, some (some 2), ueT n f m (XL n f) n⟩] [false, false, true, true, true, true] 5 [[]] [.inr (itE n f)] = some (false, [.inl (.bool true)],
    [((unitR (XL n f).length (elI (XL n f))).2 == 0, true), (labE (itsE (XL n f)) + 1 == m, true), (lbC9 (itsE (XL n f)), true), (labE (itE n f) + 1 == m, true), (lbC9 (itE n f), true), (true, true), (pre (propB (isItE (itsE (XL n f)) (XL n f).length (elI (XL n f)) ∧ isItE (itsE (XL n f)) (XL n f).length (elI (XL n f)))), true), (exC9 n f, true), (pre (propB (isItE (itsE (XL n f)) (XL n f).length (elI (XL n f)) ∧ ∀ j, j < (XL n f).length → wfIt (elI (XL n f) j))), true), (exC9 n f, true), ((unitR n f).2 != 0, false), (pre (propB (isItE (itE n f) n f)), true), (decide ((n : Int) > 300), false)],
    [⟨.loop ueC, ueS n f 0 0, some (some 0), ueS n f m n⟩, ⟨.loop ueCT, ueT n f m (XL n f) 0, some (some 2), ueT n f m (XL n f) n⟩]) := by kernel_rfl
theorem lEx_ok (n : Nat) (f : Nat → It) : LTabOk Tryd.prog gl9 (lEx n f) := .row fun args tup res h w vals hG ha => by
  split at h
  · rename_i e
    simp only [Option.some.injEq, Prod.mk.injEq] at h
    obtain ⟨rfl, rfl, hp⟩ := h
    obtain ⟨h1, h2, h3⟩ := propB_ok.mp hp
    match vals, ha with
    | [u], ha => exact ex_ret n f h2 h3 w hG [u] ⟨InB.it ha.1 h1, trivial⟩
    | [], ha => exact ha.elim
    | _ :: _ :: _, ha => exact ha.2.elim
  · cases h
theorem lEy_ok (n : Nat) (f : Nat → It) : LTabOk Tryd.prog gl9 (lEy n f) := .row fun args tup res h w vals hG ha => by
  split at h
  · rename_i e
    simp only [Option.some.injEq, Prod.mk.injEq] at h
    obtain ⟨rfl, rfl, hp⟩ := h
    obtain ⟨h1, h2, h3⟩ := propB_ok.mp hp
    match vals, ha with
    | [u], ha => exact ey_ret n f h2 h3 w hG [u] ⟨InB.it ha.1 h1, trivial⟩
    | [], ha => exact ha.elim
    | _ :: _ :: _, ha => exact ha.2.elim
  · cases h
theorem env9g_ok (n : Nat) (f : Nat → It) : CallOk (env9g n f) := envk_ok (nw := true) tAw9_ok (.none _ _) ((lCkR_ok n f).or <| (lEx_ok n f).or <| (lEy_ok n f).or <| (lCkP_ok _ _).or <| (lRefSameIt_ok _ _).or lLb_ok)
theorem lab_rng (f : Nat → It) : ∀ j, (∀ i, i < j → (f i).n < 4611686018427387904) → -1 ≤ labM f j ∧ labM f j < 4611686018427387904
  | 0, _ => ⟨Int.le_refl _, by show (-1 : Int) < _; decide⟩
  | j + 1, h => by
    obtain ⟨h1, h2⟩ := lab_rng f j fun i hi => h i (by omega)
    have hj := h j (by omega)
    show -1 ≤ (bif (f j).kind == 1 then _ else _) ∧ (bif (f j).kind == 1 then _ else _) < _
    cases (f j).kind == 1
    · exact ⟨h1, h2⟩
    · simp only [cond_true]
      split <;> omega
theorem unitExpands_ret (n : Nat) (f : Nat → It) (hf : ∀ j, j < n → wfIt (f j)) (w : World) (hG : GlobOk gl9 w) (vals : List Value) (ha : ArgsOk w [.inr (itE n f)] vals) : LRet Tryd.prog 5 vals false [.inl (.bool true)] w := by
  have HC := env9g_ok n f
  by_cases h : (n : Int) > 300
  · exact fn_ok HC (ue_big n f) (all_cons (ob_yes h) all_nil) Tryd.func5 w vals hG ha (fun t ht => by cases ht)
  have hs := isItE_self n f (by omega)
  have hs' : pre (propB (isItE (itE n f) n f)) = true := propB_ok.mpr hs
  by_cases he : (unitR n f).2 = 0
  case neg => exact fn_ok HC (ue_bad n f) (all_cons (by simpa using he) <| all_cons hs' <| all_cons (ob_no h) all_nil) Tryd.func5 w vals hG ha (fun t ht => by cases ht)
  have he' : ((unitR n f).2 != 0) = false := by rw [he]; rfl
  cases e1 : fstN (fun j => decide (4611686018427387904 ≤ (f j).n)) n with
  | some j =>
    obtain ⟨hj, hbj, hpre⟩ := fst_some e1
    refine fn_ok HC (ue_farS n f) (all_cons he' <| all_cons hs' <| all_cons (ob_no h) all_nil) Tryd.func5 w vals hG ha fun t ht => ?_
    obtain rfl := List.mem_singleton.mp ht
    exact sem_loop (fun j => ueS n f (mostZ f j) j) j (by simp) (fun i hi => ue_step n f HC (by omega) i (by omega) (by have := of_decide_eq_false (hpre i hi); omega) (hf i (by omega)) w hG) (ue_far n f HC (by omega) _ j hj (of_decide_eq_true hbj) w hG)
  | none =>
    have hsm : ∀ i, i < n → (f i).n < 4611686018427387904 := fun i hi => by have := of_decide_eq_false (fst_none e1 i hi); omega
    obtain ⟨b1, b2, b3⟩ := unitR_ok he
    have hr : ∀ j, j < n → rightB (f j) = true := fun j hj => by have := b1 j hj; unfold bad1 at this; simpa using this
    have hc : cstOk n f := fun j hj h4 => ⟨(const_right (by unfold bne at h4; simpa using h4) (hr j hj)).1, hf j hj⟩
    have hex : exC9 n f = true := propB_ok.mpr ⟨hs, by omega, hc⟩
    have hlen : (XL n f).length ≤ 1000000000000 := Nat.le_trans (xpL_len f n) (by omega)
    have K := expand_keeps he hf
    have hxs := isIt_its (XL n f) hlen
    have hl1 : labE (itE n f) = labM f n := labE_it hs
    have hl2 : labE (itsE (XL n f)) = labM f n := (labE_it hxs).trans K.lab
    have hmost : mostZ f n = labM f n + 1 := most_lab f n hsm
    obtain ⟨r1, r2⟩ := lab_rng f n hsm
    have hb1 : lbC9 (itE n f) = true := propB_ok.mpr ⟨f, hs, by show _ ≤ labM f n + 1; omega, by show labM f n + 1 ≤ _; omega⟩
    have hb2 : lbC9 (itsE (XL n f)) = true := propB_ok.mpr ⟨elI (XL n f), hxs, by show _ ≤ labM (elI (xpL f n)) (xpL f n).length + 1; rw [K.lab]; omega, by show labM (elI (xpL f n)) (xpL f n).length + 1 ≤ _; rw [K.lab]; omega⟩
    refine fn_ok HC (ue_okS n f (mostZ f n)) (all_cons (by rw [show unitR (XL n f).length (elI (XL n f)) = (0, 0) from expand_unit he hf]; rfl) <| all_cons (by rw [hl2, hmost]; simp) <| all_cons hb2 <| all_cons (by rw [hl1, hmost]; simp) <| all_cons hb1 <| all_cons rfl <| all_cons (propB_ok.mpr ⟨hxs, hxs⟩) <| all_cons hex <| all_cons (propB_ok.mpr ⟨hxs, K.wf⟩) <| all_cons hex <| all_cons he' <| all_cons hs' <| all_cons (ob_no h) all_nil) Tryd.func5 w vals hG ha fun t ht => ?_
    rcases List.mem_cons.mp ht with rfl | ht
    · exact sem_loop (fun j => ueS n f (mostZ f j) j) n (by simp) (fun i hi => ue_step n f HC (by omega) i hi (hsm i hi) (hf i hi) w hG) (ue_end n f HC _ w hG)
    obtain rfl := List.mem_singleton.mp ht
    exact sem_loop (ueT n f (mostZ f n) (XL n f)) n (by simp) (fun i hi => ue_stepT n f HC (by omega) _ _ i hi (hr i hi) w hG) (ue_endT n f HC _ _ w hG)
theorem unitExpands_walk (n : Nat) (f : Nat → It) (w : World) (vals : List Value) (hG : GlobOk gl9 w) (hf : ∀ j, j < n → wfIt (f j)) (ha : ArgsOk w [.inr (itE n f)] vals) : Calls Tryd.prog 5 vals.toArray w (Holds w) :=
  (unitExpands_ret n f hf w hG vals ha).plain
end Go.Proofs.YtpmjfpdogbcigaaDoor
