/- The laws of layer 3, by the evaluator. -/
import Derived.Test.YtgchiidaikponaaDoorRef03
import Derived.Test.YtgchiidaikponaaDoorOpen03
namespace Go.Proofs.YtgchiidaikponaaDoor
open Go.RowKit Sim
set_option linter.unusedVariables false
set_option linter.unusedSimpArgs false

theorem holds_of {k : FuncId} {args : Array Value} {w : World} (h : Ret Tryd.prog k args (.bool true) w) : Calls Tryd.prog k args w (Holds w) := h
theorem awake03 (w : World) (hG : GlobOk namesGl w) : Ret Tryd.prog 13 #[] (.bool true) w :=
  ret (tFind_ok.or tForm_ok) (fuel := 1000) [] [] (v := .bool true) [] (by kernel_rfl) (fun _ h => by cases h) w hG
def tAwake : Tab := row 13 dec0 fun _ => .bool true
theorem tAwake_ok : TabOk Tryd.prog namesGl tAwake := tab0 fun w hG => awake03 w hG
def tNamesC : Tab := orT tName <| orT tRefName <| orT tForm <| orT tRefForm <| orT tFind tAwake
theorem tNamesC_ok : TabOk Tryd.prog namesGl tNamesC := tName_ok.or (tRefName_ok.or (tForm_ok.or (tRefForm_ok.or (tFind_ok.or tAwake_ok))))
theorem names_some (op : Int) : (decide (findN (nameZ op) ≠ 0) == !(nameZ op).toList == ({ data := #[] } : ByteArray).toList) = true := by
  rcases op_cases op with ⟨n, h1, h2, rfl⟩ | h
  · have : ∀ n : Fin 88, (decide (findN (opS n.val) ≠ 0) == !(opS n.val).toList == ({ data := #[] } : ByteArray).toList) = true := by decide +kernel
    rw [nameZ_nat]; exact this ⟨n, h2⟩
  · rw [nameZ_out h]; decide +kernel
theorem names_back (op : Int) (h : findN (nameZ op) ≠ 0) : ((findN (nameZ op) : Nat) : Int) = op := by
  have := findN_nameZ op
  split at this
  · exact this
  · omega
theorem isaNames_walk (op : Int) (w : World) (hG : GlobOk namesGl w) : Ret Tryd.prog 3 #[.int .i64 op] (.bool true) w := by
  have e := names_some op
  by_cases h : findN (nameZ op) = 0
  · exact ret tNamesC_ok (fuel := 1000) O1 [false, false, true, true] (v := .bool true) [(!decide (findN (nameZ op) ≠ 0), true), (decide (findN (nameZ op) ≠ 0) == !(nameZ op).toList == ({ data := #[] } : ByteArray).toList, true), (formZ op != formZ op, false), (!(nameZ op).toList == (nameZ op).toList, false)] (by kernel_rfl) (by rw [e]; simp [h]) w hG
  · have hb := names_back op h
    exact ret tNamesC_ok (fuel := 1000) O1 [false, false, true, false, true] (v := .bool true) [(((findN (nameZ op) : Nat) : Int) == op, true), (!decide (findN (nameZ op) ≠ 0), false), (decide (findN (nameZ op) ≠ 0) == !(nameZ op).toList == ({ data := #[] } : ByteArray).toList, true), (formZ op != formZ op, false), (!(nameZ op).toList == (nameZ op).toList, false)] (by kernel_rfl) (by rw [e, hb]; simp [h]) w hG
theorem isaNames_law (op : Int) (w : World) (hG : GlobOk namesGl w) (_ : (Lit.int .i64 op).wf = true) : Calls Tryd.prog 3 #[.int .i64 op] w (Holds w) := isaNames_walk op w hG
def tFindsC : Tab := orT tFind <| orT tRefFind tAwake
theorem tFindsC_ok : TabOk Tryd.prog namesGl tFindsC := tFind_ok.or (tRefFind_ok.or tAwake_ok)
theorem isaFinds_walk (s : ByteArray) (w : World) (hG : GlobOk namesGl w) : Ret Tryd.prog 4 #[.string s] (.bool true) w := by
  by_cases h0 : (s.size : Int) > 100
  · exact ret tFindsC_ok (fuel := 1000) O1 [true] (v := .bool true) [(decide ((s.size : Int) > 100), true)] (by kernel_rfl) (by rw [decide_eq_true h0]; simp) w hG
  · have e : (decide (findN s ≠ 0) == decide (((findN s : Nat) : Int) > 0)) = true := by
      by_cases hf : findN s = 0
      · rw [hf]; rfl
      · rw [decide_eq_true hf, decide_eq_true (by omega)]; rfl
    exact ret tFindsC_ok (fuel := 1000) O1 [false, true, true] (v := .bool true) [(decide (findN s ≠ 0) == decide (((findN s : Nat) : Int) > 0), true), (((findN s : Nat) : Int) == ((findN s : Nat) : Int), true), (decide ((s.size : Int) > 100), false)] (by kernel_rfl) (by rw [decide_eq_false h0, e]; simp) w hG
theorem isaFinds_law (s : ByteArray) (w : World) (hG : GlobOk namesGl w) (_ : s.size ≤ maxLen) : Calls Tryd.prog 4 #[.string s] w (Holds w) := isaFinds_walk s w hG
def tMay2C : Tab := orT tMay <| orT tRefMay tAwake
theorem tMay2C_ok : TabOk Tryd.prog namesGl tMay2C := tMay_ok.or (tRefMay_ok.or tAwake_ok)
theorem isaMay_walk (i : In) (w : World) (hG : GlobOk namesGl w) : Ret Tryd.prog 5 #[inV i] (.bool true) w :=
  ret tMay2C_ok (fuel := 1000) OIn [true] (v := .bool true) [(mayB i == mayB i, true)] (by kernel_rfl) (by simp) w hG
theorem isaMay_law (i : In) (w : World) (hG : GlobOk namesGl w) (_ : wfIn i) : Calls Tryd.prog 5 #[inV i] w (Holds w) := isaMay_walk i w hG
def tUsesC : Tab := orT tReads <| orT tWrites <| orT tRefMay <| orT tHasA <| orT tHasB tAwake
theorem tUsesC_ok : TabOk Tryd.prog namesGl tUsesC := tReads_ok.or (tWrites_ok.or (tRefMay_ok.or (tHasA_ok.or (tHasB_ok.or tAwake_ok))))
theorem isaUses_rd (i : In) (w : World) (hG : GlobOk namesGl w) (hm : mayB i = true) (hr : (i.rd == 0) = false) : Ret Tryd.prog 6 #[inV i] (.bool true) w := by
  --was 20 "tUsesC_ok (fuel := 1000)" "OIn" "bne;" fun (i : In) (hm : mayB i = true) (hr : (i.rd == 0) = false) (p : List Bool) => simCall (E_gen namesGl tUsesC) 1000 OIn p 6 [inV i]
  exact (ret tUsesC_ok (fuel := 1000) OIn [true, false, true, false, true, false, false, true, true] (v := .bool (true)) [((bif mayB i && i.rd != 0 then i.rd else 0) == i.rd, true), (mayB i && i.rd != 0, true), (!(mayB i && i.rd != 0), false), (!(mayB i && i.rd != 0) == (i.rd != 0), false), (mayB i, true), (!(mayB i && bF (formZ i.op)) == bF (formZ i.op), false), (mayB i, true), (!(mayB i && aF (formZ i.op)) == aF (formZ i.op), false), (mayB i, true)] (by kernel_rfl) (by simp [bne, hm, hr]) w hG).of_eq (by first | (simp only [bne, hm, hr]; rfl) | simp [bne, hm, hr])
theorem isaUses_no (i : In) (w : World) (hG : GlobOk namesGl w) (hm : mayB i = true) (hr : (i.rd == 0) = true) : Ret Tryd.prog 6 #[inV i] (.bool true) w := by
  --was 20 "tUsesC_ok (fuel := 1000)" "OIn" "bne;" fun (i : In) (hm : mayB i = true) (hr : (i.rd == 0) = true) (p : List Bool) => simCall (E_gen namesGl tUsesC) 1000 OIn p 6 [inV i]
  exact (ret tUsesC_ok (fuel := 1000) OIn [true, false, true, false, true, false, true, true] (v := .bool (true)) [((bif mayB i && i.rd != 0 then i.rd else 0) == 0, true), (!(mayB i && i.rd != 0), true), (!(mayB i && i.rd != 0) == (i.rd != 0), false), (mayB i, true), (!(mayB i && bF (formZ i.op)) == bF (formZ i.op), false), (mayB i, true), (!(mayB i && aF (formZ i.op)) == aF (formZ i.op), false), (mayB i, true)] (by kernel_rfl) (by simp [bne, hm, hr]) w hG).of_eq (by first | (simp only [bne, hm, hr]; rfl) | simp [bne, hm, hr])
theorem isaUses_not (i : In) (w : World) (hG : GlobOk namesGl w) (hm : mayB i = false) : Ret Tryd.prog 6 #[inV i] (.bool true) w := by
  --was 20 "tUsesC_ok (fuel := 1000)" "OIn" "bne;" fun (i : In) (hm : mayB i = false) (p : List Bool) => simCall (E_gen namesGl tUsesC) 1000 OIn p 6 [inV i]
  exact (ret tUsesC_ok (fuel := 1000) OIn [false, false, false, false, false, false, true, true] (v := .bool (true)) [((bif mayB i && i.rd != 0 then i.rd else 0) == 0, true), (!(mayB i && i.rd != 0), true), (!(mayB i && i.rd != 0) == false, false), (mayB i, false), (!(mayB i && bF (formZ i.op)) == false, false), (mayB i, false), (!(mayB i && aF (formZ i.op)) == false, false), (mayB i, false)] (by kernel_rfl) (by simp [bne, hm]) w hG).of_eq (by first | (simp only [bne, hm]; rfl) | simp [bne, hm])
theorem isaUses_walk (i : In) (w : World) (hG : GlobOk namesGl w) : Ret Tryd.prog 6 #[inV i] (.bool true) w := by
  rcases Bool.eq_false_or_eq_true (mayB i) with hm | hm
  · rcases Bool.eq_false_or_eq_true (i.rd == 0) with hr | hr
    · exact isaUses_no i w hG hm hr
    · exact isaUses_rd i w hG hm hr
  · exact isaUses_not i w hG hm
theorem isaUses_law (i : In) (w : World) (hG : GlobOk namesGl w) (_ : wfIn i) : Calls Tryd.prog 6 #[inV i] w (Holds w) := isaUses_walk i w hG
def tKindsC : Tab := orT tAccess <| orT tReader <| orT tWriter <| orT tWide <| orT tRefWide <| orT tBranch <| orT tRefForm tAwake
theorem tKindsC_ok : TabOk Tryd.prog namesGl tKindsC := tAccess_ok.or (tReader_ok.or (tWriter_ok.or (tWide_ok.or (tRefWide_ok.or (tBranch_ok.or (tRefForm_ok.or tAwake_ok))))))
theorem isaKinds_walk (op : Int) (w : World) (hG : GlobOk namesGl w) : Ret Tryd.prog 7 #[.int .i64 op] (.bool true) w :=
  ret tKindsC_ok (fuel := 1000) O1 [true, true, true, true] (v := .bool true) [((formZ op == 4) == (formZ op == 4), true), (wideB op == wideB op, true), (writeZ op == writeZ op, true), (readZ op == readZ op, true)] (by kernel_rfl) (by simp) w hG
theorem isaKinds_law (op : Int) (w : World) (hG : GlobOk namesGl w) (_ : (Lit.int .i64 op).wf = true) : Calls Tryd.prog 7 #[.int .i64 op] w (Holds w) := isaKinds_walk op w hG
end Go.Proofs.YtgchiidaikponaaDoor
