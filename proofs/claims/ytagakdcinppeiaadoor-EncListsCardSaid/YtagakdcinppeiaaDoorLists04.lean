/- Contracts of package enc (layer 4) on lists, by the evaluator with lists. -/
import Derived.Test.YtagakdcinppeiaaDoorEnc
import Derived.Test.YtagakdcinppeiaaDoorBytesL
namespace Go.Proofs.YtagakdcinppeiaaDoor
open Go.RowKit Sim S2
set_option linter.unusedVariables false
set_option linter.unusedSimpArgs false

/-- An instruction's cells; a list of instructions. -/
def inC (i : In) : List Value := [.int .i64 i.op, .int .i64 i.rd, .int .i64 i.a, .int .i64 i.b, .int .i64 i.imm, .bool i.aq, .bool i.rl]
def insE (n : Nat) (f : Nat → In) : LE := ⟨23, 7, n, fun j => inC (f j), false, false, true⟩
noncomputable def envA : S2.Env := env Tryd.prog encGl tEncode noP noL
theorem envA_ok : CallOk envA := env_ok tEncode_ok (.none _ _) (.none _ _)
noncomputable def wordsE (n : Nat) (f : Nat → In) : LE := ⟨24, 1, n, fun j => [.int .u32 (wordE (f j))], true, false, true⟩
noncomputable def allS (n : Nat) (f : Nat → In) (j : Nat) : S2.St := { tmps := [(5, .c 1), (10, .c 0), (11, .inl ([true], .int .i64 n)), (12, .inl ([true], .int .i64 j))], own := ⟨[], [insE n f, wordsE j f]⟩, lo := 0, llo := 0, mem := true, orc := [], obl := [] }
noncomputable def allP (f : Nat → In) : Pick := { ts := [5, 10, 11, 12], bs := [], ls := [0, 1], nil := [(5, 24, 1, (wordsE 0 f).el)], opn := [11, 12] }
def allQ : Pick := { ts := [5, 10, 11, 12], bs := [], ls := [0, 2] }
def allPath : List Nat := [0, 1, 0, 1, 1]
noncomputable def allC : Code := codeAt (codeOf Tryd.prog 10) (0 :: allPath)
noncomputable def allS1 (n : Nat) (f : Nat → In) (j : Nat) : S2.St := { allS n f j with tmps := [(5, .c 1), (10, .c 0), (11, .inl ([true], .int .i64 n)), (12, .inl ([true], .int .i64 (j + 1 : Nat)))], own := ⟨[], [insE n f, ⟨24, 1, j + 1, joinE j (wordsE j f).el (tabE [[.int .u32 (wordE (f j))]]), true, false, true⟩]⟩ }
theorem all_step (n : Nat) (f : Nat → In) (hn : n ≤ 1000000000000) (j : Nat) (hj : j < n) (hm : mayB (f j) = true) (w : World) (hG : GlobOk encGl w) : S2.Sem envA w 32 allC (allS n f j) none (allS n f (j + 1)) :=
  (sem_iter envA_ok hG (p := allQ) (fuel := 1000) (s' := allS1 n f j) [true, false] [(pre (inI (j + 1)), true), (pre (decide (j + 1 ≤ maxLen ∧ (j + 1) * 4 ≤ 140737488355328 ∧ 0 < 1)), true), (errE (f j) != 0, false), (pre (decide (j < n)), true), (pre (idxB j n), true), (decide ((j : Int) < n), true)]
    (by kernel_rfl) (by kernel_rfl) (all_cons (ob_inI (by omega)) <| all_cons (ob_app (by omega) (by decide) (by decide)) <| all_cons (by simp [errE, hm]) <| all_cons (ob_lt hj) <| all_cons (ob_idx (by omega)) <| all_cons (ob_yes (by omega)) all_nil)).same rfl rfl ⟨.refl _, ⟨rfl, rfl, rfl, rfl, rfl, joinE_one rfl⟩, trivial⟩ rfl
theorem all_last (n : Nat) (f : Nat → In) (w : World) (hG : GlobOk encGl w) : S2.Sem envA w 32 allC (allS n f n) (some (some 0)) (allS n f n) :=
  sem_iter envA_ok hG (p := { ts := [5, 10, 11, 12], bs := [], ls := [0, 1] }) (fuel := 1000) [false] [(decide ((n : Int) < n), false)] (by kernel_rfl) (by kernel_rfl) (by simp)
theorem all_yes (n : Nat) (f : Nat → In) (hn : n ≤ 1000000000000) (hm : ∀ j, j < n → mayB (f j) = true) (w : World) (vals : List Value) (hG : GlobOk encGl w) (ha : ArgsOk w [.inr (insE n f)] vals) :
    LRet Tryd.prog 10 vals true [.inr (wordsE n f), .inl (.int .i64 0), .inl (.int .i64 0)] w := by
  refine fn_ok envA_ok (fuel := 1000) (d := 30) (plan := [⟨allPath, allP f, some (some 0), allS n f n⟩]) (orc := []) (fls := [[]]) (l := []) (tr := [⟨.loop allC, allS n f 0, some (some 0), allS n f n⟩]) (by kernel_rfl) (fun _ h => by cases h) Tryd.func10 w vals hG ha fun t ht => ?_
  obtain rfl := List.mem_singleton.mp ht
  exact sem_loop (allS n f) n (by simp) (fun j hj => all_step n f hn j hj (hm j hj) w hG) (all_last n f w hG)
theorem all_no (n k : Nat) (f : Nat → In) (hn : n ≤ 1000000000000) (hk : k < n) (hm : ∀ j, j < k → mayB (f j) = true) (hb : mayB (f k) = false) (w : World) (vals : List Value) (hG : GlobOk encGl w) (ha : ArgsOk w [.inr (insE n f)] vals) :
    LRet Tryd.prog 10 vals false [.inl (.tuple #[.slice none 0 0, .int .i64 k, .int .i64 (errE (f k))])] w := by
  have hlast : S2.Sem envA w 32 allC (allS n f k) (some none) { tmps := [(2, .inl ([], .slice none 0 0)), (3, .inl ([true], .int .i64 k)), (4, .inl ([true], .int .i64 (errE (f k))))], own := ⟨[], []⟩, lo := 0, llo := 0, mem := true, orc := [], obl := [] } :=
    sem_iter envA_ok hG (p := { ts := [2, 3, 4], bs := [], ls := [] }) (fuel := 1000) [true, true] [(errE (f k) != 0, true), (pre (decide (k < n)), true), (pre (idxB k n), true), (decide ((k : Int) < n), true)] (by kernel_rfl) (by kernel_rfl)
      (all_cons (by simp [errE, hb]) <| all_cons (ob_lt hk) <| all_cons (ob_idx (by omega)) <| all_cons (ob_yes (by omega)) all_nil)
  refine fn_ok envA_ok (fuel := 1000) (d := 30) (plan := [⟨allPath, allP f, some none, { tmps := [(2, .inl ([], .slice none 0 0)), (3, .inl ([true], .int .i64 k)), (4, .inl ([true], .int .i64 (errE (f k))))], own := ⟨[], []⟩, lo := 0, llo := 0, mem := true, orc := [], obl := [] }⟩]) (orc := []) (fls := [[]]) (l := [])
    (tr := [⟨.loop allC, allS n f 0, some none, { tmps := [(2, .inl ([], .slice none 0 0)), (3, .inl ([true], .int .i64 k)), (4, .inl ([true], .int .i64 (errE (f k))))], own := ⟨[], []⟩, lo := 0, llo := 0, mem := true, orc := [], obl := [] }⟩]) (by kernel_rfl) (fun _ h => by cases h) Tryd.func10 w vals hG ha fun t ht => ?_
  obtain rfl := List.mem_singleton.mp ht
  exact sem_loop (allS n f) k (by simp) (fun j hj => all_step n f hn j (by omega) (hm j hj) w hG) hlast
/-- The bytes of all words. -/
noncomputable def codeB (f : Nat → In) (i : Nat) : Int := byteZ (wordE (f (i / 4))) (i % 4)
noncomputable def envB : S2.Env := env Tryd.prog encGl noT noP lBytes
theorem envB_ok : CallOk envB := env_ok (.none _ _) (.none _ _) lBytes_ok
noncomputable def ebS (n : Nat) (f : Nat → In) (j : Nat) : S2.St := { tmps := [(3, .c 1), (6, .c 0), (7, .inl ([true], .int .i64 n)), (8, .inl ([true], .int .i64 j))], own := ⟨[], [{ wordsE n f with own := false }, bytesE (4 * j) (codeB f)]⟩, lo := 0, llo := 0, mem := true, orc := [], obl := [] }
noncomputable def ebP (f : Nat → In) : Pick := { ts := [3, 6, 7, 8], bs := [], ls := [0, 1], nil := [(3, 5, 1, (bytesE 0 (codeB f)).el)], opn := [7, 8] }
def ebPath : List Nat := [0, 1, 0, 1, 1]
noncomputable def ebC : Code := codeAt (codeOf Tryd.prog 13) (0 :: ebPath)
theorem wordE_rng (i : In) : 0 ≤ wordE i ∧ wordE i < 4294967296 := by
  unfold wordE
  cases h : mayB i
  · exact ⟨by simp, by simp⟩
  · exact enc_rng h
theorem codeB_at (f : Nat → In) (j i : Nat) (hi : i < 4) : byteZ (wordE (f j)) i = codeB f (4 * j + i) := by
  unfold codeB
  rw [show (4 * j + i) / 4 = j by omega, show (4 * j + i) % 4 = i by omega]
noncomputable def ebS1 (n : Nat) (f : Nat → In) (j : Nat) : S2.St := { tmps := [(3, .c 1), (6, .c 0), (7, .inl ([true], .int .i64 n)), (8, .inl ([true], .int .i64 (j + 1 : Nat)))], own := ⟨[], [{ wordsE n f with own := false }, ⟨5, 1, 4 * j + 4, joinE (4 * j) (bytesE (4 * j) (codeB f)).el (bytesE 4 (byteZ (wordE (f j)))).el, true, false, true⟩]⟩, lo := 0, llo := 0, mem := true, orc := [], obl := [] }
theorem eb_step (n : Nat) (f : Nat → In) (hn : n ≤ 1000000000) (j : Nat) (hj : j < n) (w : World) (hG : GlobOk encGl w) : S2.Sem envB w 18 ebC (ebS n f j) none (ebS n f (j + 1)) :=
  (sem_iter envB_ok hG (p := { ts := [3, 6, 7, 8], bs := [], ls := [0, 3] }) (fuel := 1000) (s' := ebS1 n f j) [true, false] [(pre (inI (j + 1)), true), (pre (decide (4 * j + 4 ≤ maxLen ∧ (4 * j + 4) * 1 ≤ 140737488355328 ∧ 0 < 4)), true), (pre (decide (0 ≤ wordE (f j) ∧ wordE (f j) < 4294967296)), true), (pre (decide (j < n)), true), (pre (idxB j n), true), (decide ((j : Int) < n), true)]
    (by kernel_rfl) (by kernel_rfl) (all_cons (ob_inI (by omega)) <| all_cons (ob_app (by omega) (by decide) (by decide)) <| all_cons (by unfold pre; exact decide_eq_true (wordE_rng _)) <| all_cons (ob_lt hj) <| all_cons (ob_idx (by omega)) <| all_cons (ob_yes (by omega)) all_nil)).same rfl rfl
      ⟨.refl _, ⟨rfl, rfl, rfl, rfl, rfl, joinE_many (m := 4) (fun i hi => by show [Value.int .u8 (byteZ (wordE (f j)) i)] = [Value.int .u8 (codeB f (4 * j + i))]; rw [codeB_at f j i hi])⟩, trivial⟩ rfl
theorem eb_last (n : Nat) (f : Nat → In) (w : World) (hG : GlobOk encGl w) : S2.Sem envB w 18 ebC (ebS n f n) (some (some 0)) (ebS n f n) :=
  sem_iter envB_ok hG (p := { ts := [3, 6, 7, 8], bs := [], ls := [0, 1] }) (fuel := 1000) [false] [(decide ((n : Int) < n), false)] (by kernel_rfl) (by kernel_rfl) (all_cons (ob_no (by omega)) all_nil)
theorem encBytes_ret (n : Nat) (f : Nat → In) (hn : n ≤ 1000000000) (w : World) (vals : List Value) (hG : GlobOk encGl w) (ha : ArgsOk w [.inr (wordsE n f)] vals) :
    LRet Tryd.prog 13 vals false [.inr (bytesE (4 * n) (codeB f))] w := by
  refine fn_ok envB_ok (fuel := 1000) (d := 30) (plan := [⟨ebPath, ebP f, some (some 0), ebS n f n⟩]) (orc := []) (fls := [[]]) (l := []) (tr := [⟨.loop ebC, ebS n f 0, some (some 0), ebS n f n⟩]) (by kernel_rfl) (fun _ h => by cases h) Tryd.func13 w vals hG ha fun t ht => ?_
  obtain rfl := List.mem_singleton.mp ht
  exact sem_loop (ebS n f) n (by simp) (fun j hj => eb_step n f hn j hj w hG) (eb_last n f w hG)
/-- The rows for a list of so many instructions. -/
noncomputable def lAllYes (n : Nat) (f : Nat → In) : LTab := lrow 10 fun args => match args with
  | [.inr e] => some (true, [.inr (wordsE n f), .inl (.int .i64 0), .inl (.int .i64 0)], pre (propB (e = insE n f ∧ n ≤ 1000000000 ∧ ∀ j, j < n → mayB (f j) = true)))
  | _ => none
theorem lAllYes_ok (n : Nat) (f : Nat → In) : LTabOk Tryd.prog encGl (lAllYes n f) := .row fun args tup res h w vals hG ha => by
  split at h
  · rename_i e
    simp only [Option.some.injEq, Prod.mk.injEq] at h
    obtain ⟨rfl, rfl, hp⟩ := h
    obtain ⟨rfl, h1, h2⟩ := propB_ok.mp hp
    exact all_yes n f (by omega) h2 w vals hG ha
  · cases h
noncomputable def lAllNo (n k : Nat) (f : Nat → In) : LTab := lrow 10 fun args => match args with
  | [.inr e] => some (false, [.inl (.tuple #[.slice none 0 0, .int .i64 k, .int .i64 (errE (f k))])], pre (propB (e = insE n f ∧ n ≤ 1000000000 ∧ k < n ∧ (∀ j, j < k → mayB (f j) = true) ∧ mayB (f k) = false)))
  | _ => none
theorem lAllNo_ok (n k : Nat) (f : Nat → In) : LTabOk Tryd.prog encGl (lAllNo n k f) := .row fun args tup res h w vals hG ha => by
  split at h
  · rename_i e
    simp only [Option.some.injEq, Prod.mk.injEq] at h
    obtain ⟨rfl, rfl, hp⟩ := h
    obtain ⟨rfl, h1, h2, h3, h4⟩ := propB_ok.mp hp
    exact all_no n k f (by omega) h2 h3 h4 w vals hG ha
  · cases h
noncomputable def lEncBytes (n : Nat) (f : Nat → In) : LTab := lrow 13 fun args => match args with
  | [.inr e] => some (false, [.inr (bytesE (4 * n) (codeB f))], pre (propB (e = wordsE n f ∧ n ≤ 1000000000)))
  | _ => none
theorem lEncBytes_ok (n : Nat) (f : Nat → In) : LTabOk Tryd.prog encGl (lEncBytes n f) := .row fun args tup res h w vals hG ha => by
  split at h
  · rename_i e
    simp only [Option.some.injEq, Prod.mk.injEq] at h
    obtain ⟨rfl, rfl, hp⟩ := h
    obtain ⟨rfl, h1⟩ := propB_ok.mp hp
    exact encBytes_ret n f h1 w vals hG ha
  · cases h
end Go.Proofs.YtagakdcinppeiaaDoor
