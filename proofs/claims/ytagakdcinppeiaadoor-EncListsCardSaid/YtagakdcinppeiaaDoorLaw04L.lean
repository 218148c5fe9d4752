/- The law of layer 4 on lists, by the evaluator with lists. -/
import Derived.Test.YtagakdcinppeiaaDoorLaw04
import Derived.Test.YtagakdcinppeiaaDoorLists04
namespace Go.Proofs.YtagakdcinppeiaaDoor
open Go.RowKit Sim S2
set_option linter.unusedVariables false
set_option linter.unusedSimpArgs false

noncomputable def envY (n : Nat) (f : Nat → In) : S2.Env := env Tryd.prog encGl (orT tRefMay tAwake04) pRefEncode (orL (lAllYes n f) <| orL lRefBytes <| orL lRefSame (lEncBytes n f))
theorem envY_ok (n : Nat) (f : Nat → In) : CallOk (envY n f) := env_ok (tRefMay_ok.or tAwake04_ok) pRefEncode_ok ((lAllYes_ok n f).or (lRefBytes_ok.or (lRefSame_ok.or (lEncBytes_ok n f))))
noncomputable def envN (n k : Nat) (f : Nat → In) : S2.Env := env Tryd.prog encGl (orT tRefMay tAwake04) pRefEncode (orL (lAllNo n k f) lRefBytes)
theorem envN_ok (n k : Nat) (f : Nat → In) : CallOk (envN n k f) := env_ok (tRefMay_ok.or tAwake04_ok) pRefEncode_ok ((lAllNo_ok n k f).or lRefBytes_ok)
def elPath : List Nat := [0, 1, 0, 1, 1, 1, 1]
noncomputable def elC : Code := codeAt (codeOf Tryd.prog 5) (0 :: elPath)
noncomputable def elY (n : Nat) (f : Nat → In) (j : Nat) : S2.St := { tmps := [(0, .c 0), (3, .c 1), (4, .inl ([true], .int .i64 0)), (5, .inl ([true], .int .i64 0)), (6, .c 2), (7, .inl ([true], .int .i64 j))], own := ⟨[], [insE n f, wordsE n f, bytesE (4 * j) (codeB f)]⟩, lo := 0, llo := 0, mem := true, orc := [], obl := [] }
noncomputable def elYP (f : Nat → In) : Pick := { ts := [0, 3, 4, 5, 6, 7], bs := [], ls := [0, 1, 2], nil := [(6, 5, 1, (bytesE 0 (codeB f)).el)], opn := [4, 5, 7] }
noncomputable def elN (n k : Nat) (f : Nat → In) (j : Nat) : S2.St := { tmps := [(0, .c 0), (3, .inl ([true], .slice none 0 0)), (4, .inl ([true], .int .i64 k)), (5, .inl ([true], .int .i64 (errE (f k)))), (6, .c 1), (7, .inl ([true], .int .i64 j))], own := ⟨[], [insE n f, bytesE (4 * j) (codeB f)]⟩, lo := 0, llo := 0, mem := true, orc := [], obl := [] }
noncomputable def elNP (f : Nat → In) : Pick := { ts := [0, 3, 4, 5, 6, 7], bs := [], ls := [0, 1], nil := [(6, 5, 1, (bytesE 0 (codeB f)).el)], opn := [3, 4, 5, 7] }
theorem byteZ_u64 {i : In} (h : mayB i = true) (m : Nat) : byteZ (IntKind.u64.wrap (encZ i)) m = byteZ (wordE i) m := by
  have hr := enc_rng h
  have e : IntKind.u64.wrap (encZ i) = encZ i := by rw [IntKind.wrap_u64]; omega
  unfold wordE
  rw [e, h]; rfl
noncomputable def elG (f : Nat → In) (j : Nat) : LE := ⟨5, 1, 4 * j + 4, joinE (4 * j) (bytesE (4 * j) (codeB f)).el (bytesE 4 (byteZ (IntKind.u64.wrap (encZ (f j))))).el, true, false, true⟩
theorem elG_same (f : Nat → In) (j : Nat) (h : mayB (f j) = true) : sameE (elG f j) (bytesE (4 * (j + 1)) (codeB f)) :=
  ⟨rfl, rfl, rfl, rfl, rfl, joinE_many (m := 4) (fun i hi => by
    show [Value.int .u8 (byteZ (IntKind.u64.wrap (encZ (f j))) i)] = [Value.int .u8 (codeB f (4 * j + i))]
    rw [byteZ_u64 h, codeB_at f j i hi])⟩
theorem u64_rng (x : Int) : 0 ≤ IntKind.u64.wrap x ∧ IntKind.u64.wrap x < 18446744073709551616 := by rw [IntKind.wrap_u64]; omega
theorem ob_bytes (x : Int) : pre (decide (0 ≤ IntKind.u64.wrap x ∧ IntKind.u64.wrap x < 18446744073709551616 ∧ (0 : Int) ≤ 4 ∧ (4 : Int) ≤ 65536)) = true := by
  have := u64_rng x
  unfold pre; exact decide_eq_true ⟨this.1, this.2, by decide, by decide⟩
theorem elY_step (n : Nat) (f : Nat → In) (hn : n ≤ 500) (j : Nat) (hj : j < n) (hm : mayB (f j) = true) (w : World) (hG : GlobOk encGl w) : S2.Sem (envY n f) w 74 elC (elY n f j) none (elY n f (j + 1)) :=
  (sem_iter (envY_ok n f) hG (p := { ts := [0, 3, 4, 5, 6, 7], bs := [], ls := [0, 1, 4] }) (fuel := 1000) (s' := { elY n f (j + 1) with own := ⟨[], [insE n f, wordsE n f, elG f j]⟩ }) [true, false]
    [(pre (inI (j + 1)), true), (pre (decide (4 * j + 4 ≤ maxLen ∧ (4 * j + 4) * 1 ≤ 140737488355328 ∧ 0 < 4)), true), (pre (decide (0 ≤ IntKind.u64.wrap (encZ (f j)) ∧ IntKind.u64.wrap (encZ (f j)) < 18446744073709551616 ∧ (0 : Int) ≤ 4 ∧ (4 : Int) ≤ 65536)), true), (pre (mayB (f j)), true), (pre (decide (j < n)), true), (pre (idxB j n), true), (!mayB (f j), false), (pre (decide (j < n)), true), (pre (idxB j n), true), (decide ((j : Int) < n), true)]
    (by kernel_rfl) (by kernel_rfl) (all_cons (ob_inI (by omega)) <| all_cons (ob_app (by omega) (by decide) (by decide)) <| all_cons (ob_bytes _) <| all_cons (by unfold pre; exact hm) <| all_cons (ob_lt hj) <| all_cons (ob_idx (by omega)) <| all_cons (by rw [hm]; rfl) <| all_cons (ob_lt hj) <| all_cons (ob_idx (by omega)) <| all_cons (ob_yes (by omega)) all_nil)).same rfl rfl
      ⟨.refl _, .refl _, elG_same f j hm, trivial⟩ rfl
theorem elY_last (n : Nat) (f : Nat → In) (w : World) (hG : GlobOk encGl w) : S2.Sem (envY n f) w 74 elC (elY n f n) (some (some 0)) (elY n f n) :=
  sem_iter (envY_ok n f) hG (p := { ts := [0, 3, 4, 5, 6, 7], bs := [], ls := [0, 1, 2] }) (fuel := 1000) [false] [(decide ((n : Int) < n), false)] (by kernel_rfl) (by kernel_rfl) (all_cons (ob_no (by omega)) all_nil)
theorem sameBytes_code (n : Nat) (f : Nat → In) (hn : n ≤ 500) : sameBytes (bytesE (4 * n) (codeB f)) (bytesE (4 * n) (codeB f)) := by
  refine ⟨(List.range (4 * n)).map fun i => byteN (wordE (f (i / 4))).toNat (i % 4), rfl, rfl, by simp [bytesE], by simp [bytesE], by simp; omega, fun i hi => ?_⟩
  have hi' : i < 4 * n := by simpa using hi
  have e : (bytesE (4 * n) (codeB f)).el i = [byteV (((List.range (4 * n)).map fun i => byteN (wordE (f (i / 4))).toNat (i % 4)).getD i 0)] := by
    show [Value.int .u8 (codeB f i)] = _
    unfold codeB
    rw [byteZ_eq]
    simp [List.getD_eq_getElem?_getD, hi']
  exact ⟨e, e⟩
theorem encLists_yes (n : Nat) (f : Nat → In) (hn : n ≤ 500) (hm : ∀ j, j < n → mayB (f j) = true) (w : World) (vals : List Value) (hG : GlobOk encGl w) (ha : ArgsOk w [.inr (insE n f)] vals) :
    LRet Tryd.prog 5 vals false [.inl (.bool true)] w := by
  refine fn_ok (envY_ok n f) (fuel := 1000) (d := 30) (plan := [⟨elPath, elYP f, some (some 0), elY n f n⟩]) (orc := [false, false, false, false, true]) (fls := [[]])
    (l := [(true, true), (pre (propB (sameBytes (bytesE (4 * n) (codeB f)) (bytesE (4 * n) (codeB f)))), true), (pre (propB (wordsE n f = wordsE n f ∧ n ≤ 1000000000)), true), (false, false), (false, false), ((n : Int) != n, false), (pre (propB (insE n f = insE n f ∧ n ≤ 1000000000 ∧ ∀ j, j < n → mayB (f j) = true)), true), (decide ((n : Int) > 500), false)])
    (tr := [⟨.loop elC, elY n f 0, some (some 0), elY n f n⟩]) (by kernel_rfl)
    (all_cons rfl <| all_cons (propB_ok.mpr (sameBytes_code n f hn)) <| all_cons (propB_ok.mpr ⟨rfl, by omega⟩) <| all_cons rfl <| all_cons rfl <| all_cons (by simp) <| all_cons (propB_ok.mpr ⟨rfl, by omega, hm⟩) <| all_cons (ob_no (by omega)) all_nil)
    Tryd.func5 w vals hG ha fun t ht => ?_
  obtain rfl := List.mem_singleton.mp ht
  exact sem_loop (elY n f) n (by simp) (fun j hj => elY_step n f hn j hj (hm j hj) w hG) (elY_last n f w hG)
theorem elN_step (n k : Nat) (f : Nat → In) (hn : n ≤ 500) (j : Nat) (hj : j < n) (hm : mayB (f j) = true) (w : World) (hG : GlobOk encGl w) : S2.Sem (envN n k f) w 74 elC (elN n k f j) none (elN n k f (j + 1)) :=
  (sem_iter (envN_ok n k f) hG (p := { ts := [0, 3, 4, 5, 6, 7], bs := [], ls := [0, 3] }) (fuel := 1000) (s' := { elN n k f (j + 1) with own := ⟨[], [insE n f, elG f j]⟩ }) [true, false]
    [(pre (inI (j + 1)), true), (pre (decide (4 * j + 4 ≤ maxLen ∧ (4 * j + 4) * 1 ≤ 140737488355328 ∧ 0 < 4)), true), (pre (decide (0 ≤ IntKind.u64.wrap (encZ (f j)) ∧ IntKind.u64.wrap (encZ (f j)) < 18446744073709551616 ∧ (0 : Int) ≤ 4 ∧ (4 : Int) ≤ 65536)), true), (pre (mayB (f j)), true), (pre (decide (j < n)), true), (pre (idxB j n), true), (!mayB (f j), false), (pre (decide (j < n)), true), (pre (idxB j n), true), (decide ((j : Int) < n), true)]
    (by kernel_rfl) (by kernel_rfl) (all_cons (ob_inI (by omega)) <| all_cons (ob_app (by omega) (by decide) (by decide)) <| all_cons (ob_bytes _) <| all_cons (by unfold pre; exact hm) <| all_cons (ob_lt hj) <| all_cons (ob_idx (by omega)) <| all_cons (by rw [hm]; rfl) <| all_cons (ob_lt hj) <| all_cons (ob_idx (by omega)) <| all_cons (ob_yes (by omega)) all_nil)).same rfl rfl
      ⟨.refl _, elG_same f j hm, trivial⟩ rfl
def trueS : S2.St := { tmps := [(2, .inl ([true], .bool true))], own := ⟨[], []⟩, lo := 0, llo := 0, mem := true, orc := [], obl := [] }
theorem elN_last (n k : Nat) (f : Nat → In) (hk : k < n) (hb : mayB (f k) = false) (w : World) (hG : GlobOk encGl w) : S2.Sem (envN n k f) w 74 elC (elN n k f k) (some none) trueS :=
  sem_iter (envN_ok n k f) hG (p := { ts := [2], bs := [], ls := [], opn := [2] }) (fuel := 1000) [true, true, true, true, true] [(errE (f k) == 1, true), ((k : Int) == k, true), (true, true), (!mayB (f k), true), (pre (decide (k < n)), true), (pre (idxB k n), true), (decide ((k : Int) < n), true)] (by kernel_rfl) (by kernel_rfl)
    (all_cons (by simp [errE, hb]) <| all_cons (by simp) <| all_cons rfl <| all_cons (by rw [hb]; rfl) <| all_cons (ob_lt hk) <| all_cons (ob_idx (by omega)) <| all_cons (ob_yes (by omega)) all_nil)
theorem encLists_no (n k : Nat) (f : Nat → In) (hn : n ≤ 500) (hk : k < n) (hm : ∀ j, j < k → mayB (f j) = true) (hb : mayB (f k) = false) (w : World) (vals : List Value) (hG : GlobOk encGl w) (ha : ArgsOk w [.inr (insE n f)] vals) :
    LRet Tryd.prog 5 vals false [.inl (.bool true)] w := by
  refine fn_ok (envN_ok n k f) (fuel := 1000) (d := 30) (plan := [⟨elPath, elNP f, some none, trueS⟩]) (orc := [false]) (fls := [[]])
    (l := [(pre (propB (insE n f = insE n f ∧ n ≤ 1000000000 ∧ k < n ∧ (∀ j, j < k → mayB (f j) = true) ∧ mayB (f k) = false)), true), (decide ((n : Int) > 500), false)])
    (tr := [⟨.loop elC, elN n k f 0, some none, trueS⟩]) (by kernel_rfl)
    (all_cons (propB_ok.mpr ⟨rfl, by omega, hk, hm, hb⟩) <| all_cons (ob_no (by omega)) all_nil)
    Tryd.func5 w vals hG ha fun t ht => ?_
  obtain rfl := List.mem_singleton.mp ht
  exact sem_loop (elN n k f) k (by simp) (fun j hj => elN_step n k f hn j (by omega) (hm j hj) w hG) (elN_last n k f hk hb w hG)
theorem encLists_long (n : Nat) (f : Nat → In) (hn : 500 < n) (w : World) (vals : List Value) (hG : GlobOk encGl w) (ha : ArgsOk w [.inr (insE n f)] vals) :
    LRet Tryd.prog 5 vals false [.inl (.bool true)] w :=
  fn_ok (envY_ok n f) (fuel := 1000) (d := 30) (plan := []) (orc := [true]) (fls := [[]]) (l := [(decide ((n : Int) > 500), true)]) (tr := []) (by kernel_rfl) (all_cons (ob_yes (by omega)) all_nil)
    Tryd.func5 w vals hG ha fun t ht => by cases ht
theorem encLists_walk (n : Nat) (f : Nat → In) (w : World) (vals : List Value) (hG : GlobOk encGl w) (ha : ArgsOk w [.inr (insE n f)] vals) : Ret Tryd.prog 5 vals.toArray (.bool true) w := by
  refine LRet.plain ?_
  rcases Nat.lt_or_ge 500 n with hn | hn
  · exact encLists_long n f hn w vals hG ha
  · by_cases hall : ∀ j, j < n → mayB (f j) = true
    · exact encLists_yes n f hn hall w vals hG ha
    · have hex : ∃ k, k < n ∧ mayB (f k) = false := by
        refine Classical.byContradiction fun hc => hall fun j hj => ?_
        cases hj' : mayB (f j)
        · exact absurd ⟨j, hj, hj'⟩ hc
        · rfl
      obtain ⟨k0, hk0, hb0⟩ := hex
      have first : ∀ m, mayB (f m) = false → ∃ k, k ≤ m ∧ mayB (f k) = false ∧ ∀ j, j < k → mayB (f j) = true := by
        intro m
        induction m using Nat.strongRecOn with
        | _ m ih =>
          intro hm
          by_cases hl : ∀ j, j < m → mayB (f j) = true
          · exact ⟨m, Nat.le_refl _, hm, hl⟩
          · have : ∃ j, j < m ∧ mayB (f j) = false := by
              refine Classical.byContradiction fun hc => hl fun j hj => ?_
              cases hj' : mayB (f j)
              · exact absurd ⟨j, hj, hj'⟩ hc
              · rfl
            obtain ⟨j, hj, hj'⟩ := this
            obtain ⟨k, h1, h2, h3⟩ := ih j hj hj'
            exact ⟨k, by omega, h2, h3⟩
      obtain ⟨k, h1, h2, h3⟩ := first k0 hb0
      exact encLists_no n k f hn (by omega) h3 h2 w vals hG ha
end Go.Proofs.YtagakdcinppeiaaDoor
