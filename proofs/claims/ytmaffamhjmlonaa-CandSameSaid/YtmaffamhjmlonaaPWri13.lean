/- Layer 13: package cand: write. -/
import Derived.Test.YtmaffamhjmlonaaK07
set_option linter.unusedVariables false
set_option linter.unusedSimpArgs false
namespace Go.Proofs.Ytmaffamhjmlonaa
open Go.RowKit Sim S2
noncomputable def enN : S2.Env := envk Try.prog (fun _ => none) false noT noP noL
theorem enN_ok : CallOk enN := envk_ok (nw := false) (.none _ _) (.none _ _) (.none _ _)
theorem zigzag_ret (n : Int) (hn : -9223372036854775808 <= n /\ n <= 9223372036854775807) (w : World) : Ret Try.prog 44 #[.int .i64 n] (.int .u64 (zgN n : Nat)) w := by
 refine LRet.plain (?_ : LRet Try.prog 44 [.int .i64 n] false [.inl (.int .u64 _)] w)
 have ha : ArgsOk w [.inl (.int .i64 n)] [.int .i64 n] := ⟨rfl, trivial⟩
 by_cases h : n < 0
 . have hz2 : (arZ .add .u64 (arZ .mul .u64 2 (IntKind.u64.wrap (IntKind.i64.wrap (0 - arZ .add .i64 n 1)))) 1) = (zgN n : Int) := by
     rw [arZ_eq, arZ_eq, arZ_eq]
     show IntKind.u64.wrap (IntKind.u64.wrap (2 * IntKind.u64.wrap (IntKind.i64.wrap (0 - IntKind.i64.wrap (n + 1)))) + 1) = _
     rw [IntKind.wrap_u64, IntKind.wrap_u64, IntKind.wrap_u64, IntKind.wrap_i64, IntKind.wrap_i64]
     unfold zgN; rw [if_pos h]; omega
   rw [<- hz2]
   exact fn_ok enN_ok (fuel := 1000) (d := 30) (plan := []) (orc := [true]) (fls := [[true]]) (l := [(decide (n < 0), true)]) (tr := []) (by kernel_rfl) (qA (ob_yes h) qZ) Try.func44 w _ (GlobOk.none w) ha fun t ht => by cases ht
 . have hz2 : (arZ .mul .u64 2 (IntKind.u64.wrap n)) = (zgN n : Int) := by
     rw [arZ_eq]
     show IntKind.u64.wrap (2 * IntKind.u64.wrap n) = _
     rw [IntKind.wrap_u64, IntKind.wrap_u64]
     unfold zgN; rw [if_neg h]; omega
   rw [<- hz2]
   exact fn_ok enN_ok (fuel := 1000) (d := 30) (plan := []) (orc := [false]) (fls := [[true]]) (l := [(decide (n < 0), false)]) (tr := []) (by kernel_rfl) (qA (ob_no h) qZ) Try.func44 w _ (GlobOk.none w) ha fun t ht => by cases ht
noncomputable def pZig : PTab := prowD 44 fun l => match l with
 | [.int .i64 n] => some (.int .u64 (zgN n : Nat), pre (inI n))
 | _ => none
theorem pZig_ok {gl : Gl} : PTabOk Try.prog gl pZig := .rowD fun args v h w hG => by
 split at h
 . simp only [qS, qP] at h
   obtain ⟨rfl, hp⟩ := h
   have hp : inI _ = true := hp
   exact zigzag_ret _ (of_decide_eq_true hp) w
 . cases h
noncomputable def enK13 : S2.Env := { envk Try.prog (fun _ => none) true noT pZig noL with lit := true }
theorem enK13_ok : CallOk enK13 := envk_ok (nw := true) (.none _ _) pZig_ok (.none _ _)
def killE (e : LE) : LE := { e with dead := true }
def vbs (N : List Int) : List Int := N.flatMap fun x => vbL (zgN x)
def wkP : List Nat := [0, 1, 0, 1]
def wkI : List Nat := [0, 0, 1, 1, 0, 0, 1, 1]
noncomputable def wkK (p : List Nat) : Code := codeAt (codeOf Try.prog 20) (0 :: p)
def wkL (B0 ns cur : List Int) : List LE := [killE (byE B0), inE ns, byE cur]
def wkO (B0 ns cur : List Int) (j : Nat) : S2.St := { tmps := [(0, .c 2), (8, .c 1), (9, .inl ([true], .int .i64 ns.length)), (10, .inl ([true], .int .i64 j))], own := ⟨[], wkL B0 ns cur⟩, lo := 0, llo := 0, mem := true, orc := [], obl := [] }
def wkS (B0 ns cur : List Int) (j : Nat) (u : Int) : S2.St := { tmps := [(0, .c 2), (8, .c 1), (9, .inl ([true], .int .i64 ns.length)), (10, .inl ([true], .int .i64 j)), (7, .inl ([true], .int .u64 u))], own := ⟨[], wkL B0 ns cur⟩, lo := 0, llo := 0, mem := true, orc := [], obl := [] }
def wkQ1 : Pick := { ts := [0, 8, 9, 10, 7], bs := [], ls := [0, 1, 4], opn := [7] }
def wkQ0 : Pick := { ts := [0, 8, 9, 10, 7], bs := [], ls := [0, 1, 2], opn := [7] }
def wkQ2 : Pick := { ts := [0, 8, 9, 10], bs := [], ls := [0, 1, 4], opn := [10] }
def wkQ3 : Pick := { ts := [0, 8, 9, 10], bs := [], ls := [0, 1, 2], opn := [10] }
theorem shr7 (u : Nat) (hu : u < 18446744073709551616) : arZ .shr .u64 (u : Int) 7 = ((u / 128 : Nat) : Int) := by
 rw [arZ_eq]
 show (u : Int).fdiv (2 ^ 7) = _
 rw [Int.fdiv_eq_ediv_of_nonneg _ (by decide)]
 omega
theorem wki_one (B0 ns cur : List Int) (j : Nat) (u : Int) (hu : u >= 128) (hB : cur.length <= 900000000000) (w0 : S2.Base) (hG : GlobB enK13 w0) : SemA enK13 w0 0 2 34 (wkK (wkI ++ (0 :: wkP))) (wkS B0 ns cur j u) none { wkS B0 ns cur j (arZ .shr .u64 u 7) with own := ⟨[], [killE (byE B0), inE ns, a1b cur (nuV u)]⟩ } := by
 refine semA_iter enK13_ok hG (p := wkQ1) (fuel := 1000) [true] [(pre (decide (cur.length + 1 <= maxLen /\ (cur.length + 1) * 1 <= 140737488355328 /\ 0 < 1)), true), (decide (u >= 128), true)] (by kernel_rfl) (by kernel_rfl) ?_
 exact qA (ob_app (by omega) (by decide) (by decide)) <| qA (ob_yes hu) qZ
theorem wki_round (B0 ns cur : List Int) (j : Nat) (u : Int) (hu : u >= 128) (hB : cur.length <= 900000000000) (w0 : S2.Base) (hG : GlobB enK13 w0) : SemA enK13 w0 0 2 34 (wkK (wkI ++ (0 :: wkP))) (wkS B0 ns cur j u) none (wkS B0 ns (cur ++ [nuV u]) j (arZ .shr .u64 u 7)) :=
 (wki_one B0 ns cur j u hu hB w0 hG).same rfl rfl ⟨.refl _, .refl _, app1b cur (nuV u), trivial⟩ rfl
theorem wki_end (B0 ns cur : List Int) (j : Nat) (u : Int) (hu : ¬ u >= 128) (w0 : S2.Base) (hG : GlobB enK13 w0) : SemA enK13 w0 0 2 34 (wkK (wkI ++ (0 :: wkP))) (wkS B0 ns cur j u) (some (some 2)) (wkS B0 ns cur j u) :=
 semA_iter enK13_ok hG (p := wkQ0) (fuel := 1000) [false] [(decide (u >= 128), false)] (by kernel_rfl) (by kernel_rfl) (qA (ob_no hu) qZ)
theorem wki_all (B0 ns cur : List Int) (j : Nat) (u : Nat) (hu : u < 18446744073709551616) (hB : cur.length <= 800000000000) (w0 : S2.Base) (hG : GlobB enK13 w0) : SemA enK13 w0 0 2 34 (.loop (wkK (wkI ++ (0 :: wkP)))) (wkS B0 ns cur j u) (some (some 2)) (wkS B0 ns (cur ++ grB u (grN u)) j ((u / 128 ^ grN u : Nat) : Int)) := by
 have hlt := gr_lt u hu
 have hd : ∀ j, u / 128 ^ j < 18446744073709551616 := fun j => Nat.lt_of_le_of_lt (Nat.div_le_self _ _) hu
 have hl := sem_loop (E := enK13) (w0 := w0) (nb := 0) (nl := 2) (n := 34) (c := (wkK (wkI ++ (0 :: wkP)))) (x := some (some 2)) (s' := wkS B0 ns (cur ++ grB u (grN u)) j ((u / 128 ^ grN u : Nat) : Int)) (fun z => wkS B0 ns (cur ++ grB u z) j ((u / 128 ^ z : Nat) : Int)) (grN u) (by simp) (fun z hz => by
   have hg := of_decide_eq_true (skipN_all (fun j => decide (127 < u / 128 ^ j)) 10 0 z (by omega) hz)
   have := wki_round B0 ns (cur ++ grB u z) j ((u / 128 ^ z : Nat) : Int) (by omega) (by rw [List.length_append, grB_len]; omega) w0 hG
   rw [shr7 _ (hd z), nuV_eq _ (hd z), Nat.div_div_eq_div_mul, <- Nat.pow_succ, List.append_assoc] at this
   exact this) (wki_end _ _ _ _ _ (by
     have := of_decide_eq_false (skipN_hit (P := fun j => decide (127 < u / 128 ^ j)) (k := 10) (a := 0) (by show grN u < 0 + 10; omega))
     have : ¬ 127 < u / 128 ^ grN u := this
     omega) w0 hG)
 rw [show ((u / 128 ^ 0 : Nat) : Int) = (u : Int) by simp, show cur ++ grB u 0 = cur from List.append_nil _] at hl
 exact hl
theorem vb_last (u : Nat) (hu : u < 18446744073709551616) : IntKind.u8.wrap ((u / 128 ^ grN u : Nat) : Int) = ((u / 128 ^ grN u : Nat) : Int) := by
 have hlt := gr_lt u hu
 have := of_decide_eq_false (skipN_hit (P := fun j => decide (127 < u / 128 ^ j)) (k := 10) (a := 0) (by show grN u < 0 + 10; omega))
 have : ¬ 127 < u / 128 ^ grN u := this
 generalize u / 128 ^ grN u = q at this ⊢
 rw [IntKind.wrap_u8]; omega
theorem zgI_lt {n : Int} (hn : inI n = true) : zgN n < 18446744073709551616 := by
 have := of_decide_eq_true hn
 unfold zgN; split <;> omega
theorem wko_one (B0 ns cur : List Int) (j : Nat) (hj : j < ns.length) (hm : ns.length <= 1000000) (hi : inI ((ns[j]?).getD 0) = true) (hB : cur.length <= 700000000000) (w0 : S2.Base) (hG : GlobB enK13 w0) : SemA enK13 w0 0 2 34 (wkK wkP) (wkO B0 ns cur j) none { wkO B0 ns cur (j + 1) with own := ⟨[], [killE (byE B0), inE ns, a1b (cur ++ grB (zgN ((ns[j]?).getD 0)) (grN (zgN ((ns[j]?).getD 0)))) (IntKind.u8.wrap ((zgN ((ns[j]?).getD 0) / 128 ^ grN (zgN ((ns[j]?).getD 0)) : Nat) : Int))]⟩ } := by
 generalize hx : (ns[j]?).getD 0 = x at *
 have hz := zgI_lt hi
 have hlt := gr_lt (zgN x) hz
 have hlen : (cur ++ grB (zgN x) (grN (zgN x))).length <= 800000000000 := by rw [List.length_append, grB_len]; omega
 refine semA_iterP enK13_ok hG (fuel := 1000) (d := 30) (p := wkQ2) [⟨wkI, wkQ0, some (some 2), wkS B0 ns (cur ++ grB (zgN x) (grN (zgN x))) j ((zgN x / 128 ^ grN (zgN x) : Nat) : Int)⟩] [true] [(pre (inI ((j : Int) + 1)), true), (pre (decide ((cur ++ grB (zgN x) (grN (zgN x))).length + 1 <= maxLen /\ ((cur ++ grB (zgN x) (grN (zgN x))).length + 1) * 1 <= 140737488355328 /\ 0 < 1)), true), (pre (inI ((ns[j]?).getD 0)), true), (pre (decide (j < ns.length)), true), (pre (idxB (j : Int) ns.length), true), (decide ((j : Int) < (ns.length : Int)), true)] [⟨.loop (wkK (wkI ++ (0 :: wkP))), wkS B0 ns cur j (zgN ((ns[j]?).getD 0) : Nat), some (some 2), wkS B0 ns (cur ++ grB (zgN x) (grN (zgN x))) j ((zgN x / 128 ^ grN (zgN x) : Nat) : Int)⟩] (by kernel_rfl) (by kernel_rfl) ?_ (fun t ht => by
   obtain rfl := List.mem_singleton.mp ht
   show SemA enK13 w0 0 2 34 (.loop (wkK (wkI ++ (0 :: wkP)))) (wkS B0 ns cur j (zgN ((ns[j]?).getD 0) : Nat)) _ _
   rw [hx]
   exact wki_all B0 ns cur j (zgN x) hz (by omega) w0 hG)
 exact qA (ob_inI (by omega)) <| qA (ob_app (by omega) (by decide) (by decide)) <| qA (by rw [hx]; exact hi) <| qA (ob_lt hj) <| qA (ob_idx (by omega)) <| qA (ob_yes (by omega)) qZ
theorem vbs_snoc (N : List Int) (x : Int) : vbs (N ++ [x]) = vbs N ++ vbL (zgN x) := by
 unfold vbs
 rw [List.flatMap_append]
 simp
theorem take_snoc {ns : List Int} {j : Nat} (hj : j < ns.length) : ns.take (j + 1) = ns.take j ++ [(ns[j]?).getD 0] := by
 rw [List.take_add_one, List.getElem?_eq_getElem hj]; rfl
theorem vbs_take {ns : List Int} {j : Nat} (hj : j < ns.length) (B0 : List Int) : B0 ++ vbs (ns.take (j + 1)) = (B0 ++ vbs (ns.take j)) ++ vbL (zgN ((ns[j]?).getD 0)) := by
 rw [take_snoc hj, vbs_snoc, List.append_assoc]
theorem wko_round (B0 ns : List Int) (j : Nat) (hj : j < ns.length) (hm : ns.length <= 1000000) (hi : inI ((ns[j]?).getD 0) = true) (hB : (B0 ++ vbs (ns.take j)).length <= 700000000000) (w0 : S2.Base) (hG : GlobB enK13 w0) : SemA enK13 w0 0 2 34 (wkK wkP) (wkO B0 ns (B0 ++ vbs (ns.take j)) j) none (wkO B0 ns (B0 ++ vbs (ns.take (j + 1))) (j + 1)) :=
 (wko_one B0 ns (B0 ++ vbs (ns.take j)) j hj hm hi hB w0 hG).same rfl rfl ⟨.refl _, .refl _, by
   rw [vb_last _ (zgI_lt hi), vbs_take hj B0]
   show sameE _ (byE ((B0 ++ vbs (ns.take j)) ++ (grB (zgN ((ns[j]?).getD 0)) (grN (zgN ((ns[j]?).getD 0))) ++ [_])))
   rw [<- List.append_assoc]
   exact app1b _ _, trivial⟩ rfl
theorem wko_end (B0 ns cur : List Int) (w0 : S2.Base) (hG : GlobB enK13 w0) : SemA enK13 w0 0 2 34 (wkK wkP) (wkO B0 ns cur ns.length) (some (some 0)) (wkO B0 ns cur ns.length) :=
 semA_iter enK13_ok hG (p := wkQ3) (fuel := 1000) [false] [(decide ((ns.length : Int) < (ns.length : Int)), false)] (by kernel_rfl) (by kernel_rfl) (qA (ob_no (by omega)) qZ)
theorem vbs_len : ∀ (N : List Int), (∀ x ∈ N, inI x = true) -> (vbs N).length <= 11 * N.length
 | [], _ => by simp [vbs]
 | x :: r, h => by
   have h1 := (vbL_len (zgN x) (zgI_lt (h x List.mem_cons_self))).2
   have h2 := vbs_len r fun y hy => h y (List.mem_cons_of_mem _ hy)
   show (vbL (zgN x) ++ vbs r).length <= 11 * (r.length + 1)
   rw [List.length_append]; omega
theorem inI_get {ns : List Int} (hin : ∀ x ∈ ns, inI x = true) {j : Nat} (hj : j < ns.length) : inI ((ns[j]?).getD 0) = true := by
 rw [List.getElem?_eq_getElem hj]; exact hin _ (List.getElem_mem hj)
theorem wko_all (B0 ns : List Int) (hm : ns.length <= 1000000) (hin : ∀ x ∈ ns, inI x = true) (hB : B0.length <= 600000000000) (w0 : S2.Base) (hG : GlobB enK13 w0) : SemA enK13 w0 0 2 34 (.loop (wkK wkP)) (wkO B0 ns B0 0) (some (some 0)) (wkO B0 ns (B0 ++ vbs ns) ns.length) := by
 have hl := sem_loop (E := enK13) (w0 := w0) (nb := 0) (nl := 2) (n := 34) (c := (wkK wkP)) (x := some (some 0)) (s' := wkO B0 ns (B0 ++ vbs (ns.take ns.length)) ns.length) (fun z => wkO B0 ns (B0 ++ vbs (ns.take z)) z) ns.length (by simp) (fun z hz => wko_round B0 ns z hz hm (inI_get hin hz) (by
   have := vbs_len (ns.take z) fun x hx => hin x (List.mem_of_mem_take hx)
   rw [List.length_take] at this
   rw [List.length_append]; omega) w0 hG) (wko_end B0 ns _ w0 hG)
 rw [List.take_length, show B0 ++ vbs (ns.take 0) = B0 from List.append_nil _] at hl
 exact hl
def wkP0 : Pick := { ts := [0, 8, 9, 10], bs := [], ls := [0, 1, 2], opn := [10], mv := [0] }
theorem wr_sem (B0 ns : List Int) (hm : ns.length <= 1000000) (hin : ∀ x ∈ ns, inI x = true) (hB : B0.length <= 600000000000) : SemF Try.prog (fun _ => none) 20 [.c 0, .c 1] ⟨[], [byE B0, inE ns]⟩ (.c 2) ⟨[], [killE (byE B0), inE ns, byE (B0 ++ vbs ns)]⟩ :=
 fnS_ok (E := enK13) enK13_ok rfl (fuel := 1000) (d := 30) (plan := [⟨wkP, wkP0, some (some 0), wkO B0 ns (B0 ++ vbs ns) ns.length⟩]) (orc := []) (l := []) (tr := [⟨.loop (wkK wkP), wkO B0 ns B0 0, some (some 0), wkO B0 ns (B0 ++ vbs ns) ns.length⟩]) (by kernel_rfl) (by kernel_rfl) qZ Try.func20 fun w0 hG t ht => by
   obtain rfl := List.mem_singleton.mp ht
   exact wko_all B0 ns hm hin hB w0 hG
def wnL (B0 ns cur : List Int) : List LE := [inE ns, byE cur]
def wnO (B0 ns cur : List Int) (j : Nat) : S2.St := { tmps := [(0, .c 1), (8, .c 0), (9, .inl ([true], .int .i64 ns.length)), (10, .inl ([true], .int .i64 j))], own := ⟨[], wnL B0 ns cur⟩, lo := 0, llo := 0, mem := true, orc := [], obl := [] }
def wnS (B0 ns cur : List Int) (j : Nat) (u : Int) : S2.St := { tmps := [(0, .c 1), (8, .c 0), (9, .inl ([true], .int .i64 ns.length)), (10, .inl ([true], .int .i64 j)), (7, .inl ([true], .int .u64 u))], own := ⟨[], wnL B0 ns cur⟩, lo := 0, llo := 0, mem := true, orc := [], obl := [] }
def wnQ1 : Pick := { ts := [0, 8, 9, 10, 7], bs := [], ls := [0, 3], opn := [7] }
def wnQ0 : Pick := { ts := [0, 8, 9, 10, 7], bs := [], ls := [0, 1], opn := [7] }
def wnQ2 : Pick := { ts := [0, 8, 9, 10], bs := [], ls := [0, 3], opn := [10] }
def wnQ3 : Pick := { ts := [0, 8, 9, 10], bs := [], ls := [0, 1], opn := [10] }
theorem wni_one (B0 ns cur : List Int) (j : Nat) (u : Int) (hu : u >= 128) (hB : cur.length <= 900000000000) (w0 : S2.Base) (hG : GlobB enK13 w0) : SemA enK13 w0 0 1 34 (wkK (wkI ++ (0 :: wkP))) (wnS B0 ns cur j u) none { wnS B0 ns cur j (arZ .shr .u64 u 7) with own := ⟨[], [inE ns, a1b cur (nuV u)]⟩ } := by
 refine semA_iter enK13_ok hG (p := wnQ1) (fuel := 1000) [true] [(pre (decide (cur.length + 1 <= maxLen /\ (cur.length + 1) * 1 <= 140737488355328 /\ 0 < 1)), true), (decide (u >= 128), true)] (by kernel_rfl) (by kernel_rfl) ?_
 exact qA (ob_app (by omega) (by decide) (by decide)) <| qA (ob_yes hu) qZ
theorem wni_round (B0 ns cur : List Int) (j : Nat) (u : Int) (hu : u >= 128) (hB : cur.length <= 900000000000) (w0 : S2.Base) (hG : GlobB enK13 w0) : SemA enK13 w0 0 1 34 (wkK (wkI ++ (0 :: wkP))) (wnS B0 ns cur j u) none (wnS B0 ns (cur ++ [nuV u]) j (arZ .shr .u64 u 7)) :=
 (wni_one B0 ns cur j u hu hB w0 hG).same rfl rfl ⟨.refl _, app1b cur (nuV u), trivial⟩ rfl
theorem wni_end (B0 ns cur : List Int) (j : Nat) (u : Int) (hu : ¬ u >= 128) (w0 : S2.Base) (hG : GlobB enK13 w0) : SemA enK13 w0 0 1 34 (wkK (wkI ++ (0 :: wkP))) (wnS B0 ns cur j u) (some (some 2)) (wnS B0 ns cur j u) :=
 semA_iter enK13_ok hG (p := wnQ0) (fuel := 1000) [false] [(decide (u >= 128), false)] (by kernel_rfl) (by kernel_rfl) (qA (ob_no hu) qZ)
theorem wni_all (B0 ns cur : List Int) (j : Nat) (u : Nat) (hu : u < 18446744073709551616) (hB : cur.length <= 800000000000) (w0 : S2.Base) (hG : GlobB enK13 w0) : SemA enK13 w0 0 1 34 (.loop (wkK (wkI ++ (0 :: wkP)))) (wnS B0 ns cur j u) (some (some 2)) (wnS B0 ns (cur ++ grB u (grN u)) j ((u / 128 ^ grN u : Nat) : Int)) := by
 have hlt := gr_lt u hu
 have hd : ∀ j, u / 128 ^ j < 18446744073709551616 := fun j => Nat.lt_of_le_of_lt (Nat.div_le_self _ _) hu
 have hl := sem_loop (E := enK13) (w0 := w0) (nb := 0) (nl := 1) (n := 34) (c := (wkK (wkI ++ (0 :: wkP)))) (x := some (some 2)) (s' := wnS B0 ns (cur ++ grB u (grN u)) j ((u / 128 ^ grN u : Nat) : Int)) (fun z => wnS B0 ns (cur ++ grB u z) j ((u / 128 ^ z : Nat) : Int)) (grN u) (by simp) (fun z hz => by
   have hg := of_decide_eq_true (skipN_all (fun j => decide (127 < u / 128 ^ j)) 10 0 z (by omega) hz)
   have := wni_round B0 ns (cur ++ grB u z) j ((u / 128 ^ z : Nat) : Int) (by omega) (by rw [List.length_append, grB_len]; omega) w0 hG
   rw [shr7 _ (hd z), nuV_eq _ (hd z), Nat.div_div_eq_div_mul, <- Nat.pow_succ, List.append_assoc] at this
   exact this) (wni_end _ _ _ _ _ (by
     have := of_decide_eq_false (skipN_hit (P := fun j => decide (127 < u / 128 ^ j)) (k := 10) (a := 0) (by show grN u < 0 + 10; omega))
     have : ¬ 127 < u / 128 ^ grN u := this
     omega) w0 hG)
 rw [show ((u / 128 ^ 0 : Nat) : Int) = (u : Int) by simp, show cur ++ grB u 0 = cur from List.append_nil _] at hl
 exact hl
theorem wno_one (B0 ns cur : List Int) (j : Nat) (hj : j < ns.length) (hm : ns.length <= 1000000) (hi : inI ((ns[j]?).getD 0) = true) (hB : cur.length <= 700000000000) (w0 : S2.Base) (hG : GlobB enK13 w0) : SemA enK13 w0 0 1 34 (wkK wkP) (wnO B0 ns cur j) none { wnO B0 ns cur (j + 1) with own := ⟨[], [inE ns, a1b (cur ++ grB (zgN ((ns[j]?).getD 0)) (grN (zgN ((ns[j]?).getD 0)))) (IntKind.u8.wrap ((zgN ((ns[j]?).getD 0) / 128 ^ grN (zgN ((ns[j]?).getD 0)) : Nat) : Int))]⟩ } := by
 generalize hx : (ns[j]?).getD 0 = x at *
 have hz := zgI_lt hi
 have hlt := gr_lt (zgN x) hz
 have hlen : (cur ++ grB (zgN x) (grN (zgN x))).length <= 800000000000 := by rw [List.length_append, grB_len]; omega
 refine semA_iterP enK13_ok hG (fuel := 1000) (d := 30) (p := wnQ2) [⟨wkI, wnQ0, some (some 2), wnS B0 ns (cur ++ grB (zgN x) (grN (zgN x))) j ((zgN x / 128 ^ grN (zgN x) : Nat) : Int)⟩] [true] [(pre (inI ((j : Int) + 1)), true), (pre (decide ((cur ++ grB (zgN x) (grN (zgN x))).length + 1 <= maxLen /\ ((cur ++ grB (zgN x) (grN (zgN x))).length + 1) * 1 <= 140737488355328 /\ 0 < 1)), true), (pre (inI ((ns[j]?).getD 0)), true), (pre (decide (j < ns.length)), true), (pre (idxB (j : Int) ns.length), true), (decide ((j : Int) < (ns.length : Int)), true)] [⟨.loop (wkK (wkI ++ (0 :: wkP))), wnS B0 ns cur j (zgN ((ns[j]?).getD 0) : Nat), some (some 2), wnS B0 ns (cur ++ grB (zgN x) (grN (zgN x))) j ((zgN x / 128 ^ grN (zgN x) : Nat) : Int)⟩] (by kernel_rfl) (by kernel_rfl) ?_ (fun t ht => by
   obtain rfl := List.mem_singleton.mp ht
   show SemA enK13 w0 0 1 34 (.loop (wkK (wkI ++ (0 :: wkP)))) (wnS B0 ns cur j (zgN ((ns[j]?).getD 0) : Nat)) _ _
   rw [hx]
   exact wni_all B0 ns cur j (zgN x) hz (by omega) w0 hG)
 exact qA (ob_inI (by omega)) <| qA (ob_app (by omega) (by decide) (by decide)) <| qA (by rw [hx]; exact hi) <| qA (ob_lt hj) <| qA (ob_idx (by omega)) <| qA (ob_yes (by omega)) qZ
theorem wno_round (B0 ns : List Int) (j : Nat) (hj : j < ns.length) (hm : ns.length <= 1000000) (hi : inI ((ns[j]?).getD 0) = true) (hB : (B0 ++ vbs (ns.take j)).length <= 700000000000) (w0 : S2.Base) (hG : GlobB enK13 w0) : SemA enK13 w0 0 1 34 (wkK wkP) (wnO B0 ns (B0 ++ vbs (ns.take j)) j) none (wnO B0 ns (B0 ++ vbs (ns.take (j + 1))) (j + 1)) :=
 (wno_one B0 ns (B0 ++ vbs (ns.take j)) j hj hm hi hB w0 hG).same rfl rfl ⟨.refl _, by
   rw [vb_last _ (zgI_lt hi), vbs_take hj B0]
   show sameE _ (byE ((B0 ++ vbs (ns.take j)) ++ (grB (zgN ((ns[j]?).getD 0)) (grN (zgN ((ns[j]?).getD 0))) ++ [_])))
   rw [<- List.append_assoc]
   exact app1b _ _, trivial⟩ rfl
theorem wno_end (B0 ns cur : List Int) (w0 : S2.Base) (hG : GlobB enK13 w0) : SemA enK13 w0 0 1 34 (wkK wkP) (wnO B0 ns cur ns.length) (some (some 0)) (wnO B0 ns cur ns.length) :=
 semA_iter enK13_ok hG (p := wnQ3) (fuel := 1000) [false] [(decide ((ns.length : Int) < (ns.length : Int)), false)] (by kernel_rfl) (by kernel_rfl) (qA (ob_no (by omega)) qZ)
theorem wno_all (B0 ns : List Int) (hm : ns.length <= 1000000) (hin : ∀ x ∈ ns, inI x = true) (hB : B0.length <= 600000000000) (w0 : S2.Base) (hG : GlobB enK13 w0) : SemA enK13 w0 0 1 34 (.loop (wkK wkP)) (wnO B0 ns B0 0) (some (some 0)) (wnO B0 ns (B0 ++ vbs ns) ns.length) := by
 have hl := sem_loop (E := enK13) (w0 := w0) (nb := 0) (nl := 1) (n := 34) (c := (wkK wkP)) (x := some (some 0)) (s' := wnO B0 ns (B0 ++ vbs (ns.take ns.length)) ns.length) (fun z => wnO B0 ns (B0 ++ vbs (ns.take z)) z) ns.length (by simp) (fun z hz => wno_round B0 ns z hz hm (inI_get hin hz) (by
   have := vbs_len (ns.take z) fun x hx => hin x (List.mem_of_mem_take hx)
   rw [List.length_take] at this
   rw [List.length_append]; omega) w0 hG) (wno_end B0 ns _ w0 hG)
 rw [List.take_length, show B0 ++ vbs (ns.take 0) = B0 from List.append_nil _] at hl
 exact hl
def wnP0 : Pick := { ts := [0, 8, 9, 10], bs := [], ls := [0, 1], opn := [10], nil := [(0, 5, 1, (byE []).el)] }
theorem wn_sem (ns : List Int) (hm : ns.length <= 1000000) (hin : ∀ x ∈ ns, inI x = true) : SemF Try.prog (fun _ => none) 20 [.inl ([], .slice none 0 0), .c 0] ⟨[], [inE ns]⟩ (.c 1) ⟨[], [inE ns, byE (vbs ns)]⟩ :=
 fnS_ok (E := enK13) enK13_ok rfl (fuel := 1000) (d := 30) (plan := [⟨wkP, wnP0, some (some 0), wnO [] ns ([] ++ vbs ns) ns.length⟩]) (orc := []) (l := []) (tr := [⟨.loop (wkK wkP), wnO [] ns [] 0, some (some 0), wnO [] ns ([] ++ vbs ns) ns.length⟩]) (by kernel_rfl) (by kernel_rfl) qZ Try.func20 fun w0 hG t ht => by
   obtain rfl := List.mem_singleton.mp ht
   exact wno_all [] ns hm hin (by decide) w0 hG
end Go.Proofs.Ytmaffamhjmlonaa
