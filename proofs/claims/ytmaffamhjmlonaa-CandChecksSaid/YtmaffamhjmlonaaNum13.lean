/- Layer 13: the reference: Number. -/
import Derived.Test.YtmaffamhjmlonaaK09
set_option linter.unusedVariables false
set_option linter.unusedSimpArgs false
namespace Go.Proofs.Ytmaffamhjmlonaa
open Go.RowKit Sim S2
def byE (B : List Int) : LE := ⟨5, 1, B.length, fun j => [.int .u8 ((B[j]?).getD 0)], true, false, true⟩
theorem joinB_app {n : Nat} {f g h : Nat -> List Value} {m : Nat} (h1 : ∀ i, i < n -> f i = h i) (h2 : ∀ i, i < m -> g i = h (n + i)) : ∀ i, i < n + m -> joinE n f g i = h i := fun i hi => by
 unfold joinE
 cases hb : Nat.blt i n
 . have hx : ¬ i < n := fun hc => by rw [<- Nat.blt_eq, hb] at hc; cases hc
   show g (i - n) = h i
   rw [h2 (i - n) (by omega)]
   congr 1; omega
 . exact h1 i (by simpa [Nat.blt_eq] using hb)
def a1b (B : List Int) (x : Int) : LE := ⟨5, 1, B.length + 1, joinE B.length (byE B).el (tabE [[.int .u8 x]]), true, false, true⟩
theorem app1b (B : List Int) (x : Int) : sameE (a1b B x) (byE (B ++ [x])) := ⟨rfl, rfl, by simp [a1b, byE], rfl, rfl, joinB_app (fun i hi => by
   show [Value.int .u8 ((B[i]?).getD 0)] = [Value.int .u8 (((B ++ [x])[i]?).getD 0)]
   rw [List.getElem?_append_left hi]) (fun i hi => by
   obtain rfl : i = 0 := Nat.lt_one_iff.mp hi
   show [Value.int .u8 x] = [Value.int .u8 (((B ++ [x])[B.length + 0]?).getD 0)]
   simp)⟩
theorem LRet.sameN1 {P : Program} {f : FuncId} {vals : List Value} {e e' : LE} {w : World} (h : LRet P f vals false [.inr e] w) (hs : sameE e e') : LRet P f vals false [.inr e'] w := h.mono fun r w' ⟨vs, h1, h2, h3⟩ => by
 obtain ⟨u, rfl, h4⟩ := outOk_l h2
 exact ⟨[u], h1, outOk_one (h4.same hs), h3⟩
def nuP : List Nat := [0, 0, 1, 1, 1, 1]
noncomputable def nuC : Code := codeAt (codeOf Try.prog 31) (0 :: nuP)
def nuS (u : Int) (B : List Int) : S2.St := { tmps := [(3, .inl ([true], .int .u64 u)), (4, .c 0)], own := ⟨[], [byE B]⟩, lo := 0, llo := 0, mem := true, orc := [], obl := [] }
noncomputable def enU : S2.Env := { envk Try.prog (fun _ => none) false noT noP noL with lit := true }
theorem enU_ok : CallOk enU := envk_ok (nw := false) (.none _ _) (.none _ _) (.none _ _)
def nuQ0 : Pick := { ts := [3, 4], bs := [], ls := [0], opn := [3], nil := [(4, 5, 1, (byE []).el)] }
def nuQ : Pick := { ts := [3, 4], bs := [], ls := [2], opn := [3] }
def nuQ1 : Pick := { ts := [3, 4], bs := [], ls := [0], opn := [3] }
noncomputable def nuV (u : Int) : Int := IntKind.u8.wrap (arZ .add .u64 (arZ .rem .u64 u 128) 128)
noncomputable def nuS1 (u : Int) (B : List Int) : S2.St := { tmps := [(3, .inl ([true], .int .u64 (arZ .quo .u64 u 128))), (4, .c 0)], own := ⟨[], [a1b B (nuV u)]⟩, lo := 0, llo := 0, mem := true, orc := [], obl := [] }
theorem nu_one (u : Int) (B : List Int) (hu : u > 127) (hB : B.length <= 1000000) (w : World) : S2.Sem enU w 32 nuC (nuS u B) none (nuS1 u B) := by
 refine sem_iter enU_ok (GlobOk.none w) (p := nuQ) (fuel := 1000) [true] [(pre (decide (B.length + 1 <= maxLen /\ (B.length + 1) * 1 <= 140737488355328 /\ 0 < 1)), true), (decide (u > 127), true)] (by kernel_rfl) (by kernel_rfl) ?_
 exact qA (ob_app (by omega) (by decide) (by decide)) <| qA (ob_yes hu) qZ
theorem nu_round (u : Int) (B : List Int) (hu : u > 127) (hB : B.length <= 1000000) (w : World) : S2.Sem enU w 32 nuC (nuS u B) none (nuS (arZ .quo .u64 u 128) (B ++ [nuV u])) :=
 (nu_one u B hu hB w).same rfl rfl ⟨app1b B (nuV u), trivial⟩ rfl
theorem nu_end (u : Int) (B : List Int) (hu : ¬ u > 127) (w : World) : S2.Sem enU w 32 nuC (nuS u B) (some (some 0)) (nuS u B) :=
 sem_iter enU_ok (GlobOk.none w) (p := nuQ1) (fuel := 1000) [false] [(decide (u > 127), false)] (by kernel_rfl) (by kernel_rfl) (qA (ob_no hu) qZ)
theorem quo_eq (u : Nat) (hu : u < 18446744073709551616) : arZ .quo .u64 (u : Int) 128 = ((u / 128 : Nat) : Int) := by
 rw [arZ_eq]
 show IntKind.u64.wrap ((u : Int).tdiv 128) = _
 rw [IntKind.wrap_u64, Int.tdiv_eq_ediv_of_nonneg (by omega)]; omega
theorem nuV_eq (u : Nat) (hu : u < 18446744073709551616) : nuV u = ((u % 128 + 128 : Nat) : Int) := by
 unfold nuV
 rw [arZ_eq, arZ_eq]
 simp only [arF]
 rw [IntKind.wrap_u64, IntKind.wrap_u8, Int.tmod_eq_emod_of_nonneg (by omega)]; omega
def grN (u : Nat) : Nat := skipN (fun j => decide (127 < u / 128 ^ j)) 10 0
def grB (u : Nat) : Nat -> List Int
 | 0 => []
 | j + 1 => grB u j ++ [((u / 128 ^ j % 128 + 128 : Nat) : Int)]
theorem grB_len (u : Nat) : ∀ j, (grB u j).length = j
 | 0 => rfl
 | j + 1 => by show (grB u j ++ [_]).length = j + 1; rw [List.length_append, grB_len u j]; rfl
def vbL (u : Nat) : List Int := grB u (grN u) ++ [((u / 128 ^ grN u : Nat) : Int)]
theorem gr_lt (u : Nat) (hu : u < 18446744073709551616) : grN u < 10 := by
 have h1 := skipN_le (fun j => decide (127 < u / 128 ^ j)) 10 0
 have h2 := skipN_all (fun j => decide (127 < u / 128 ^ j)) 10 0 9 (by omega)
 unfold grN
 rcases Nat.lt_or_ge (skipN (fun j => decide (127 < u / 128 ^ j)) 10 0) 10 with h | h
 . exact h
 . have := of_decide_eq_true (h2 (by omega))
   rw [show (128 ^ 9 : Nat) = 9223372036854775808 by decide] at this
   omega
theorem nu_all (u : Nat) (hu : u < 18446744073709551616) (w : World) : S2.Sem enU w 32 (.loop nuC) (nuS u []) (some (some 0)) (nuS ((u / 128 ^ grN u : Nat) : Int) (grB u (grN u))) := by
 have hlt := gr_lt u hu
 have hd : ∀ j, u / 128 ^ j < 18446744073709551616 := fun j => Nat.lt_of_le_of_lt (Nat.div_le_self _ _) hu
 have hl := sem_loop (E := enU) (w0 := base0 w) (nb := 0) (nl := 0) (n := 32) (c := nuC) (x := some (some 0)) (s' := nuS ((u / 128 ^ grN u : Nat) : Int) (grB u (grN u))) (fun j => nuS ((u / 128 ^ j : Nat) : Int) (grB u j)) (grN u) (by simp) (fun j hj => by
   have hg := of_decide_eq_true (skipN_all (fun j => decide (127 < u / 128 ^ j)) 10 0 j (by omega) hj)
   have := nu_round ((u / 128 ^ j : Nat) : Int) (grB u j) (by omega) (by rw [grB_len]; omega) w
   rw [quo_eq _ (hd j), nuV_eq _ (hd j), Nat.div_div_eq_div_mul, <- Nat.pow_succ] at this
   exact this) (nu_end _ _ (by
     have := of_decide_eq_false (skipN_hit (P := fun j => decide (127 < u / 128 ^ j)) (k := 10) (a := 0) (by show grN u < 0 + 10; omega))
     have : ¬ 127 < u / 128 ^ grN u := this
     omega) w)
 rw [show ((u / 128 ^ 0 : Nat) : Int) = (u : Int) by simp] at hl
 exact hl
def zgN (n : Int) : Nat := if n < 0 then (2 * (-(n + 1)) + 1).toNat else (2 * n).toNat
theorem number_ret (n : Int) (hn : -9223372036854775808 <= n /\ n <= 9223372036854775807) (w : World) (vals : List Value) (ha : ArgsOk w [.inl (.int .i64 n)] vals) : LRet Try.prog 31 vals false [.inr (byE (vbL (zgN n)))] w := by
 have hz : zgN n < 18446744073709551616 := by unfold zgN; split <;> omega
 have hlt := gr_lt (zgN n) hz
 have hlast : IntKind.u8.wrap ((zgN n / 128 ^ grN (zgN n) : Nat) : Int) = ((zgN n / 128 ^ grN (zgN n) : Nat) : Int) := by
   have := of_decide_eq_false (skipN_hit (P := fun j => decide (127 < zgN n / 128 ^ j)) (k := 10) (a := 0) (by show grN (zgN n) < 0 + 10; omega))
   have : ¬ 127 < zgN n / 128 ^ grN (zgN n) := this
   generalize zgN n / 128 ^ grN (zgN n) = q at this ⊢
   rw [IntKind.wrap_u8]; omega
 have hout : sameE (a1b (grB (zgN n) (grN (zgN n))) (IntKind.u8.wrap ((zgN n / 128 ^ grN (zgN n) : Nat) : Int))) (byE (vbL (zgN n))) := by
   rw [hlast]; exact app1b _ _
 refine LRet.sameN1 ?_ hout
 by_cases h : n < 0
 . have hz2 : (arZ .add .u64 (arZ .mul .u64 2 (IntKind.u64.wrap (IntKind.i64.wrap (0 - arZ .add .i64 n 1)))) 1) = (zgN n : Int) := by
     rw [arZ_eq, arZ_eq, arZ_eq]
     show IntKind.u64.wrap (IntKind.u64.wrap (2 * IntKind.u64.wrap (IntKind.i64.wrap (0 - IntKind.i64.wrap (n + 1)))) + 1) = _
     rw [IntKind.wrap_u64, IntKind.wrap_u64, IntKind.wrap_u64, IntKind.wrap_i64, IntKind.wrap_i64]
     unfold zgN; rw [if_pos h]; omega
   refine fn_ok enU_ok (fuel := 1000) (d := 30) (plan := [⟨nuP, nuQ0, some (some 0), nuS ((zgN n / 128 ^ grN (zgN n) : Nat) : Int) (grB (zgN n) (grN (zgN n)))⟩]) (orc := [true]) (fls := [[true]]) (l := [(pre (decide ((grB (zgN n) (grN (zgN n))).length + 1 <= maxLen /\ ((grB (zgN n) (grN (zgN n))).length + 1) * 1 <= 140737488355328 /\ 0 < 1)), true), (decide (n < 0), true)]) (tr := [⟨.loop nuC, nuS (arZ .add .u64 (arZ .mul .u64 2 (IntKind.u64.wrap (IntKind.i64.wrap (0 - arZ .add .i64 n 1)))) 1) [], some (some 0), nuS ((zgN n / 128 ^ grN (zgN n) : Nat) : Int) (grB (zgN n) (grN (zgN n)))⟩]) (by kernel_rfl) ?_ Try.func31 w vals (GlobOk.none w) ha fun t ht => ?_
   . exact qA (ob_app (by rw [grB_len]; omega) (by decide) (by decide)) <| qA (ob_yes h) qZ
   . obtain rfl := List.mem_singleton.mp ht
     show S2.Sem enU w 32 (.loop nuC) (nuS _ []) _ _
     rw [hz2]
     exact nu_all (zgN n) hz w
 . have hz2 : (arZ .mul .u64 2 (IntKind.u64.wrap n)) = (zgN n : Int) := by
     rw [arZ_eq]
     show IntKind.u64.wrap (2 * IntKind.u64.wrap n) = _
     rw [IntKind.wrap_u64, IntKind.wrap_u64]
     unfold zgN; rw [if_neg h]; omega
   refine fn_ok enU_ok (fuel := 1000) (d := 30) (plan := [⟨nuP, nuQ0, some (some 0), nuS ((zgN n / 128 ^ grN (zgN n) : Nat) : Int) (grB (zgN n) (grN (zgN n)))⟩]) (orc := [false]) (fls := [[true]]) (l := [(pre (decide ((grB (zgN n) (grN (zgN n))).length + 1 <= maxLen /\ ((grB (zgN n) (grN (zgN n))).length + 1) * 1 <= 140737488355328 /\ 0 < 1)), true), (decide (n < 0), false)]) (tr := [⟨.loop nuC, nuS (arZ .mul .u64 2 (IntKind.u64.wrap n)) [], some (some 0), nuS ((zgN n / 128 ^ grN (zgN n) : Nat) : Int) (grB (zgN n) (grN (zgN n)))⟩]) (by kernel_rfl) ?_ Try.func31 w vals (GlobOk.none w) ha fun t ht => ?_
   . exact qA (ob_app (by rw [grB_len]; omega) (by decide) (by decide)) <| qA (ob_no h) qZ
   . obtain rfl := List.mem_singleton.mp ht
     show S2.Sem enU w 32 (.loop nuC) (nuS _ []) _ _
     rw [hz2]
     exact nu_all (zgN n) hz w
noncomputable def lNum : LTab := lrow 31 fun args => match args with
 | [.inl (.int .i64 n)] => some (false, [.inr (byE (vbL (zgN n)))], pre (inI n))
 | _ => none
theorem lNum_ok {gl : Gl} : LTabOk Try.prog gl lNum := .row fun args tup res h w vals hG ha => by
 split at h
 . rename_i n
   simp only [qS, qP] at h
   obtain ⟨rfl, rfl, hp⟩ := h
   have hp : inI n = true := hp
   have h2 := of_decide_eq_true hp
   exact number_ret n h2 w vals ha
 . cases h
end Go.Proofs.Ytmaffamhjmlonaa
