/- Layer 13: package cand: the reader's lists of references and of records. -/
import Derived.Test.YtmaffamhjmlonaaK15
set_option linter.unusedVariables false
set_option linter.unusedSimpArgs false
namespace Go.Proofs.Ytmaffamhjmlonaa
open Go.RowKit Sim S2
def roE (L : List Rf) : LE := ⟨46, 2, L.length, fun j => rfC ((L[j]?).getD ⟨0, 0⟩), true, false, true⟩
def coE (L : List Rc) : LE := ⟨48, 6, L.length, fun j => rcC ((L[j]?).getD ⟨0, 0, 0, 0, false, false⟩), true, false, true⟩
noncomputable def stF {α : Type} (next : List Int -> Bool -> α × List Int × Bool) (B : List Int) (b : Bool) : Nat -> List α × List Int × Bool
 | 0 => ([], B, b)
 | j + 1 => ((stF next B b j).1 ++ [(next (stF next B b j).2.1 (stF next B b j).2.2).1], (next (stF next B b j).2.1 (stF next B b j).2.2).2)
noncomputable def wrN {α : Type} (next : List Int -> Bool -> α × List Int × Bool) (B : List Int) (b : Bool) (N : Nat) : Nat := skipN (fun j => !(stF next B b j).2.2) N 0
noncomputable def ltF {α : Type} (next : List Int -> Bool -> α × List Int × Bool) (most : Int) (B : List Int) (b : Bool) : List α × List Int × Bool :=
 let n := numO B b; let w := n.2.2 || decide (n.1 > most)
 if wrN next n.2.1 w n.1.toNat = n.1.toNat then stF next n.2.1 w n.1.toNat else ([], (stF next n.2.1 w (wrN next n.2.1 w n.1.toNat)).2.1, true)
def liP : List Nat := [0, 1, 0, 1, 1, 1, 1]
def fnR (f : FuncId) : S2.SV := .fn f [.a 0 0] []
def laT (f : FuncId) (n : Int) (j : Nat) : List (Nat × S2.SV) := [(0, .inr (0, 0, none)), (2, fnR f), (8, .c 2), (23, .inl ([true], .int .i64 n)), (24, .inl ([true], .int .i64 j))]
def laQ (ls : List Nat) : Pick := { ts := [0, 2, 8, 23, 24], bs := [0], ls := ls, opn := [24] }
noncomputable def eNX : ETab := orE eNum (orE eRef eRec)
theorem eNX_ok {gl : Gl} : EffOk Try.prog gl eNX := eNum_ok.or (eRef_ok.or eRec_ok)
def laS (f : FuncId) (B0 B : List Int) (b : Bool) (e : LE) (n : Int) (j : Nat) : S2.St := { tmps := laT f n j, own := ⟨[rdK 1 b], [rsE B0, rsE B, e]⟩, lo := 0, llo := 0, mem := true, orc := [], obl := [] }
theorem stF_less {α : Type} {next : List Int -> Bool -> α × List Int × Bool} (hn : ∀ B b, (next B b).2.1.length <= B.length) (B : List Int) (b : Bool) : ∀ j, (stF next B b j).2.1.length <= B.length
 | 0 => Nat.le_refl _
 | j + 1 => Nat.le_trans (hn _ _) (stF_less hn B b j)
theorem stF_len {α : Type} {next : List Int -> Bool -> α × List Int × Bool} (B : List Int) (b : Bool) : ∀ j, (stF next B b j).1.length = j
 | 0 => rfl
 | j + 1 => by
   show ((stF next B b j).1 ++ [_]).length = j + 1
   rw [List.length_append, stF_len B b j]; rfl
theorem ltF_less {α : Type} {next : List Int -> Bool -> α × List Int × Bool} (hn : ∀ B b, (next B b).2.1.length <= B.length) (most : Int) (B : List Int) (b : Bool) : (ltF next most B b).2.1.length <= B.length := by
 unfold ltF
 simp only
 split
 . exact Nat.le_trans (stF_less hn _ _ _) (num_less B b)
 . exact Nat.le_trans (stF_less hn _ _ _) (num_less B b)
theorem wrap_in (x : Int) : inI (IntKind.i64.wrap x) = true := decide_eq_true (by rw [IntKind.wrap_i64]; omega)
theorem unzZ_in (z : Int) : inI (unzZ z) = true := by
 rw [unzZ_eq]
 cases h : (arZ .rem .u64 z 2 == 1)
 . exact wrap_in _
 . show inI (arZ .sub .i64 (IntKind.i64.wrap (0 - IntKind.i64.wrap (arZ .quo .u64 z 2))) 1) = true
   rw [arZ_eq]
   exact wrap_in _
theorem num_in (B : List Int) (b : Bool) : inI (numO B b).1 = true := by
 rw [numO_eq]
 unfold numF
 split
 . exact unzZ_in _
 . rfl
theorem joinE_snoc {n : Nat} {f g : Nat -> List Value} {x : List Value} (h1 : ∀ i, i < n -> f i = g i) (h2 : x = g n) : ∀ i, i < n + 1 -> joinE n f (tabE [x]) i = g i := fun i hi => by
 unfold joinE
 cases hb : Nat.blt i n
 . have : i = n := by
     have : ¬ i < n := fun hc => by rw [<- Nat.blt_eq, hb] at hc; cases hc
     omega
   subst this
   show tabE [x] (i - i) = g i
   rw [Nat.sub_self]; exact h2
 . exact h1 i (by simpa [Nat.blt_eq] using hb)
noncomputable def laK : Code := codeAt (codeOf Try.prog 50) (0 :: liP)
theorem la_one (B0 B : List Int) (L : List Rf) (n : Int) (j : Nat) (hj : (j : Int) < n) (hn : n <= 10000) (hB : B.length <= 1000000000000) (hL : L.length <= 10000) (w0 : S2.Base) (hG : GlobB (enH13 eNX) w0) : SemA (enH13 eNX) w0 1 1 37 laK (laS 51 B0 B false (roE L) n j) none { laS 51 B0 (refO (bysL (rsE B)) false).2.1 (refO (bysL (rsE B)) false).2.2 (roE L) n (j + 1) with own := ⟨[rdK 1 (refO (bysL (rsE B)) false).2.2], [rsE B0, rsE (refO (bysL (rsE B)) false).2.1, ⟨46, 2, L.length + 1, joinE L.length (roE L).el (tabE [rfC (refO (bysL (rsE B)) false).1]), true, false, true⟩]⟩ } := by
 refine semA_iter (enH13_ok eNX_ok) hG (p := laQ [0, 4, 5]) (fuel := 1000) [true, false] [(pre (inI ((j : Int) + 1)), true), (pre (decide (L.length + 1 <= maxLen /\ (L.length + 1) * 16 <= 140737488355328 /\ 0 < 1)), true), (pre (propB (isRest (rsE B))), true), (false, false), (decide ((j : Int) < n), true)] (by kernel_rfl) (by kernel_rfl) ?_
 exact qA (ob_inI (by omega)) <| qA (by unfold pre maxLen; exact decide_eq_true (by omega)) <| qA (propB_ok.mpr (isRest_rs hB)) <| qA rfl <| qA (ob_yes hj) qZ
theorem la_step (B0 B : List Int) (L : List Rf) (n : Int) (j : Nat) (hj : (j : Int) < n) (hn : n <= 10000) (hB : B.length <= 1000000000000) (hL : L.length <= 10000) (w0 : S2.Base) (hG : GlobB (enH13 eNX) w0) : SemA (enH13 eNX) w0 1 1 37 laK (laS 51 B0 B false (roE L) n j) none (laS 51 B0 (refO B false).2.1 (refO B false).2.2 (roE (L ++ [(refO B false).1])) n (j + 1)) := by
 have h := la_one B0 B L n j hj hn hB hL w0 hG
 rw [bysL_rs] at h
 refine h.same rfl rfl ⟨.refl _, .refl _, ⟨rfl, rfl, by show L.length + 1 = (L ++ [_]).length; simp, rfl, rfl, joinE_snoc (g := (roE (L ++ [(refO B false).1])).el) (fun i hi => ?_) ?_⟩, trivial⟩ rfl
 . show rfC ((L[i]?).getD ⟨0, 0⟩) = rfC (((L ++ [_])[i]?).getD ⟨0, 0⟩)
   rw [List.getElem?_append_left hi]
 . show _ = rfC (((L ++ [(refO B false).1])[L.length]?).getD ⟨0, 0⟩)
   simp
theorem la_end (B0 B : List Int) (b : Bool) (L : List Rf) (n : Int) (j : Nat) (hj : ¬ (j : Int) < n) (w0 : S2.Base) (hG : GlobB (enH13 eNX) w0) : SemA (enH13 eNX) w0 1 1 37 laK (laS 51 B0 B b (roE L) n j) (some (some 0)) (laS 51 B0 B b (roE L) n j) :=
 semA_iter (enH13_ok eNX_ok) hG (p := laQ [0, 1, 2]) (fuel := 1000) [false] [(decide ((j : Int) < n), false)] (by kernel_rfl) (by kernel_rfl) (qA (ob_no hj) qZ)
def laU (B0 B : List Int) : S2.St := { tmps := [(6, .inl ([], .slice none 0 0))], own := ⟨[rdK 1 true], [rsE B0, rsE B]⟩, lo := 0, llo := 0, mem := true, orc := [], obl := [] }
theorem la_out (B0 B : List Int) (L : List Rf) (n : Int) (j : Nat) (hj : (j : Int) < n) (w0 : S2.Base) (hG : GlobB (enH13 eNX) w0) : SemA (enH13 eNX) w0 1 1 37 laK (laS 51 B0 B true (roE L) n j) (some none) (laU B0 B) :=
 semA_iter (enH13_ok eNX_ok) hG (p := { ts := [6], bs := [0], ls := [0, 1] }) (fuel := 1000) [true, true] [(true, true), (decide ((j : Int) < n), true)] (by kernel_rfl) (by kernel_rfl) (qA rfl <| qA (ob_yes hj) qZ)
noncomputable def laA (B0 B : List Int) (w : Bool) (n : Int) (j : Nat) : S2.St := laS 51 B0 (stF refO B w j).2.1 (stF refO B w j).2.2 (roE (stF refO B w j).1) n j
theorem la_rounds (B0 B : List Int) (w : Bool) (n : Int) (hw : w = false -> n <= 10000) (hB : B.length <= 1000000000000) (j : Nat) (hj : j < wrN refO B w n.toNat) (w0 : S2.Base) (hG : GlobB (enH13 eNX) w0) : SemA (enH13 eNX) w0 1 1 37 laK (laA B0 B w n j) none (laA B0 B w n (j + 1)) := by
 have hle := skipN_le (fun j => !(stF refO B w j).2.2) n.toNat 0
 have hle : wrN refO B w n.toNat <= 0 + n.toNat := hle
 have h0 := skipN_all (fun j => !(stF refO B w j).2.2) n.toNat 0
 have hz : w = false := by simpa [stF] using h0 0 (Nat.le_refl _) (by show 0 < wrN refO B w n.toNat; omega)
 have hb : (stF refO B w j).2.2 = false := by simpa using h0 j (Nat.zero_le _) hj
 have hn := hw hz
 have hl := stF_less ref_less B w j
 have h := la_step B0 (stF refO B w j).2.1 (stF refO B w j).1 n j (by omega) hn (by omega) (by rw [stF_len]; omega) w0 hG
 unfold laA
 rw [hb]
 show SemA (enH13 eNX) w0 1 1 37 laK _ none (laS 51 B0 (refO (stF refO B w j).2.1 (stF refO B w j).2.2).2.1 (refO (stF refO B w j).2.1 (stF refO B w j).2.2).2.2 (roE ((stF refO B w j).1 ++ [(refO (stF refO B w j).2.1 (stF refO B w j).2.2).1])) n (j + 1))
 rw [hb]
 exact h
theorem la_all (B0 B : List Int) (w : Bool) (n : Int) (hw : w = false -> n <= 10000) (hB : B.length <= 1000000000000) (h : wrN refO B w n.toNat = n.toNat) (w0 : S2.Base) (hG : GlobB (enH13 eNX) w0) : SemA (enH13 eNX) w0 1 1 37 (.loop laK) (laA B0 B w n 0) (some (some 0)) (laA B0 B w n n.toNat) :=
 sem_loop (laA B0 B w n) n.toNat (by simp) (fun j hj => la_rounds B0 B w n hw hB j (by omega) w0 hG) (la_end B0 _ _ _ n n.toNat (by omega) w0 hG)
theorem la_stop (B0 B : List Int) (w : Bool) (n : Int) (hw : w = false -> n <= 10000) (hB : B.length <= 1000000000000) (h : wrN refO B w n.toNat ≠ n.toNat) (w0 : S2.Base) (hG : GlobB (enH13 eNX) w0) : SemA (enH13 eNX) w0 1 1 37 (.loop laK) (laA B0 B w n 0) (some none) (laU B0 (stF refO B w (wrN refO B w n.toNat)).2.1) := by
 have hle := skipN_le (fun j => !(stF refO B w j).2.2) n.toNat 0
 have hle : wrN refO B w n.toNat <= 0 + n.toNat := hle
 have hh := skipN_hit (P := fun j => !(stF refO B w j).2.2) (k := n.toNat) (a := 0) (by show wrN refO B w n.toNat < 0 + n.toNat; omega)
 have hh : (stF refO B w (wrN refO B w n.toNat)).2.2 = true := by
   have : (!(stF refO B w (wrN refO B w n.toNat)).2.2) = false := hh
   simpa using this
 refine sem_loop (laA B0 B w n) (wrN refO B w n.toNat) (by simp) (fun j hj => la_rounds B0 B w n hw hB j hj w0 hG) ?_
 unfold laA
 rw [hh]
 exact la_out B0 _ _ n _ (by omega) w0 hG
def laP : Pick := { ts := [0, 2, 8, 23, 24], bs := [0], ls := [0, 1, 2], opn := [24], opb := [0], nil := [(8, 46, 2, (roE []).el)] }
theorem laF_ex : ∃ f : List Int -> Bool -> List Rf × List Int × Bool, ∀ B b, f B b = ltF refO 8192 B b := ⟨_, fun _ _ => rfl⟩
noncomputable def laO : List Int -> Bool -> List Rf × List Int × Bool := Classical.choose laF_ex
theorem laO_eq (B : List Int) (b : Bool) : laO B b = ltF refO 8192 B b := Classical.choose_spec laF_ex B b
theorem la_fn (B : List Int) (b : Bool) (hB : B.length <= 1000000000000) (n : Int) (hn : n = (numO (bysL (rsE B)) b).1) (w : Bool) (hw : w = ((numO (bysL (rsE B)) b).2.2 || decide (n > 8192))) (fl : List Bool) :
   (wrN refO (numO (bysL (rsE B)) b).2.1 w n.toNat = n.toNat -> SemF Try.prog (fun _ => none) 50 [.inr (0, 0, none), .inl ([], .int .i64 8192), fnR 51] ⟨[rdK 0 b], [rsE B]⟩ (.c 2) ⟨[rdK 1 (stF refO (numO (bysL (rsE B)) b).2.1 w n.toNat).2.2], [rsE B, rsE (stF refO (numO (bysL (rsE B)) b).2.1 w n.toNat).2.1, roE (stF refO (numO (bysL (rsE B)) b).2.1 w n.toNat).1]⟩) /\
   (wrN refO (numO (bysL (rsE B)) b).2.1 w n.toNat ≠ n.toNat -> SemF Try.prog (fun _ => none) 50 [.inr (0, 0, none), .inl ([], .int .i64 8192), fnR 51] ⟨[rdK 0 b], [rsE B]⟩ (.inl ([], .slice none 0 0)) ⟨[rdK 1 true], [rsE B, rsE (stF refO (numO (bysL (rsE B)) b).2.1 w (wrN refO (numO (bysL (rsE B)) b).2.1 w n.toNat)).2.1]⟩) := by
 have q := num_less (bysL (rsE B)) b
 have hN : (numO (bysL (rsE B)) b).2.1.length <= 1000000000000 := by
   have : (bysL (rsE B)).length = B.length := by rw [bysL_rs]
   omega
 have hm : w = false -> n <= 10000 := fun h => by
   rw [hw] at h
   have := (Bool.or_eq_false_iff.mp h).2
   have := of_decide_eq_false this
   omega
 subst hn
 cases hb : (numO (bysL (rsE B)) b).2.2
 case' false =>
   rw [hb] at hw
   have hw : w = decide ((numO (bysL (rsE B)) b).1 > 8192) := hw
   subst hw
   refine ⟨fun h => ?_, fun h => ?_⟩
   . refine fnS_ok (E := enH13 eNX) (enH13_ok eNX_ok) rfl (fuel := 1000) (d := 30) (plan := [⟨liP, laP, some (some 0), laA B (numO (bysL (rsE B)) b).2.1 (decide ((numO (bysL (rsE B)) b).1 > 8192)) (numO (bysL (rsE B)) b).1 (numO (bysL (rsE B)) b).1.toNat⟩]) (orc := [false]) (l := [((numO (bysL (rsE B)) b).2.2, false), (pre (propB (isRest (rsE B))), true)]) (tr := [⟨.loop laK, laA B (numO (bysL (rsE B)) b).2.1 (decide ((numO (bysL (rsE B)) b).1 > 8192)) (numO (bysL (rsE B)) b).1 0, some (some 0), laA B (numO (bysL (rsE B)) b).2.1 (decide ((numO (bysL (rsE B)) b).1 > 8192)) (numO (bysL (rsE B)) b).1 (numO (bysL (rsE B)) b).1.toNat⟩]) (by kernel_rfl) (by kernel_rfl) (qA hb <| qA (propB_ok.mpr (isRest_rs hB)) qZ) Try.func50 fun w0 hG t ht => ?_
     obtain rfl := List.mem_singleton.mp ht
     exact la_all B _ _ _ hm hN h w0 hG
   . refine fnS_ok (E := enH13 eNX) (enH13_ok eNX_ok) rfl (fuel := 1000) (d := 30) (plan := [⟨liP, laP, some none, laU B (stF refO (numO (bysL (rsE B)) b).2.1 (decide ((numO (bysL (rsE B)) b).1 > 8192)) (wrN refO (numO (bysL (rsE B)) b).2.1 (decide ((numO (bysL (rsE B)) b).1 > 8192)) (numO (bysL (rsE B)) b).1.toNat)).2.1⟩]) (orc := [false]) (l := [((numO (bysL (rsE B)) b).2.2, false), (pre (propB (isRest (rsE B))), true)]) (tr := [⟨.loop laK, laA B (numO (bysL (rsE B)) b).2.1 (decide ((numO (bysL (rsE B)) b).1 > 8192)) (numO (bysL (rsE B)) b).1 0, some none, laU B (stF refO (numO (bysL (rsE B)) b).2.1 (decide ((numO (bysL (rsE B)) b).1 > 8192)) (wrN refO (numO (bysL (rsE B)) b).2.1 (decide ((numO (bysL (rsE B)) b).1 > 8192)) (numO (bysL (rsE B)) b).1.toNat)).2.1⟩]) (by kernel_rfl) (by kernel_rfl) (qA hb <| qA (propB_ok.mpr (isRest_rs hB)) qZ) Try.func50 fun w0 hG t ht => ?_
     obtain rfl := List.mem_singleton.mp ht
     exact la_stop B _ _ _ hm hN h w0 hG
 case' true =>
   rw [hb] at hw
   have hw : w = true := by rw [hw]; rfl
   subst hw
   refine ⟨fun h => ?_, fun h => ?_⟩
   . refine fnS_ok (E := enH13 eNX) (enH13_ok eNX_ok) rfl (fuel := 1000) (d := 30) (plan := [⟨liP, laP, some (some 0), laA B (numO (bysL (rsE B)) b).2.1 true (numO (bysL (rsE B)) b).1 (numO (bysL (rsE B)) b).1.toNat⟩]) (orc := [true]) (l := [((numO (bysL (rsE B)) b).2.2, true), (pre (propB (isRest (rsE B))), true)]) (tr := [⟨.loop laK, laA B (numO (bysL (rsE B)) b).2.1 true (numO (bysL (rsE B)) b).1 0, some (some 0), laA B (numO (bysL (rsE B)) b).2.1 true (numO (bysL (rsE B)) b).1 (numO (bysL (rsE B)) b).1.toNat⟩]) (by kernel_rfl) (by kernel_rfl) (qA hb <| qA (propB_ok.mpr (isRest_rs hB)) qZ) Try.func50 fun w0 hG t ht => ?_
     obtain rfl := List.mem_singleton.mp ht
     exact la_all B _ _ _ hm hN h w0 hG
   . refine fnS_ok (E := enH13 eNX) (enH13_ok eNX_ok) rfl (fuel := 1000) (d := 30) (plan := [⟨liP, laP, some none, laU B (stF refO (numO (bysL (rsE B)) b).2.1 true (wrN refO (numO (bysL (rsE B)) b).2.1 true (numO (bysL (rsE B)) b).1.toNat)).2.1⟩]) (orc := [true]) (l := [((numO (bysL (rsE B)) b).2.2, true), (pre (propB (isRest (rsE B))), true)]) (tr := [⟨.loop laK, laA B (numO (bysL (rsE B)) b).2.1 true (numO (bysL (rsE B)) b).1 0, some none, laU B (stF refO (numO (bysL (rsE B)) b).2.1 true (wrN refO (numO (bysL (rsE B)) b).2.1 true (numO (bysL (rsE B)) b).1.toNat)).2.1⟩]) (by kernel_rfl) (by kernel_rfl) (qA hb <| qA (propB_ok.mpr (isRest_rs hB)) qZ) Try.func50 fun w0 hG t ht => ?_
     obtain rfl := List.mem_singleton.mp ht
     exact la_stop B _ _ _ hm hN h w0 hG
theorem la_sem (B : List Int) (b : Bool) (hB : B.length <= 1000000000000) : SemF Try.prog (fun _ => none) 50 [.inr (0, 0, none), .inl ([], .int .i64 8192), fnR 51] ⟨[rdK 0 b], [rsE B]⟩ (.c 2) ⟨[rdK 1 (laO B b).2.2], [rsE B, rsE (laO B b).2.1, roE (laO B b).1]⟩ := by
 have h := la_fn B b hB _ rfl _ rfl []
 rw [bysL_rs] at h
 rw [laO_eq]
 unfold ltF
 simp only
 by_cases hk : wrN refO (numO B b).2.1 ((numO B b).2.2 || decide ((numO B b).1 > 8192)) (numO B b).1.toNat = (numO B b).1.toNat
 . rw [if_pos hk]
   exact h.1 hk
 . rw [if_neg hk]
   exact semF_nilrow (own := ⟨[rdK 0 b], [rsE B]⟩) (own' := ⟨[rdK 1 true], [rsE B, rsE (stF refO (numO B b).2.1 ((numO B b).2.2 || decide ((numO B b).1 > 8192)) (wrN refO (numO B b).2.1 ((numO B b).2.2 || decide ((numO B b).1 > 8192)) (numO B b).1.toNat)).2.1]⟩) (e := roE []) rfl rfl (by show 0 < _; decide) (Nat.le_refl _) (by show 1 <= 2; omega) (h.2 hk)
noncomputable def ela : ETab := erow 50 fun args own => match args, own with
 | [.inr (0, 0, none), .inl (f0, .int .i64 m), .fn g [.a 0 0] []], ⟨[⟨[.c 0, .inl (fl, .bool b)], T, .cells⟩], [e]⟩ => bif Nat.beq T 57 && Nat.beq g 51 && m == 8192 then some { x := .c 2, sb := [(0, rdK 1 (laO (bysL e) b).2.2)], al := [rsE (laO (bysL e) b).2.1, roE (laO (bysL e) b).1], ok := pre (propB (isRest e)) } else none
 | _, _ => none
theorem ela_ok {gl : Gl} : EffOk Try.prog gl ela := .row fun args own r h hr => by
 split at h
 . rename_i f0 m g fl b T e
   cases hT : (Nat.beq T 57 && Nat.beq g 51 && m == 8192)
   . rw [hT] at h; cases h
   . rw [hT] at h
     simp only [cond_true, qS] at h
     subst h
     simp only [Bool.and_eq_true, beq_iff_eq] at hT
     obtain ⟨⟨t1, t2⟩, rfl⟩ := hT
     obtain rfl := qB t1
     obtain rfl := qB t2
     have he := propB_ok.mp hr
     exact SemF.anyGlob (semF_args (rd_lift he (la_sem (bysL e) b (by rw [bysL_len]; exact he.2.2.2.2.1))) fun ν vs h => by
       match vs, h with
       | [x, y, z], h => exact h)
 . cases h
noncomputable def lcK : Code := codeAt (codeOf Try.prog 48) (0 :: liP)
theorem lc_one (B0 B : List Int) (L : List Rc) (n : Int) (j : Nat) (hj : (j : Int) < n) (hn : n <= 10000) (hB : B.length <= 1000000000000) (hL : L.length <= 10000) (w0 : S2.Base) (hG : GlobB (enH13 eNX) w0) : SemA (enH13 eNX) w0 1 1 37 lcK (laS 49 B0 B false (coE L) n j) none { laS 49 B0 (recO (bysL (rsE B)) false).2.1 (recO (bysL (rsE B)) false).2.2 (coE L) n (j + 1) with own := ⟨[rdK 1 (recO (bysL (rsE B)) false).2.2], [rsE B0, rsE (recO (bysL (rsE B)) false).2.1, ⟨48, 6, L.length + 1, joinE L.length (coE L).el (tabE [rcC (recO (bysL (rsE B)) false).1]), true, false, true⟩]⟩ } := by
 refine semA_iter (enH13_ok eNX_ok) hG (p := laQ [0, 7, 8]) (fuel := 1000) [true, false] [(pre (inI ((j : Int) + 1)), true), (pre (decide (L.length + 1 <= maxLen /\ (L.length + 1) * 40 <= 140737488355328 /\ 0 < 1)), true), (pre (propB (isRest (rsE B))), true), (false, false), (decide ((j : Int) < n), true)] (by kernel_rfl) (by kernel_rfl) ?_
 exact qA (ob_inI (by omega)) <| qA (by unfold pre maxLen; exact decide_eq_true (by omega)) <| qA (propB_ok.mpr (isRest_rs hB)) <| qA rfl <| qA (ob_yes hj) qZ
theorem lc_step (B0 B : List Int) (L : List Rc) (n : Int) (j : Nat) (hj : (j : Int) < n) (hn : n <= 10000) (hB : B.length <= 1000000000000) (hL : L.length <= 10000) (w0 : S2.Base) (hG : GlobB (enH13 eNX) w0) : SemA (enH13 eNX) w0 1 1 37 lcK (laS 49 B0 B false (coE L) n j) none (laS 49 B0 (recO B false).2.1 (recO B false).2.2 (coE (L ++ [(recO B false).1])) n (j + 1)) := by
 have h := lc_one B0 B L n j hj hn hB hL w0 hG
 rw [bysL_rs] at h
 refine h.same rfl rfl ⟨.refl _, .refl _, ⟨rfl, rfl, by show L.length + 1 = (L ++ [_]).length; simp, rfl, rfl, joinE_snoc (g := (coE (L ++ [(recO B false).1])).el) (fun i hi => ?_) ?_⟩, trivial⟩ rfl
 . show rcC ((L[i]?).getD ⟨0, 0, 0, 0, false, false⟩) = rcC (((L ++ [_])[i]?).getD ⟨0, 0, 0, 0, false, false⟩)
   rw [List.getElem?_append_left hi]
 . show _ = rcC (((L ++ [(recO B false).1])[L.length]?).getD ⟨0, 0, 0, 0, false, false⟩)
   simp
theorem lc_end (B0 B : List Int) (b : Bool) (L : List Rc) (n : Int) (j : Nat) (hj : ¬ (j : Int) < n) (w0 : S2.Base) (hG : GlobB (enH13 eNX) w0) : SemA (enH13 eNX) w0 1 1 37 lcK (laS 49 B0 B b (coE L) n j) (some (some 0)) (laS 49 B0 B b (coE L) n j) :=
 semA_iter (enH13_ok eNX_ok) hG (p := laQ [0, 1, 2]) (fuel := 1000) [false] [(decide ((j : Int) < n), false)] (by kernel_rfl) (by kernel_rfl) (qA (ob_no hj) qZ)
def lcU (B0 B : List Int) : S2.St := { tmps := [(6, .inl ([], .slice none 0 0))], own := ⟨[rdK 1 true], [rsE B0, rsE B]⟩, lo := 0, llo := 0, mem := true, orc := [], obl := [] }
theorem lc_out (B0 B : List Int) (L : List Rc) (n : Int) (j : Nat) (hj : (j : Int) < n) (w0 : S2.Base) (hG : GlobB (enH13 eNX) w0) : SemA (enH13 eNX) w0 1 1 37 lcK (laS 49 B0 B true (coE L) n j) (some none) (lcU B0 B) :=
 semA_iter (enH13_ok eNX_ok) hG (p := { ts := [6], bs := [0], ls := [0, 1] }) (fuel := 1000) [true, true] [(true, true), (decide ((j : Int) < n), true)] (by kernel_rfl) (by kernel_rfl) (qA rfl <| qA (ob_yes hj) qZ)
noncomputable def lcA (B0 B : List Int) (w : Bool) (n : Int) (j : Nat) : S2.St := laS 49 B0 (stF recO B w j).2.1 (stF recO B w j).2.2 (coE (stF recO B w j).1) n j
theorem lc_rounds (B0 B : List Int) (w : Bool) (n : Int) (hw : w = false -> n <= 10000) (hB : B.length <= 1000000000000) (j : Nat) (hj : j < wrN recO B w n.toNat) (w0 : S2.Base) (hG : GlobB (enH13 eNX) w0) : SemA (enH13 eNX) w0 1 1 37 lcK (lcA B0 B w n j) none (lcA B0 B w n (j + 1)) := by
 have hle := skipN_le (fun j => !(stF recO B w j).2.2) n.toNat 0
 have hle : wrN recO B w n.toNat <= 0 + n.toNat := hle
 have h0 := skipN_all (fun j => !(stF recO B w j).2.2) n.toNat 0
 have hz : w = false := by simpa [stF] using h0 0 (Nat.le_refl _) (by show 0 < wrN recO B w n.toNat; omega)
 have hb : (stF recO B w j).2.2 = false := by simpa using h0 j (Nat.zero_le _) hj
 have hn := hw hz
 have hl := stF_less rec_less B w j
 have h := lc_step B0 (stF recO B w j).2.1 (stF recO B w j).1 n j (by omega) hn (by omega) (by rw [stF_len]; omega) w0 hG
 unfold lcA
 rw [hb]
 show SemA (enH13 eNX) w0 1 1 37 lcK _ none (laS 49 B0 (recO (stF recO B w j).2.1 (stF recO B w j).2.2).2.1 (recO (stF recO B w j).2.1 (stF recO B w j).2.2).2.2 (coE ((stF recO B w j).1 ++ [(recO (stF recO B w j).2.1 (stF recO B w j).2.2).1])) n (j + 1))
 rw [hb]
 exact h
theorem lc_all (B0 B : List Int) (w : Bool) (n : Int) (hw : w = false -> n <= 10000) (hB : B.length <= 1000000000000) (h : wrN recO B w n.toNat = n.toNat) (w0 : S2.Base) (hG : GlobB (enH13 eNX) w0) : SemA (enH13 eNX) w0 1 1 37 (.loop lcK) (lcA B0 B w n 0) (some (some 0)) (lcA B0 B w n n.toNat) :=
 sem_loop (lcA B0 B w n) n.toNat (by simp) (fun j hj => lc_rounds B0 B w n hw hB j (by omega) w0 hG) (lc_end B0 _ _ _ n n.toNat (by omega) w0 hG)
theorem lc_stop (B0 B : List Int) (w : Bool) (n : Int) (hw : w = false -> n <= 10000) (hB : B.length <= 1000000000000) (h : wrN recO B w n.toNat ≠ n.toNat) (w0 : S2.Base) (hG : GlobB (enH13 eNX) w0) : SemA (enH13 eNX) w0 1 1 37 (.loop lcK) (lcA B0 B w n 0) (some none) (lcU B0 (stF recO B w (wrN recO B w n.toNat)).2.1) := by
 have hle := skipN_le (fun j => !(stF recO B w j).2.2) n.toNat 0
 have hle : wrN recO B w n.toNat <= 0 + n.toNat := hle
 have hh := skipN_hit (P := fun j => !(stF recO B w j).2.2) (k := n.toNat) (a := 0) (by show wrN recO B w n.toNat < 0 + n.toNat; omega)
 have hh : (stF recO B w (wrN recO B w n.toNat)).2.2 = true := by
   have : (!(stF recO B w (wrN recO B w n.toNat)).2.2) = false := hh
   simpa using this
 refine sem_loop (lcA B0 B w n) (wrN recO B w n.toNat) (by simp) (fun j hj => lc_rounds B0 B w n hw hB j hj w0 hG) ?_
 unfold lcA
 rw [hh]
 exact lc_out B0 _ _ n _ (by omega) w0 hG
def lcP : Pick := { ts := [0, 2, 8, 23, 24], bs := [0], ls := [0, 1, 2], opn := [24], opb := [0], nil := [(8, 48, 6, (coE []).el)] }
theorem lcF_ex : ∃ f : List Int -> Bool -> List Rc × List Int × Bool, ∀ B b, f B b = ltF recO 1024 B b := ⟨_, fun _ _ => rfl⟩
noncomputable def lcO : List Int -> Bool -> List Rc × List Int × Bool := Classical.choose lcF_ex
theorem lcO_eq (B : List Int) (b : Bool) : lcO B b = ltF recO 1024 B b := Classical.choose_spec lcF_ex B b
theorem lc_fn (B : List Int) (b : Bool) (hB : B.length <= 1000000000000) (n : Int) (hn : n = (numO (bysL (rsE B)) b).1) (w : Bool) (hw : w = ((numO (bysL (rsE B)) b).2.2 || decide (n > 1024))) (fl : List Bool) :
   (wrN recO (numO (bysL (rsE B)) b).2.1 w n.toNat = n.toNat -> SemF Try.prog (fun _ => none) 48 [.inr (0, 0, none), .inl ([], .int .i64 1024), fnR 49] ⟨[rdK 0 b], [rsE B]⟩ (.c 2) ⟨[rdK 1 (stF recO (numO (bysL (rsE B)) b).2.1 w n.toNat).2.2], [rsE B, rsE (stF recO (numO (bysL (rsE B)) b).2.1 w n.toNat).2.1, coE (stF recO (numO (bysL (rsE B)) b).2.1 w n.toNat).1]⟩) /\
   (wrN recO (numO (bysL (rsE B)) b).2.1 w n.toNat ≠ n.toNat -> SemF Try.prog (fun _ => none) 48 [.inr (0, 0, none), .inl ([], .int .i64 1024), fnR 49] ⟨[rdK 0 b], [rsE B]⟩ (.inl ([], .slice none 0 0)) ⟨[rdK 1 true], [rsE B, rsE (stF recO (numO (bysL (rsE B)) b).2.1 w (wrN recO (numO (bysL (rsE B)) b).2.1 w n.toNat)).2.1]⟩) := by
 have q := num_less (bysL (rsE B)) b
 have hN : (numO (bysL (rsE B)) b).2.1.length <= 1000000000000 := by
   have : (bysL (rsE B)).length = B.length := by rw [bysL_rs]
   omega
 have hm : w = false -> n <= 10000 := fun h => by
   rw [hw] at h
   have := (Bool.or_eq_false_iff.mp h).2
   have := of_decide_eq_false this
   omega
 subst hn
 cases hb : (numO (bysL (rsE B)) b).2.2
 case' false =>
   rw [hb] at hw
   have hw : w = decide ((numO (bysL (rsE B)) b).1 > 1024) := hw
   subst hw
   refine ⟨fun h => ?_, fun h => ?_⟩
   . refine fnS_ok (E := enH13 eNX) (enH13_ok eNX_ok) rfl (fuel := 1000) (d := 30) (plan := [⟨liP, lcP, some (some 0), lcA B (numO (bysL (rsE B)) b).2.1 (decide ((numO (bysL (rsE B)) b).1 > 1024)) (numO (bysL (rsE B)) b).1 (numO (bysL (rsE B)) b).1.toNat⟩]) (orc := [false]) (l := [((numO (bysL (rsE B)) b).2.2, false), (pre (propB (isRest (rsE B))), true)]) (tr := [⟨.loop lcK, lcA B (numO (bysL (rsE B)) b).2.1 (decide ((numO (bysL (rsE B)) b).1 > 1024)) (numO (bysL (rsE B)) b).1 0, some (some 0), lcA B (numO (bysL (rsE B)) b).2.1 (decide ((numO (bysL (rsE B)) b).1 > 1024)) (numO (bysL (rsE B)) b).1 (numO (bysL (rsE B)) b).1.toNat⟩]) (by kernel_rfl) (by kernel_rfl) (qA hb <| qA (propB_ok.mpr (isRest_rs hB)) qZ) Try.func48 fun w0 hG t ht => ?_
     obtain rfl := List.mem_singleton.mp ht
     exact lc_all B _ _ _ hm hN h w0 hG
   . refine fnS_ok (E := enH13 eNX) (enH13_ok eNX_ok) rfl (fuel := 1000) (d := 30) (plan := [⟨liP, lcP, some none, lcU B (stF recO (numO (bysL (rsE B)) b).2.1 (decide ((numO (bysL (rsE B)) b).1 > 1024)) (wrN recO (numO (bysL (rsE B)) b).2.1 (decide ((numO (bysL (rsE B)) b).1 > 1024)) (numO (bysL (rsE B)) b).1.toNat)).2.1⟩]) (orc := [false]) (l := [((numO (bysL (rsE B)) b).2.2, false), (pre (propB (isRest (rsE B))), true)]) (tr := [⟨.loop lcK, lcA B (numO (bysL (rsE B)) b).2.1 (decide ((numO (bysL (rsE B)) b).1 > 1024)) (numO (bysL (rsE B)) b).1 0, some none, lcU B (stF recO (numO (bysL (rsE B)) b).2.1 (decide ((numO (bysL (rsE B)) b).1 > 1024)) (wrN recO (numO (bysL (rsE B)) b).2.1 (decide ((numO (bysL (rsE B)) b).1 > 1024)) (numO (bysL (rsE B)) b).1.toNat)).2.1⟩]) (by kernel_rfl) (by kernel_rfl) (qA hb <| qA (propB_ok.mpr (isRest_rs hB)) qZ) Try.func48 fun w0 hG t ht => ?_
     obtain rfl := List.mem_singleton.mp ht
     exact lc_stop B _ _ _ hm hN h w0 hG
 case' true =>
   rw [hb] at hw
   have hw : w = true := by rw [hw]; rfl
   subst hw
   refine ⟨fun h => ?_, fun h => ?_⟩
   . refine fnS_ok (E := enH13 eNX) (enH13_ok eNX_ok) rfl (fuel := 1000) (d := 30) (plan := [⟨liP, lcP, some (some 0), lcA B (numO (bysL (rsE B)) b).2.1 true (numO (bysL (rsE B)) b).1 (numO (bysL (rsE B)) b).1.toNat⟩]) (orc := [true]) (l := [((numO (bysL (rsE B)) b).2.2, true), (pre (propB (isRest (rsE B))), true)]) (tr := [⟨.loop lcK, lcA B (numO (bysL (rsE B)) b).2.1 true (numO (bysL (rsE B)) b).1 0, some (some 0), lcA B (numO (bysL (rsE B)) b).2.1 true (numO (bysL (rsE B)) b).1 (numO (bysL (rsE B)) b).1.toNat⟩]) (by kernel_rfl) (by kernel_rfl) (qA hb <| qA (propB_ok.mpr (isRest_rs hB)) qZ) Try.func48 fun w0 hG t ht => ?_
     obtain rfl := List.mem_singleton.mp ht
     exact lc_all B _ _ _ hm hN h w0 hG
   . refine fnS_ok (E := enH13 eNX) (enH13_ok eNX_ok) rfl (fuel := 1000) (d := 30) (plan := [⟨liP, lcP, some none, lcU B (stF recO (numO (bysL (rsE B)) b).2.1 true (wrN recO (numO (bysL (rsE B)) b).2.1 true (numO (bysL (rsE B)) b).1.toNat)).2.1⟩]) (orc := [true]) (l := [((numO (bysL (rsE B)) b).2.2, true), (pre (propB (isRest (rsE B))), true)]) (tr := [⟨.loop lcK, lcA B (numO (bysL (rsE B)) b).2.1 true (numO (bysL (rsE B)) b).1 0, some none, lcU B (stF recO (numO (bysL (rsE B)) b).2.1 true (wrN recO (numO (bysL (rsE B)) b).2.1 true (numO (bysL (rsE B)) b).1.toNat)).2.1⟩]) (by kernel_rfl) (by kernel_rfl) (qA hb <| qA (propB_ok.mpr (isRest_rs hB)) qZ) Try.func48 fun w0 hG t ht => ?_
     obtain rfl := List.mem_singleton.mp ht
     exact lc_stop B _ _ _ hm hN h w0 hG
theorem lc_sem (B : List Int) (b : Bool) (hB : B.length <= 1000000000000) : SemF Try.prog (fun _ => none) 48 [.inr (0, 0, none), .inl ([], .int .i64 1024), fnR 49] ⟨[rdK 0 b], [rsE B]⟩ (.c 2) ⟨[rdK 1 (lcO B b).2.2], [rsE B, rsE (lcO B b).2.1, coE (lcO B b).1]⟩ := by
 have h := lc_fn B b hB _ rfl _ rfl []
 rw [bysL_rs] at h
 rw [lcO_eq]
 unfold ltF
 simp only
 by_cases hk : wrN recO (numO B b).2.1 ((numO B b).2.2 || decide ((numO B b).1 > 1024)) (numO B b).1.toNat = (numO B b).1.toNat
 . rw [if_pos hk]
   exact h.1 hk
 . rw [if_neg hk]
   exact semF_nilrow (own := ⟨[rdK 0 b], [rsE B]⟩) (own' := ⟨[rdK 1 true], [rsE B, rsE (stF recO (numO B b).2.1 ((numO B b).2.2 || decide ((numO B b).1 > 1024)) (wrN recO (numO B b).2.1 ((numO B b).2.2 || decide ((numO B b).1 > 1024)) (numO B b).1.toNat)).2.1]⟩) (e := coE []) rfl rfl (by show 0 < _; decide) (Nat.le_refl _) (by show 1 <= 2; omega) (h.2 hk)
noncomputable def elc : ETab := erow 48 fun args own => match args, own with
 | [.inr (0, 0, none), .inl (f0, .int .i64 m), .fn g [.a 0 0] []], ⟨[⟨[.c 0, .inl (fl, .bool b)], T, .cells⟩], [e]⟩ => bif Nat.beq T 57 && Nat.beq g 49 && m == 1024 then some { x := .c 2, sb := [(0, rdK 1 (lcO (bysL e) b).2.2)], al := [rsE (lcO (bysL e) b).2.1, coE (lcO (bysL e) b).1], ok := pre (propB (isRest e)) } else none
 | _, _ => none
theorem elc_ok {gl : Gl} : EffOk Try.prog gl elc := .row fun args own r h hr => by
 split at h
 . rename_i f0 m g fl b T e
   cases hT : (Nat.beq T 57 && Nat.beq g 49 && m == 1024)
   . rw [hT] at h; cases h
   . rw [hT] at h
     simp only [cond_true, qS] at h
     subst h
     simp only [Bool.and_eq_true, beq_iff_eq] at hT
     obtain ⟨⟨t1, t2⟩, rfl⟩ := hT
     obtain rfl := qB t1
     obtain rfl := qB t2
     have he := propB_ok.mp hr
     exact SemF.anyGlob (semF_args (rd_lift he (lc_sem (bysL e) b (by rw [bysL_len]; exact he.2.2.2.2.1))) fun ν vs h => by
       match vs, h with
       | [x, y, z], h => exact h)
 . cases h
end Go.Proofs.Ytmaffamhjmlonaa
