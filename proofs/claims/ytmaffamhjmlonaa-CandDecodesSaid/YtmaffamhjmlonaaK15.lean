/- RdN13, RdR13. -/
import Derived.Test.YtmaffamhjmlonaaPEnc13
set_option linter.unusedVariables false
set_option linter.unusedSimpArgs false
namespace Go.Proofs.Ytmaffamhjmlonaa
open Go.RowKit Sim S2
def rsE (B : List Int) : LE := ⟨5, 1, B.length, fun j => [.int .u8 ((B[j]?).getD 0)], false, false, true⟩
def rdK (k : Nat) (b : Bool) : S2.Blk := ⟨[.c k, .inl ([true], .bool b)], 57, .cells⟩
theorem unzZ_ex : ∃ f : Int -> Int, ∀ z, f z = (bif arZ .rem .u64 z 2 == 1 then arZ .sub .i64 (IntKind.i64.wrap (0 - IntKind.i64.wrap (arZ .quo .u64 z 2))) 1 else IntKind.i64.wrap (arZ .quo .u64 z 2)) := ⟨_, fun _ => rfl⟩
noncomputable def unzZ : Int -> Int := Classical.choose unzZ_ex
theorem unzZ_eq (z : Int) : unzZ z = (bif arZ .rem .u64 z 2 == 1 then arZ .sub .i64 (IntKind.i64.wrap (0 - IntKind.i64.wrap (arZ .quo .u64 z 2))) 1 else IntKind.i64.wrap (arZ .quo .u64 z 2)) := Classical.choose_spec unzZ_ex z
theorem unzigzag_ret (z : Int) (w : World) : Ret Try.prog 53 #[.int .u64 z] (.int .i64 (unzZ z)) w := by
 refine LRet.plain (?_ : LRet Try.prog 53 [.int .u64 z] false [.inl (.int .i64 _)] w)
 have ha : ArgsOk w [.inl (.int .u64 z)] [.int .u64 z] := ⟨rfl, trivial⟩
 rw [unzZ_eq]
 cases h : (arZ .rem .u64 z 2 == 1)
 . exact fn_ok enN_ok (fuel := 1000) (d := 30) (plan := []) (orc := [false]) (fls := [[true]]) (l := [(arZ .rem .u64 z 2 == 1, false)]) (tr := []) (by kernel_rfl) (qA h qZ) Try.func53 w _ (GlobOk.none w) ha fun t ht => by cases ht
 . exact fn_ok enN_ok (fuel := 1000) (d := 30) (plan := []) (orc := [true]) (fls := [[true]]) (l := [(arZ .rem .u64 z 2 == 1, true)]) (tr := []) (by kernel_rfl) (qA h qZ) Try.func53 w _ (GlobOk.none w) ha fun t ht => by cases ht
noncomputable def pUnz : PTab := prowD 53 fun l => match l with
 | [.int .u64 z] => some (.int .i64 (unzZ z), true)
 | _ => none
theorem pUnz_ok {gl : Gl} : PTabOk Try.prog gl pUnz := .rowD fun args v h w hG => by
 split at h
 . simp only [qS, qP] at h
   obtain ⟨rfl, hp⟩ := h
   exact unzigzag_ret _ w
 . cases h
noncomputable def enF13 : S2.Env := { envf Try.prog (fun _ => none) noT pUnz noL (fun _ => none) with nowrap := true }
theorem enF13_ok : CallOk enF13 := ⟨(TabOk.none _ _), pUnz_ok, (LTabOk.none _ _), (fun _ _ _ _ h => by cases h), (fun _ _ _ h => by cases h), EffOk.none⟩
theorem semF_cellnil {P : Program} {gl : Gl} {f : FuncId} {args : List S2.SV} {own : Mem} {p f1 f2 : List Bool} {v : Value} {b : Bool} {T : TypeId} {L : List LE} (hb : own.b.length <= 1) (hl : own.l.length <= L.length)
   (h : SemF P gl f args own (.inl (p, v)) ⟨[⟨[.inl (f1, .slice none 0 0), .inl (f2, .bool b)], T, .cells⟩], L⟩) : SemF P gl f args own (.inl (p, v)) ⟨[⟨[.c L.length, .inl ([true], .bool b)], T, .cells⟩], L ++ [rsE []]⟩ := fun w0 hG ν w vs hvs hw =>
 (h w0 hG ν w vs hvs hw).mono fun e w' ⟨ν', v', h1, h2, h3, h4⟩ => by
   have hadd := h4.addIn (e := rsE []) (v := .slice none 0 0) rfl ⟨⟨Nat.one_pos, fun j hj => absurd hj (Nat.not_lt_zero _)⟩, none, 0, rfl, Nat.le_refl _, fun hn => absurd hn (Nat.not_lt_zero _)⟩
   have hag : Agree 1 L.length ν' (extV ν' L.length (.slice none 0 0)) := extV_old _ _ _ _
   refine ⟨extV ν' L.length (.slice none 0 0), v', ⟨fun i hi => (h1.1 i hi).trans (hag.1 i (by omega)), fun i hi => (h1.2 i hi).trans (hag.2 i (by omega))⟩, h2, h3, hadd.reblk rfl rfl (fun j b' hj => ?_) fun j b' hj c hcm => ?_⟩
   . match j, hj with
     | 0, hj =>
       obtain rfl := Option.some.inj hj
       exact ⟨_, rfl, by
         show [(extV ν' L.length (.slice none 0 0)).v L.length, Value.bool b] = [Value.slice none 0 0, .bool b]
         rw [extV_new], rfl, rfl⟩
   . match j, hj with
     | 0, hj =>
       obtain rfl := Option.some.inj hj
       have hcm : c ∈ [S2.SV.c L.length, S2.SV.inl ([true], .bool b)] := hcm
       simp only [List.mem_cons, List.not_mem_nil, or_false] at hcm
       rcases hcm with rfl | rfl
       . show L.length < (L ++ [rsE []]).length
         simp
       . trivial
theorem semF_nilrow {P : Program} {gl : Gl} {f : FuncId} {args : List S2.SV} {own own' : Mem} {p : List Bool} {e : LE} (ho : e.own = true) (hn : e.n = 0) (hs : 0 < e.size) (hb : own.b.length <= own'.b.length) (hl : own.l.length <= own'.l.length)
   (h : SemF P gl f args own (.inl (p, .slice none 0 0)) own') : SemF P gl f args own (.c own'.l.length) ⟨own'.b, own'.l ++ [e]⟩ := fun w0 hG ν w vs hvs hw =>
 (h w0 hG ν w vs hvs hw).mono fun r w' ⟨ν', v', h1, h2, h3, h4⟩ => by
   have h3 : v' = .slice none 0 0 := h3
   subst h3
   have hadd := h4.addRow (e := e) (v := .slice none 0 0) ho ⟨⟨hs, fun j hj => absurd hj (by omega)⟩, by simp [LE.flat, hn], .inl ⟨rfl, hn⟩⟩ (fun g hg => by cases hg) (fun g hg => by cases hg)
   have hag : Agree own'.b.length own'.l.length ν' (extV ν' own'.l.length (.slice none 0 0)) := extV_old _ _ _ _
   exact ⟨extV ν' own'.l.length (.slice none 0 0), .slice none 0 0, ⟨fun i hi => (h1.1 i hi).trans (hag.1 i (by omega)), fun i hi => (h1.2 i hi).trans (hag.2 i (by omega))⟩, h2, (extV_new ..).symm, hadd⟩
def stopN (B : List Int) : Nat := skipN (fun i => !decide ((B[i]?).getD 0 < 128)) B.length 0
noncomputable def zS (B : List Int) : Nat -> Int
 | 0 => 0
 | i + 1 => arZ .or .u64 (zS B i) (arZ .shl .u64 (IntKind.u64.wrap (arZ .rem .u8 ((B[i]?).getD 0) 128)) (7 * (i : Int)))
noncomputable def numF (B : List Int) (b : Bool) : Int × List Int × Bool := if stopN B < B.length then (unzZ (zS B (stopN B + 1)), B.drop (stopN B + 1), b) else (0, [], true)
theorem numO_ex : ∃ f : List Int -> Bool -> Int × List Int × Bool, ∀ B b, f B b = numF B b := ⟨_, fun _ _ => rfl⟩
noncomputable def numO : List Int -> Bool -> Int × List Int × Bool := Classical.choose numO_ex
theorem numO_eq (B : List Int) (b : Bool) : numO B b = numF B b := Classical.choose_spec numO_ex B b
def nbP : List Nat := [0, 1, 0, 1, 1]
noncomputable def nbK : Code := codeAt (codeOf Try.prog 47) (0 :: nbP)
noncomputable def nbS (B : List Int) (b : Bool) (i : Nat) : S2.St := { tmps := [(0, .inr (0, 0, none)), (3, .inl ([true], .int .u64 (zS B i))), (9, .c 0), (10, .inl ([true], .int .i64 B.length)), (11, .inl ([true], .int .i64 i))], own := ⟨[rdK 0 b], [rsE B]⟩, lo := 0, llo := 0, mem := true, orc := [], obl := [] }
def nbQ : Pick := { ts := [0, 3, 9, 10, 11], bs := [0], ls := [0], opn := [3, 11] }
def nbT (v : Int) (B : List Int) (e : LE) (b : Bool) : S2.St := { tmps := [(2, .inl ([true], .int .i64 v))], own := ⟨[rdK 1 b], [rsE B, e]⟩, lo := 0, llo := 0, mem := true, orc := [], obl := [] }
def drE (B : List Int) (i : Nat) : LE := ⟨5, 1, ((B.length : Int)).toNat - ((i : Int) + 1).toNat, fun j => (rsE B).el (((i : Int) + 1).toNat + j), false, false, true⟩
theorem nb_step (B : List Int) (b : Bool) (hB : B.length <= 1000000000000) (i : Nat) (hi : i < B.length) (h : ¬ (B[i]?).getD 0 < 128) (w0 : S2.Base) (hG : GlobB enF13 w0) : SemA enF13 w0 1 1 45 nbK (nbS B b i) none (nbS B b (i + 1)) := by
 refine semA_iter enF13_ok hG (p := nbQ) (fuel := 1000) [true, false] [(pre (inI ((i : Int) + 1)), true), (decide ((B[i]?).getD 0 < 128), false), (pre (decide (0 <= 7 * (i : Int))), true), (pre (inI (7 * (i : Int))), true), (pre (decide (i < B.length)), true), (pre (idxB (i : Int) B.length), true), (decide ((i : Int) < (B.length : Int)), true)] (by kernel_rfl) (by kernel_rfl) ?_
 exact qA (ob_inI (by omega)) <| qA (ob_no h) <| qA (by unfold pre; exact decide_eq_true (by omega)) <| qA (ob_inI (by omega)) <| qA (ob_lt (by omega)) <| qA (ob_idx (by omega)) <| qA (ob_yes (by omega)) qZ
theorem nb_out1 (B : List Int) (b : Bool) (hB : B.length <= 1000000000000) (i : Nat) (hi : i < B.length) (h : (B[i]?).getD 0 < 128) (w0 : S2.Base) (hG : GlobB enF13 w0) : SemA enF13 w0 1 1 45 nbK (nbS B b i) (some none) (nbT (unzZ (zS B (i + 1))) B (drE B i) b) := by
 refine semA_iter enF13_ok hG (p := { ts := [2], bs := [0], ls := [0, 1] }) (fuel := 1000) [true, true] [(true, true), (pre (decide (0 <= (i : Int) + 1 /\ (i : Int) + 1 <= (B.length : Int) /\ (B.length : Int) <= (B.length : Int))), true), (pre (inI ((i : Int) + 1)), true), (decide ((B[i]?).getD 0 < 128), true), (pre (decide (0 <= 7 * (i : Int))), true), (pre (inI (7 * (i : Int))), true), (pre (decide (i < B.length)), true), (pre (idxB (i : Int) B.length), true), (decide ((i : Int) < (B.length : Int)), true)] (by kernel_rfl) (by kernel_rfl) ?_
 exact qA rfl <| qA (by unfold pre; exact decide_eq_true (by omega)) <| qA (ob_inI (by omega)) <| qA (ob_yes h) <| qA (by unfold pre; exact decide_eq_true (by omega)) <| qA (ob_inI (by omega)) <| qA (ob_lt (by omega)) <| qA (ob_idx (by omega)) <| qA (ob_yes (by omega)) qZ
theorem drE_same (B : List Int) (i : Nat) (hi : i < B.length) : sameE (drE B i) (rsE (B.drop (i + 1))) := ⟨rfl, rfl, by
 show ((B.length : Int)).toNat - ((i : Int) + 1).toNat = (B.drop (i + 1)).length
 rw [List.length_drop]; omega, rfl, rfl, fun j hj => by
 show [Value.int .u8 ((B[((i : Int) + 1).toNat + j]?).getD 0)] = [Value.int .u8 (((B.drop (i + 1))[j]?).getD 0)]
 rw [List.getElem?_drop, show ((i : Int) + 1).toNat = i + 1 by omega]⟩
theorem nb_end (B : List Int) (b : Bool) (w0 : S2.Base) (hG : GlobB enF13 w0) : SemA enF13 w0 1 1 45 nbK (nbS B b B.length) (some (some 0)) (nbS B b B.length) :=
 semA_iter enF13_ok hG (p := nbQ) (fuel := 1000) [false] [(decide ((B.length : Int) < (B.length : Int)), false)] (by kernel_rfl) (by kernel_rfl) (qA (ob_no (by omega)) qZ)
theorem num_yes (B : List Int) (b : Bool) (hB : B.length <= 1000000000000) (h : stopN B < B.length) : SemF Try.prog (fun _ => none) 47 [.inr (0, 0, none)] ⟨[rdK 0 b], [rsE B]⟩ (.inl ([true], .int .i64 (unzZ (zS B (stopN B + 1))))) ⟨[rdK 1 b], [rsE B, rsE (B.drop (stopN B + 1))]⟩ := by
 refine SemF.same (own' := ⟨[rdK 1 b], [rsE B, drE B (stopN B)]⟩) ?_ rfl ⟨.refl _, drE_same B _ h, trivial⟩
 refine fnS_ok (E := enF13) enF13_ok rfl (fuel := 1000) (d := 30) (plan := [⟨nbP, nbQ, some none, nbT (unzZ (zS B (stopN B + 1))) B (drE B (stopN B)) b⟩]) (orc := []) (l := []) (tr := [⟨.loop nbK, nbS B b 0, some none, nbT (unzZ (zS B (stopN B + 1))) B (drE B (stopN B)) b⟩]) (by kernel_rfl) (by kernel_rfl) qZ Try.func47 fun w0 hG t ht => ?_
 obtain rfl := List.mem_singleton.mp ht
 refine sem_loop (nbS B b) (stopN B) (by simp) (fun i hi => nb_step B b hB i (by omega) (by
   have := skipN_all (fun i => !decide ((B[i]?).getD 0 < 128)) B.length 0 i (by omega) hi
   simpa using this) w0 hG) (nb_out1 B b hB (stopN B) h (by
   have := skipN_hit (P := fun i => !decide ((B[i]?).getD 0 < 128)) (k := B.length) (a := 0) (by show stopN B < 0 + B.length; omega)
   have : (!decide ((B[stopN B]?).getD 0 < 128)) = false := this
   simpa using this) w0 hG)
theorem num_no (B : List Int) (b : Bool) (hB : B.length <= 1000000000000) (h : ¬ stopN B < B.length) : SemF Try.prog (fun _ => none) 47 [.inr (0, 0, none)] ⟨[rdK 0 b], [rsE B]⟩ (.inl ([], .int .i64 0)) ⟨[rdK 1 true], [rsE B, rsE []]⟩ := by
 refine semF_cellnil (f1 := [false]) (f2 := [false]) (L := [rsE B]) (Nat.le_refl _) (Nat.le_refl _) ?_
 have he : stopN B = B.length := by have := skipN_le (fun i => !decide ((B[i]?).getD 0 < 128)) B.length 0; unfold stopN at *; omega
 refine fnS_ok (E := enF13) enF13_ok rfl (fuel := 1000) (d := 30) (plan := [⟨nbP, nbQ, some (some 0), nbS B b B.length⟩]) (orc := []) (l := []) (tr := [⟨.loop nbK, nbS B b 0, some (some 0), nbS B b B.length⟩]) (by kernel_rfl) (by kernel_rfl) qZ Try.func47 fun w0 hG t ht => ?_
 obtain rfl := List.mem_singleton.mp ht
 refine sem_loop (nbS B b) B.length (by simp) (fun i hi => nb_step B b hB i (by omega) (by
   have := skipN_all (fun i => !decide ((B[i]?).getD 0 < 128)) B.length 0 i (by omega) (by show i < stopN B; omega)
   simpa using this) w0 hG) (nb_end B b w0 hG)
theorem num_sem (B : List Int) (b : Bool) (hB : B.length <= 1000000000000) : SemF Try.prog (fun _ => none) 47 [.inr (0, 0, none)] ⟨[rdK 0 b], [rsE B]⟩ (.inl ([true], .int .i64 (numO B b).1)) ⟨[rdK 1 (numO B b).2.2], [rsE B, rsE (numO B b).2.1]⟩ := by
 rw [numO_eq]
 unfold numF
 by_cases h : stopN B < B.length
 . rw [if_pos h]; exact num_yes B b hB h
 . rw [if_neg h]
   intro w0 hG ν w vs hvs hw
   exact num_no B b hB h w0 hG ν w vs hvs hw
theorem num_less (B : List Int) (b : Bool) : (numO B b).2.1.length <= B.length := by
 rw [numO_eq]
 unfold numF
 split
 . show (B.drop _).length <= _
   rw [List.length_drop]; omega
 . exact Nat.zero_le _
def isRest (e : LE) : Prop := e.elT = 5 /\ e.size = 1 /\ e.own = false /\ e.dead = false /\ e.n <= 1000000000000 /\ ∀ p, p < e.n -> e.el p = [.int .u8 (S2.intOf (e.el p))]
theorem isRest_same {e : LE} (h : isRest e) : sameE e (rsE (bysL e)) := ⟨h.1, h.2.1, by show e.n = (bysL e).length; rw [bysL_len], h.2.2.1, h.2.2.2.1, fun i hi => by
 rw [h.2.2.2.2.2 i hi]
 show _ = [Value.int .u8 (((bysL e)[i]?).getD 0)]
 rw [bysL_get hi]⟩
theorem bysL_rs (B : List Int) : bysL (rsE B) = B := by
 refine List.ext_getElem (by rw [bysL_len]; rfl) fun i h1 h2 => ?_
 have := bysL_get (e := rsE B) (j := i) h2
 rw [List.getElem?_eq_getElem h1] at this
 rw [show (bysL (rsE B))[i] = S2.intOf ((rsE B).el i) from this]
 show ((B[i]?).getD 0) = _
 rw [List.getElem?_eq_getElem h2]; rfl
theorem isRest_rs {B : List Int} (h : B.length <= 1000000000000) : isRest (rsE B) := ⟨rfl, rfl, rfl, rfl, h, fun p hp => rfl⟩
noncomputable def eNum : ETab := erow 47 fun args own => match args, own with
 | [.inr (0, 0, none)], ⟨[⟨[.c 0, .inl (fl, .bool b)], T, .cells⟩], [e]⟩ => bif Nat.beq T 57 then some { x := .inl ([true], .int .i64 (numO (bysL e) b).1), sb := [(0, rdK 1 (numO (bysL e) b).2.2)], al := [rsE (numO (bysL e) b).2.1], ok := pre (propB (isRest e)) } else none
 | _, _ => none
theorem eNum_ok {gl : Gl} : EffOk Try.prog gl eNum := .row fun args own r h hr => by
 split at h
 . rename_i fl b T e
   cases hT : Nat.beq T 57
   . rw [hT] at h; cases h
   . rw [hT] at h
     simp only [cond_true, qS] at h
     subst h
     obtain rfl := qB hT
     have he := propB_ok.mp hr
     have s := isRest_same he
     have hm := num_sem (bysL e) b (by rw [bysL_len]; exact he.2.2.2.2.1)
     have h1 := hm.from (own2 := ⟨[rdK 0 b], [e]⟩) rfl ⟨s, trivial⟩
     have h2 := h1.same (own2 := ⟨[rdK 1 (numO (bysL e) b).2.2], [e, rsE (numO (bysL e) b).2.1]⟩) rfl ⟨(sameL_flip (l := [e]) (l' := [rsE (bysL e)]) ⟨s, trivial⟩).1, .refl _, trivial⟩
     have h3 := semF_pre (own2 := ⟨[⟨[.c 0, .inl (fl, .bool b)], 57, .cells⟩], [e]⟩) h2 ⟨.refl _, trivial⟩ (fun ν => rfl) rfl
     exact SemF.anyGlob h3
 . cases h
end Go.Proofs.Ytmaffamhjmlonaa
namespace Go.Proofs.Ytmaffamhjmlonaa
open Go.RowKit Sim S2
theorem semF_trim {P : Program} {gl : Gl} {F : FuncId} {args : List S2.SV} {own own' own2 : Mem} {x : S2.SV} (h : SemF P gl F args own x own') (hl : own2.b.length <= own'.b.length) (hk : ∀ i, i < own2.b.length -> own'.b[i]? = own2.b[i]?) (hk' : own2.l = own'.l) (hok : (own2.b.all fun b => b.cells.all (okVB own2.b.length own2.l.length)) = true) : SemF P gl F args own x own2 := fun w0 hG ν w vs hvs hw =>
 (h w0 hG ν w vs hvs hw).mono fun e w' ⟨ν', v, h1, h2, h3, h4⟩ => ⟨ν', v, h1, h2, h3, h4.restrict (fun i b hi c hc => okVB_ok (List.all_eq_true.mp (List.all_eq_true.mp hok b (List.mem_of_getElem? hi)) c hc)) ⟨fun _ _ => rfl, fun _ _ => rfl⟩ hl hk (fun i hi => by rw [hk'])⟩
noncomputable def enH13 (ef : ETab) : S2.Env := { envf Try.prog (fun _ => none) noT noP noL ef with nowrap := true }
theorem enH13_ok {ef : ETab} (h : EffOk Try.prog (fun _ => none) ef) : CallOk (enH13 ef) := ⟨(TabOk.none _ _), (PTabOk.none _ _), (LTabOk.none _ _), (fun _ _ _ _ h => by cases h), (fun _ _ _ h => by cases h), h⟩
noncomputable def refF (B : List Int) (b : Bool) : Rf × List Int × Bool := (⟨(numO B b).1, (numO (numO B b).2.1 (numO B b).2.2).1⟩, (numO (numO B b).2.1 (numO B b).2.2).2)
theorem refO_ex : ∃ f : List Int -> Bool -> Rf × List Int × Bool, ∀ B b, f B b = refF B b := ⟨_, fun _ _ => rfl⟩
noncomputable def refO : List Int -> Bool -> Rf × List Int × Bool := Classical.choose refO_ex
theorem refO_eq (B : List Int) (b : Bool) : refO B b = refF B b := Classical.choose_spec refO_ex B b
theorem ref_raw (B : List Int) (b : Bool) (hB : B.length <= 1000000000000) : SemF Try.prog (fun _ => none) 51 [.inr (0, 0, none)] ⟨[rdK 0 b], [rsE B]⟩ (.inl ([true, true], .agg #[.int .i64 (numO (bysL (rsE B)) b).1, .int .i64 (numO (bysL (rsE (numO (bysL (rsE B)) b).2.1)) (numO (bysL (rsE B)) b).2.2).1])) ⟨[rdK 2 (numO (bysL (rsE (numO (bysL (rsE B)) b).2.1)) (numO (bysL (rsE B)) b).2.2).2.2, ⟨[.inl ([true], .int .i64 (numO (bysL (rsE B)) b).1), .inl ([true], .int .i64 (numO (bysL (rsE (numO (bysL (rsE B)) b).2.1)) (numO (bysL (rsE B)) b).2.2).1)], 46, .cells⟩], [rsE B, rsE (numO (bysL (rsE B)) b).2.1, rsE (numO (bysL (rsE (numO (bysL (rsE B)) b).2.1)) (numO (bysL (rsE B)) b).2.2).2.1]⟩ := by
 have q1 := num_less B b
 refine fnS_ok (E := enH13 eNum) (enH13_ok eNum_ok) rfl (fuel := 1000) (d := 30) (plan := []) (orc := []) (l := [(pre (propB (isRest (rsE (numO (bysL (rsE B)) b).2.1))), true), (pre (propB (isRest (rsE B))), true)]) (tr := []) (by kernel_rfl) (by kernel_rfl) ?_ Try.func51 fun w0 hG t ht => by cases ht
 exact qA (propB_ok.mpr (isRest_rs (by rw [bysL_rs]; omega))) <| qA (propB_ok.mpr (isRest_rs hB)) qZ
theorem ref_sem (B : List Int) (b : Bool) (hB : B.length <= 1000000000000) : SemF Try.prog (fun _ => none) 51 [.inr (0, 0, none)] ⟨[rdK 0 b], [rsE B]⟩ (.inl ([true, true], .agg #[.int .i64 (refO B b).1.h, .int .i64 (refO B b).1.a])) ⟨[rdK 2 (refO B b).2.2], [rsE B, rsE (numO B b).2.1, rsE (refO B b).2.1]⟩ := by
 have h := ref_raw B b hB
 rw [bysL_rs, bysL_rs] at h
 rw [refO_eq]
 exact semF_trim h (by show 1 <= 2; omega) (fun i hi => by obtain rfl : i = 0 := Nat.lt_one_iff.mp hi; rfl) rfl rfl
theorem ref_less (B : List Int) (b : Bool) : (refO B b).2.1.length <= B.length := by
 rw [refO_eq]
 exact Nat.le_trans (num_less _ _) (num_less _ _)
theorem rd_lift {f : FuncId} {args : List S2.SV} {x : S2.SV} {e : LE} {fl : List Bool} {b : Bool} {bs : List S2.Blk} {al : List LE} (he : isRest e) (h : SemF Try.prog (fun _ => none) f args ⟨[rdK 0 b], [rsE (bysL e)]⟩ x ⟨bs, rsE (bysL e) :: al⟩) : SemF Try.prog (fun _ => none) f args ⟨[⟨[.c 0, .inl (fl, .bool b)], 57, .cells⟩], [e]⟩ x ⟨bs, e :: al⟩ := by
 have s := isRest_same he
 have h1 := h.from (own2 := ⟨[rdK 0 b], [e]⟩) rfl ⟨s, trivial⟩
 have h2 := h1.same (own2 := ⟨bs, e :: al⟩) rfl ⟨(sameL_flip (l := [e]) (l' := [rsE (bysL e)]) ⟨s, trivial⟩).1, sameL.refl al⟩
 exact semF_pre (own2 := ⟨[⟨[.c 0, .inl (fl, .bool b)], 57, .cells⟩], [e]⟩) h2 ⟨.refl _, trivial⟩ (fun ν => rfl) rfl
noncomputable def eRef : ETab := erow 51 fun args own => match args, own with
 | [.inr (0, 0, none)], ⟨[⟨[.c 0, .inl (fl, .bool b)], T, .cells⟩], [e]⟩ => bif Nat.beq T 57 then some { x := .inl ([true, true], .agg #[.int .i64 (refO (bysL e) b).1.h, .int .i64 (refO (bysL e) b).1.a]), sb := [(0, rdK 2 (refO (bysL e) b).2.2)], al := [rsE (numO (bysL e) b).2.1, rsE (refO (bysL e) b).2.1], ok := pre (propB (isRest e)) } else none
 | _, _ => none
theorem eRef_ok {gl : Gl} : EffOk Try.prog gl eRef := .row fun args own r h hr => by
 split at h
 . rename_i fl b T e
   cases hT : Nat.beq T 57
   . rw [hT] at h; cases h
   . rw [hT] at h
     simp only [cond_true, qS] at h
     subst h
     obtain rfl := qB hT
     have he := propB_ok.mp hr
     exact SemF.anyGlob (rd_lift he (ref_sem (bysL e) b (by rw [bysL_len]; exact he.2.2.2.2.1)))
 . cases h
noncomputable def recF (B : List Int) (b : Bool) : Rc × List Int × Bool :=
 let n1 := numO B b; let n2 := numO n1.2.1 n1.2.2; let r3 := refO n2.2.1 n2.2.2; let n4 := numO r3.2.1 r3.2.2
 (⟨n1.1, n2.1, r3.1.h, r3.1.a, n4.1 == 1, n4.1 == 2⟩, n4.2)
theorem recO_ex : ∃ f : List Int -> Bool -> Rc × List Int × Bool, ∀ B b, f B b = recF B b := ⟨_, fun _ _ => rfl⟩
noncomputable def recO : List Int -> Bool -> Rc × List Int × Bool := Classical.choose recO_ex
theorem recO_eq (B : List Int) (b : Bool) : recO B b = recF B b := Classical.choose_spec recO_ex B b
noncomputable def eNR : ETab := orE eNum eRef
theorem eNR_ok {gl : Gl} : EffOk Try.prog gl eNR := eNum_ok.or eRef_ok
noncomputable def recM (B : List Int) (b : Bool) : List LE :=
 let n1 := numO B b; let n2 := numO n1.2.1 n1.2.2; let n3 := numO n2.2.1 n2.2.2; let r3 := refO n2.2.1 n2.2.2
 [rsE n1.2.1, rsE n2.2.1, rsE n3.2.1, rsE r3.2.1]
theorem rec_raw (B : List Int) (b : Bool) (hB : B.length <= 1000000000000) : SemF Try.prog (fun _ => none) 49 [.inr (0, 0, none)] ⟨[rdK 0 b], [rsE B]⟩ (.inl ([true, true, true, true, true, true], .agg #[.int .i64 (numO (bysL (rsE B)) b).1, .int .i64 (numO (bysL (rsE (numO (bysL (rsE B)) b).2.1)) (numO (bysL (rsE B)) b).2.2).1, .int .i64 (refO (bysL (rsE (numO (bysL (rsE (numO (bysL (rsE B)) b).2.1)) (numO (bysL (rsE B)) b).2.2).2.1)) (numO (bysL (rsE (numO (bysL (rsE B)) b).2.1)) (numO (bysL (rsE B)) b).2.2).2.2).1.h, .int .i64 (refO (bysL (rsE (numO (bysL (rsE (numO (bysL (rsE B)) b).2.1)) (numO (bysL (rsE B)) b).2.2).2.1)) (numO (bysL (rsE (numO (bysL (rsE B)) b).2.1)) (numO (bysL (rsE B)) b).2.2).2.2).1.a, .bool ((numO (bysL (rsE (refO (bysL (rsE (numO (bysL (rsE (numO (bysL (rsE B)) b).2.1)) (numO (bysL (rsE B)) b).2.2).2.1)) (numO (bysL (rsE (numO (bysL (rsE B)) b).2.1)) (numO (bysL (rsE B)) b).2.2).2.2).2.1)) (refO (bysL (rsE (numO (bysL (rsE (numO (bysL (rsE B)) b).2.1)) (numO (bysL (rsE B)) b).2.2).2.1)) (numO (bysL (rsE (numO (bysL (rsE B)) b).2.1)) (numO (bysL (rsE B)) b).2.2).2.2).2.2).1 == 1), .bool ((numO (bysL (rsE (refO (bysL (rsE (numO (bysL (rsE (numO (bysL (rsE B)) b).2.1)) (numO (bysL (rsE B)) b).2.2).2.1)) (numO (bysL (rsE (numO (bysL (rsE B)) b).2.1)) (numO (bysL (rsE B)) b).2.2).2.2).2.1)) (refO (bysL (rsE (numO (bysL (rsE (numO (bysL (rsE B)) b).2.1)) (numO (bysL (rsE B)) b).2.2).2.1)) (numO (bysL (rsE (numO (bysL (rsE B)) b).2.1)) (numO (bysL (rsE B)) b).2.2).2.2).2.2).1 == 2)])) ⟨[rdK 5 (numO (bysL (rsE (refO (bysL (rsE (numO (bysL (rsE (numO (bysL (rsE B)) b).2.1)) (numO (bysL (rsE B)) b).2.2).2.1)) (numO (bysL (rsE (numO (bysL (rsE B)) b).2.1)) (numO (bysL (rsE B)) b).2.2).2.2).2.1)) (refO (bysL (rsE (numO (bysL (rsE (numO (bysL (rsE B)) b).2.1)) (numO (bysL (rsE B)) b).2.2).2.1)) (numO (bysL (rsE (numO (bysL (rsE B)) b).2.1)) (numO (bysL (rsE B)) b).2.2).2.2).2.2).2.2, ⟨[.inl ([true], .int .i64 (numO (bysL (rsE B)) b).1), .inl ([true], .int .i64 (numO (bysL (rsE (numO (bysL (rsE B)) b).2.1)) (numO (bysL (rsE B)) b).2.2).1), .inl ([true], .int .i64 (refO (bysL (rsE (numO (bysL (rsE (numO (bysL (rsE B)) b).2.1)) (numO (bysL (rsE B)) b).2.2).2.1)) (numO (bysL (rsE (numO (bysL (rsE B)) b).2.1)) (numO (bysL (rsE B)) b).2.2).2.2).1.h), .inl ([true], .int .i64 (refO (bysL (rsE (numO (bysL (rsE (numO (bysL (rsE B)) b).2.1)) (numO (bysL (rsE B)) b).2.2).2.1)) (numO (bysL (rsE (numO (bysL (rsE B)) b).2.1)) (numO (bysL (rsE B)) b).2.2).2.2).1.a), .inl ([true], .bool ((numO (bysL (rsE (refO (bysL (rsE (numO (bysL (rsE (numO (bysL (rsE B)) b).2.1)) (numO (bysL (rsE B)) b).2.2).2.1)) (numO (bysL (rsE (numO (bysL (rsE B)) b).2.1)) (numO (bysL (rsE B)) b).2.2).2.2).2.1)) (refO (bysL (rsE (numO (bysL (rsE (numO (bysL (rsE B)) b).2.1)) (numO (bysL (rsE B)) b).2.2).2.1)) (numO (bysL (rsE (numO (bysL (rsE B)) b).2.1)) (numO (bysL (rsE B)) b).2.2).2.2).2.2).1 == 1)), .inl ([true], .bool ((numO (bysL (rsE (refO (bysL (rsE (numO (bysL (rsE (numO (bysL (rsE B)) b).2.1)) (numO (bysL (rsE B)) b).2.2).2.1)) (numO (bysL (rsE (numO (bysL (rsE B)) b).2.1)) (numO (bysL (rsE B)) b).2.2).2.2).2.1)) (refO (bysL (rsE (numO (bysL (rsE (numO (bysL (rsE B)) b).2.1)) (numO (bysL (rsE B)) b).2.2).2.1)) (numO (bysL (rsE (numO (bysL (rsE B)) b).2.1)) (numO (bysL (rsE B)) b).2.2).2.2).2.2).1 == 2))], 48, .cells⟩, ⟨[.inl ([true], .int .i64 (refO (bysL (rsE (numO (bysL (rsE (numO (bysL (rsE B)) b).2.1)) (numO (bysL (rsE B)) b).2.2).2.1)) (numO (bysL (rsE (numO (bysL (rsE B)) b).2.1)) (numO (bysL (rsE B)) b).2.2).2.2).1.h), .inl ([true], .int .i64 (refO (bysL (rsE (numO (bysL (rsE (numO (bysL (rsE B)) b).2.1)) (numO (bysL (rsE B)) b).2.2).2.1)) (numO (bysL (rsE (numO (bysL (rsE B)) b).2.1)) (numO (bysL (rsE B)) b).2.2).2.2).1.a)], 46, .cells⟩], [rsE B, rsE (numO (bysL (rsE B)) b).2.1, rsE (numO (bysL (rsE (numO (bysL (rsE B)) b).2.1)) (numO (bysL (rsE B)) b).2.2).2.1, rsE (numO (bysL (rsE (numO (bysL (rsE (numO (bysL (rsE B)) b).2.1)) (numO (bysL (rsE B)) b).2.2).2.1)) (numO (bysL (rsE (numO (bysL (rsE B)) b).2.1)) (numO (bysL (rsE B)) b).2.2).2.2).2.1, rsE (refO (bysL (rsE (numO (bysL (rsE (numO (bysL (rsE B)) b).2.1)) (numO (bysL (rsE B)) b).2.2).2.1)) (numO (bysL (rsE (numO (bysL (rsE B)) b).2.1)) (numO (bysL (rsE B)) b).2.2).2.2).2.1, rsE (numO (bysL (rsE (refO (bysL (rsE (numO (bysL (rsE (numO (bysL (rsE B)) b).2.1)) (numO (bysL (rsE B)) b).2.2).2.1)) (numO (bysL (rsE (numO (bysL (rsE B)) b).2.1)) (numO (bysL (rsE B)) b).2.2).2.2).2.1)) (refO (bysL (rsE (numO (bysL (rsE (numO (bysL (rsE B)) b).2.1)) (numO (bysL (rsE B)) b).2.2).2.1)) (numO (bysL (rsE (numO (bysL (rsE B)) b).2.1)) (numO (bysL (rsE B)) b).2.2).2.2).2.2).2.1]⟩ := by
 have q1 := num_less B b
 have q2 := num_less (numO B b).2.1 (numO B b).2.2
 have q3 := ref_less (numO (numO B b).2.1 (numO B b).2.2).2.1 (numO (numO B b).2.1 (numO B b).2.2).2.2
 refine fnS_ok (E := enH13 eNR) (enH13_ok eNR_ok) rfl (fuel := 1000) (d := 30) (plan := []) (orc := []) (l := [(pre (propB (isRest (rsE (refO (bysL (rsE (numO (bysL (rsE (numO (bysL (rsE B)) b).2.1)) (numO (bysL (rsE B)) b).2.2).2.1)) (numO (bysL (rsE (numO (bysL (rsE B)) b).2.1)) (numO (bysL (rsE B)) b).2.2).2.2).2.1))), true), (pre (propB (isRest (rsE (numO (bysL (rsE (numO (bysL (rsE B)) b).2.1)) (numO (bysL (rsE B)) b).2.2).2.1))), true), (pre (propB (isRest (rsE (numO (bysL (rsE B)) b).2.1))), true), (pre (propB (isRest (rsE B))), true)]) (tr := []) (by kernel_rfl) (by kernel_rfl) ?_ Try.func49 fun w0 hG t ht => by cases ht
 simp only [bysL_rs]
 exact qA (propB_ok.mpr (isRest_rs (by omega))) <| qA (propB_ok.mpr (isRest_rs (by omega))) <| qA (propB_ok.mpr (isRest_rs (by omega))) <| qA (propB_ok.mpr (isRest_rs hB)) qZ
theorem rec_sem (B : List Int) (b : Bool) (hB : B.length <= 1000000000000) : SemF Try.prog (fun _ => none) 49 [.inr (0, 0, none)] ⟨[rdK 0 b], [rsE B]⟩ (.inl ([true, true, true, true, true, true], .agg #[.int .i64 (recO B b).1.pc, .int .i64 (recO B b).1.val, .int .i64 (recO B b).1.sh, .int .i64 (recO B b).1.sa, .bool (recO B b).1.wt, .bool (recO B b).1.fl])) ⟨[rdK 5 (recO B b).2.2], [rsE B] ++ recM B b ++ [rsE (recO B b).2.1]⟩ := by
 have h := rec_raw B b hB
 simp only [bysL_rs] at h
 rw [recO_eq]
 exact semF_trim h (by show 1 <= 3; omega) (fun i hi => by obtain rfl : i = 0 := Nat.lt_one_iff.mp hi; rfl) rfl rfl
theorem rec_less (B : List Int) (b : Bool) : (recO B b).2.1.length <= B.length := by
 rw [recO_eq]
 exact Nat.le_trans (num_less _ _) (Nat.le_trans (ref_less _ _) (Nat.le_trans (num_less _ _) (num_less _ _)))
noncomputable def eRec : ETab := erow 49 fun args own => match args, own with
 | [.inr (0, 0, none)], ⟨[⟨[.c 0, .inl (fl, .bool b)], T, .cells⟩], [e]⟩ => bif Nat.beq T 57 then some { x := .inl ([true, true, true, true, true, true], .agg #[.int .i64 (recO (bysL e) b).1.pc, .int .i64 (recO (bysL e) b).1.val, .int .i64 (recO (bysL e) b).1.sh, .int .i64 (recO (bysL e) b).1.sa, .bool (recO (bysL e) b).1.wt, .bool (recO (bysL e) b).1.fl]), sb := [(0, rdK 5 (recO (bysL e) b).2.2)], al := recM (bysL e) b ++ [rsE (recO (bysL e) b).2.1], ok := pre (propB (isRest e)) } else none
 | _, _ => none
theorem eRec_ok {gl : Gl} : EffOk Try.prog gl eRec := .row fun args own r h hr => by
 split at h
 . rename_i fl b T e
   cases hT : Nat.beq T 57
   . rw [hT] at h; cases h
   . rw [hT] at h
     simp only [cond_true, qS] at h
     subst h
     obtain rfl := qB hT
     have he := propB_ok.mp hr
     exact SemF.anyGlob (rd_lift he (rec_sem (bysL e) b (by rw [bysL_len]; exact he.2.2.2.2.1)))
 . cases h
end Go.Proofs.Ytmaffamhjmlonaa
