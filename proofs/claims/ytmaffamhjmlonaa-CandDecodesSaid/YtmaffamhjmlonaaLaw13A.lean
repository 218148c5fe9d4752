/- Layer 13: CandChecks: what follows Decode, whose answer lies nobody knows where. -/
import Derived.Test.YtmaffamhjmlonaaK08
import Derived.Test.YtmaffamhjmlonaaK13
import Derived.Test.YtmaffamhjmlonaaByt13
import Derived.Test.YtmaffamhjmlonaaK14
set_option linter.unusedVariables false
set_option linter.unusedSimpArgs false
namespace Go.Proofs.Ytmaffamhjmlonaa
open Go Go.RowKit Sim S2
def seqL : Code -> Code | .seq a _ => a | _ => .skip
def seqR : Code -> Code | .seq _ b => b | _ => .skip
def regO : Code -> Array Oper | .region _ o _ => o | _ => #[]
def regI : Code -> Nat | .region i _ _ => i | _ => 0
def hdO : List Oper → Oper | o :: _ => o | [] => { dst := none, op := .move (.const undef), type := 0, pos := "", after := #[], guard := none }
noncomputable def ccK : Code := codeAt (codeOf Try.prog 3) [1, 1, 1, 1, 1, 1]
noncomputable def ccO : Array Oper := regO (seqL ccK)
noncomputable def ccD : Oper := hdO (ccO.toList.drop 1)
theorem ccK_eq : ccK = .seq (.region (regI (seqL ccK)) ccO false) (seqR ccK) := by kernel_rfl
theorem ccO_eq : ccO.toList = ccO.toList.take 1 ++ ccD :: ccO.toList.drop 2 := by kernel_rfl
def ccS (c : Cn) (B : List Int) (l : List (Nat × S2.SV)) : S2.St := { tmps := [(1, .inr (0, 0, none)), (4, .c 0)] ++ l, own := ⟨[cnB c], [byE B]⟩, lo := 0, llo := 0, mem := true, orc := [], obl := [] }
def ccP1 : Pick := { ts := [1, 4, 36], bs := [0], ls := [0] }
def ccE (c : Cn) : S2.LE := ⟨25, 2, 1, fun _ => [.slice c.ha c.hn c.hc, .slice c.ra c.rn c.rc], false, false, true⟩
def ccA (c : Cn) (B : List Int) (g : Nat) (l : List (Nat × S2.SV)) : S2.St := { tmps := l ++ [(1, .rp (ownV g) (ccE c) 0 0), (4, .c 0)], own := ⟨[], [{ byE B with own := false }]⟩, lo := 0, llo := 0, mem := true, orc := [], obl := [] }
def ccX (d : Cn) : S2.SV := .tp [.inl ([true, true], cnV d), .inl ([true], .int .i64 0)]
def ccP2 : Pick := { ts := [1, 4, 6, 7], bs := [0], ls := [0] }
def ccB (c d : Cn) (B : List Int) (g : Nat) : S2.St := { tmps := [(1, .rp (ownV g) (ccE c) 0 0), (4, .c 0), (6, .inr (0, 0, none)), (7, .inl ([true], .int .i64 0))], own := ⟨[cnB d], [{ byE B with own := false }]⟩, lo := 0, llo := 0, mem := true, orc := [], obl := [] }
def ccT : S2.St := { tmps := [(2, .inl ([true], .bool true))], own := ⟨[], []⟩, lo := 0, llo := 0, mem := true, orc := [], obl := [] }
def ccP3 : Pick := { ts := [2], bs := [], ls := [], opn := [2] }
noncomputable def tAw13 : Tab := row 7 dec0 fun _ => .bool true
noncomputable def enH (gl0 gl2 : Gl) : S2.Env := enD gl2 tAw13 (pRefSame gl2) (orL (lByt13 gl0) lRefSame)
theorem enH_ok {gl0 gl2 : Gl} (hAw : ∀ w, Ret Try.prog 7 #[] (.bool true) w) (h : GlTo gl0 gl2) : CallOk (enH gl0 gl2) :=
 enD_ok (tab0 fun w hG => hAw w) pRefSame_ok ((ltab_to lByt13_ok h).or lRefSame_ok)
def DecOk (W : World) (c : Cn) (B : List Int) : Prop := ∀ w1 vals, GlobOk (frz W) w1 -> ArgsOk w1 [.inr (byE B)] vals -> Calls Try.prog 11 vals.toArray w1 fun e w2 => ∃ d : Cn, e = .returned (.tuple #[cnV d, .int .i64 0]) /\ Below w1.heap.size w1 w2 /\ CnOk (frz w2) d /\ CnSm (frz w2) d /\ hartsT (frz w2) d = hartsT (frz W) c /\ rowsT (frz w2) d = rowsT (frz W) c
theorem argsOk_own {w : World} {B : Nat} {e : LE} {v : Value} (h : InB w.heap.size w e v) : ArgsOk w [.inr e] [v] := ⟨h, trivial⟩
theorem cc_told {W : World} {tab : Tab} {pt : PTab} {lt : LTab} (h1 : TabOk Try.prog (frz W) tab) (h2 : PTabOk Try.prog (frz W) pt) (h3 : LTabOk Try.prog (frz W) lt) (c : Cn) (hc : CnOk (frz W) c) (hbd : CnBd (frz W) c) (hin : CnIn (frz W) c)
   (hBy : sameBytes (byE (bytL (frz W) c)) (byE (bytL (frz W) c))) (hDec : DecOk W c (bytL (frz W) c)) (hAw : ∀ w, Ret Try.prog 7 #[] (.bool true) w) : S2.Sem (enD (frz W) tab pt lt) W 56 ccK (ccS c (bytL (frz W) c) []) (some none) ccT := by
 rw [ccK_eq]
 refine sem_mid (α := Cn) (enD_ok h1 h2 h3) (frz_ok W) (fuel := 1000) (d := 37) (p := ccP1) [] [] (s1 := ccS c (bytL (frz W) c) [(36, .c 0)]) (f := 11) (args := [.c 0]) (fun d => .tuple #[cnV d, .int .i64 0])
   (fun w2 d => CnOk (frz w2) d /\ CnSm (frz w2) d /\ hartsT (frz w2) d = hartsT (frz W) c /\ rowsT (frz w2) d = rowsT (frz W) c) ccO_eq (by kernel_rfl) (by kernel_rfl) (fun p hp => by cases hp) (by kernel_rfl) (by kernel_rfl) (by kernel_rfl) ⟨_, Try.func11, by kernel_rfl, by kernel_rfl⟩ rfl rfl ?_ ?_
 . intro ν1 w1 vs hw hG hvs
   have hv : vs = [ν1.v 0] := by
     match vs, hvs with
     | [v], hvs => rw [show v = ν1.v 0 from hvs.1]
   subst hv
   exact hDec w1 _ hG (argsOk_own (B := 0) (lst_in hw (Below.refl _ _) (k := 0) rfl rfl))
 . intro ν1 w1 d w2 hw hb ⟨k1, k2, k3, k4⟩
   have hbb : Below W.heap.size W w2 := below_back hw.below hb
   have hcc : CnOk (frz w2) c := hc.keep hbb
   have hrow : rowG (frz w2) (ownV (ν1.l 0)) (ccE c) := rowG_keep hb (own_row hw (i := 0) (b := cnB c) rfl rfl (show 0 < 2 by omega) rfl)
   have hsm : sameZ (frz w2) d c = true := same_iff.mpr ⟨k3.trans (harts_keep hbb hc).symm, k4.trans (rows_keep hbb hc).symm⟩
   exact ⟨{
     E2 := enH (frz W) (frz w2)
     hC := enH_ok hAw (frz_to hbb)
     hG := frz_ok w2
     hP := rfl
     ν2 := ⟨fun _ => 0, fun _ => ν1.v 0⟩
     xc := ccX d
     sa := ccA c (bytL (frz W) c) (ν1.l 0) []
     s2 := ccA c (bytL (frz W) c) (ν1.l 0) [(37, ccX d)]
     s3 := ccB c d (bytL (frz W) c) (ν1.l 0)
     put := by kernel_rfl
     is := rfl
     tm := fun p hp u hu => by
       rcases List.mem_cons.mp hp with rfl | hp
       . exact own_ptr (b := cnB c) hu
       . obtain rfl := List.mem_singleton.mp hp
         exact hu
     wr := WR.lists w2 _ _ fun k e hk => by
       match k, hk with
       | 0, hk =>
         obtain rfl := Option.some.inj hk
         exact ⟨rfl, (lst_in hw hb (k := 0) (e := byE (bytL (frz W) c)) rfl rfl : InB w2.heap.size w2 (byE (bytL (frz W) c)) (ν1.v 0))⟩
     fuel := 1000
     p := ccP2
     orc := []
     ob := []
     good := by kernel_rfl
     run := by kernel_rfl
     hh := fun p hp => by cases hp
     rest := by
       refine sem_iter (enH_ok hAw (frz_to hbb)) (frz_ok w2) (p := ccP3) (fuel := 1000) [true, true, true, true] [(sameZ (frz w2) d c, true), (pre (propB (CnOk (frz w2) d /\ CnOk (frz w2) c /\ CnSm (frz w2) d)), true), (pre (rowB (frz w2) (ownV (ν1.l 0)) (ccE c)), true), (pre (decide (0 < 1)), true), (true, true), (true, true), (pre (propB (sameBytes { byE (bytL (frz W) c) with own := false } (byE (bytL (frz W) c)))), true), (pre (propB (CnOk (frz W) c /\ CnBd (frz W) c /\ CnIn (frz W) c)), true), (pre (rowB (frz w2) (ownV (ν1.l 0)) (ccE c)), true), (pre (decide (0 < 1)), true)] (by kernel_rfl) (by kernel_rfl) ?_
       refine qF ?_ ?_ ?_ ?_ <| qF ?_ ?_ ?_ ?_ <| qA ?_ <| qA ?_ <| qZ
       . exact hsm
       . exact propB_ok.mpr ⟨k1, hcc, k2⟩
       . exact rowB_ok.mpr hrow
       . rfl
       . rfl
       . rfl
       . exact propB_ok.mpr hBy
       . exact propB_ok.mpr ⟨hc, hbd, hin⟩
       . exact rowB_ok.mpr hrow
       . rfl }⟩
end Go.Proofs.Ytmaffamhjmlonaa
