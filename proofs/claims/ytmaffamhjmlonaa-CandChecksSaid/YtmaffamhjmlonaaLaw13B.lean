/- Layer 13: CandDecodes: what follows Decode. -/
import Derived.Test.YtmaffamhjmlonaaLaw13A
set_option linter.unusedVariables false
set_option linter.unusedSimpArgs false
namespace Go.Proofs.Ytmaffamhjmlonaa
open Go Go.RowKit Sim S2
noncomputable def cdK : Code := codeAt (codeOf Try.prog 4) [1, 1]
noncomputable def cdO : Array Oper := regO (seqL cdK)
noncomputable def cdD : Oper := hdO (cdO.toList.drop 1)
theorem cdK_eq : cdK = .seq (.region (regI (seqL cdK)) cdO false) (seqR cdK) := by kernel_rfl
theorem cdO_eq : cdO.toList = cdO.toList.take 1 ++ cdD :: cdO.toList.drop 2 := by kernel_rfl
def cdS (B : List Int) (l : List (Nat × S2.SV)) : S2.St := { tmps := l ++ [(0, .c 0)], own := ⟨[], [{ byE B with own := false }]⟩, lo := 0, llo := 0, mem := true, orc := [], obl := [] }
def cdP1 : Pick := { ts := [10, 0], bs := [], ls := [0] }
def cdX (d : Cn) (k : Int) : S2.SV := .tp [.inl ([true, true], cnV d), .inl ([true], .int .i64 k)]
def cdP2 : Pick := { ts := [0, 3, 4], bs := [0], ls := [0] }
def cdB (d : Cn) (k : Int) (B : List Int) : S2.St := { tmps := [(0, .c 0), (3, .inr (0, 0, none)), (4, .inl ([true], .int .i64 k))], own := ⟨[cnB d], [{ byE B with own := false }]⟩, lo := 0, llo := 0, mem := true, orc := [], obl := [] }
noncomputable def enJ (gl2 : Gl) : S2.Env := enD gl2 tAw13 (orP (pRefSame gl2) (pRefCheck gl2)) (orL (lByt13 gl2) lRefSame)
def cn0 : Cn := ⟨none, 0, 0, none, 0, 0⟩
theorem enJ_ok {gl2 : Gl} (hAw : ∀ w, Ret Try.prog 7 #[] (.bool true) w) : CallOk (enJ gl2) :=
 enD_ok (tab0 fun w hG => hAw w) (pRefSame_ok.or pRefCheck_ok) (lByt13_ok.or lRefSame_ok)
theorem cn0_ok (gl : Gl) : CnOk gl cn0 :=
 ⟨⟨⟨Nat.zero_lt_succ _, fun j hj => absurd hj (Nat.not_lt_zero _)⟩, none, 0, rfl, Nat.le_refl _, fun h => absurd h (Nat.lt_irrefl _)⟩, ⟨⟨Nat.zero_lt_succ _, fun j hj => absurd hj (Nat.not_lt_zero _)⟩, none, 0, rfl, Nat.le_refl _, fun h => absurd h (Nat.lt_irrefl _)⟩, fun i hi => absurd hi (Nat.not_lt_zero _), fun i hi => absurd hi (Nat.not_lt_zero _)⟩
def DecAny (W : World) (B : List Int) : Prop := ∀ w1 vals, GlobOk (frz W) w1 -> ArgsOk w1 [.inr (byE B)] vals -> Calls Try.prog 11 vals.toArray w1 fun e w2 => ∃ dk : Cn × Int, e = .returned (.tuple #[cnV dk.1, .int .i64 dk.2]) /\ Below w1.heap.size w1 w2 /\ CnOk (frz w2) dk.1 /\ CnSm (frz w2) dk.1 /\
 ((dk.2 = 1 /\ dk.1.hn = 0 /\ dk.1.rn = 0) \/ (dk.2 = 0 /\ chkZ (frz w2) dk.1 = 0 /\ CnIn (frz w2) dk.1 /\ bytL (frz w2) dk.1 = B))
theorem cd_told {W : World} {tab : Tab} {pt : PTab} {lt : LTab} (h1 : TabOk Try.prog (frz W) tab) (h2 : PTabOk Try.prog (frz W) pt) (h3 : LTabOk Try.prog (frz W) lt) (B : List Int)
   (hBy : sameBytes (byE B) (byE B)) (hDec : DecAny W B) (hAw : ∀ w, Ret Try.prog 7 #[] (.bool true) w) : S2.Sem (enD (frz W) tab pt lt) W 38 cdK (cdS B []) (some none) ccT := by
 rw [cdK_eq]
 refine sem_mid (α := Cn × Int) (enD_ok h1 h2 h3) (frz_ok W) (fuel := 1000) (d := 11) (p := cdP1) [] [] (s1 := cdS B [(10, .c 0)]) (f := 11) (args := [.c 0]) (fun dk => .tuple #[cnV dk.1, .int .i64 dk.2])
   (fun w2 dk => CnOk (frz w2) dk.1 /\ CnSm (frz w2) dk.1 /\ ((dk.2 = 1 /\ dk.1.hn = 0 /\ dk.1.rn = 0) \/ (dk.2 = 0 /\ chkZ (frz w2) dk.1 = 0 /\ CnIn (frz w2) dk.1 /\ bytL (frz w2) dk.1 = B))) cdO_eq (by kernel_rfl) (by kernel_rfl) (fun p hp => by cases hp) (by kernel_rfl) (by kernel_rfl) (by kernel_rfl) ⟨_, Try.func11, by kernel_rfl, by kernel_rfl⟩ rfl rfl ?_ ?_
 . intro ν1 w1 vs hw hG hvs
   have hv : vs = [ν1.v 0] := by
     match vs, hvs with
     | [v], hvs => rw [show v = ν1.v 0 from hvs.1]
   subst hv
   exact hDec w1 _ hG (argsOk_own (B := 0) (lst_in hw (Below.refl _ _) (k := 0) (e := { byE B with own := false }) rfl rfl : InB w1.heap.size w1 (byE B) (ν1.v 0)))
 . rintro ν1 w1 ⟨d, k⟩ w2 hw hb ⟨k1, k2, k3⟩
   exact ⟨{
     E2 := enJ (frz w2)
     hC := enJ_ok hAw
     hG := frz_ok w2
     hP := rfl
     ν2 := ⟨fun _ => 0, fun _ => ν1.v 0⟩
     xc := cdX d k
     sa := cdS B []
     s2 := cdS B [(11, cdX d k)]
     s3 := cdB d k B
     put := by kernel_rfl
     is := rfl
     tm := fun p hp u hu => by
       obtain rfl := List.mem_singleton.mp hp
       exact hu
     wr := WR.lists w2 _ _ fun j e hk => by
       match j, hk with
       | 0, hk =>
         obtain rfl := Option.some.inj hk
         exact ⟨rfl, lst_in hw hb (k := 0) (e := { byE B with own := false }) rfl rfl⟩
     fuel := 1000
     p := cdP2
     orc := []
     ob := []
     good := by kernel_rfl
     run := by kernel_rfl
     hh := fun p hp => by cases hp
     rest := by
       rcases k3 with ⟨m1, m2, m3⟩ | ⟨m1, m2, m3, m4⟩
       . have hk1 : k = 1 := m1
         have hs : sameZ (frz w2) d cn0 = true := same_iff.mpr ⟨by unfold hartsT; rw [show d.hn = 0 from m2]; rfl, by unfold rowsT; rw [show d.rn = 0 from m3]; rfl⟩
         refine sem_iter (enJ_ok hAw) (frz_ok w2) (p := ccP3) (fuel := 1000) [true, true, true, true] [(sameZ (frz w2) d cn0, true), (pre (propB (CnOk (frz w2) d /\ CnOk (frz w2) cn0 /\ CnSm (frz w2) d)), true), (k == 1, true), (k != 0, true)] (by kernel_rfl) (by kernel_rfl) ?_
         refine qF ?_ ?_ ?_ ?_ <| qZ
         . exact hs
         . exact propB_ok.mpr ⟨k1, cn0_ok _, k2⟩
         . rw [hk1]; rfl
         . rw [hk1]; rfl
       . have hk1 : k = 0 := m1
         have hc0 : chkZ (frz w2) d = 0 := m2
         have hB : bytL (frz w2) d = B := m4
         refine sem_iter (enJ_ok hAw) (frz_ok w2) (p := ccP3) (fuel := 1000) [false, true, true, true] [(true, true), (pre (propB (sameBytes (byE (bytL (frz w2) d)) { byE B with own := false })), true), (pre (propB (CnOk (frz w2) d /\ CnBd (frz w2) d /\ CnIn (frz w2) d)), true), (chkZ (frz w2) d == 0, true), (pre (propB (CnOk (frz w2) d /\ CnSm (frz w2) d)), true), (k != 0, false)] (by kernel_rfl) (by kernel_rfl) ?_
         refine qF ?_ ?_ ?_ ?_ <| qA ?_ <| qA ?_ <| qZ
         . rfl
         . exact propB_ok.mpr (by rw [hB]; exact hBy)
         . exact propB_ok.mpr ⟨k1, cnBd_of hc0, m3⟩
         . rw [hc0]; rfl
         . exact propB_ok.mpr ⟨k1, k2⟩
         . rw [hk1]; rfl }⟩
end Go.Proofs.Ytmaffamhjmlonaa
