/- Layer 11: the law's own question (does the program answer at all?); what the document asks of package link is so. -/
import Derived.Test.YtilljoemebbnjaaDoorLay11
set_option linter.unusedVariables false
set_option linter.unusedSimpArgs false
namespace Go.Proofs.YtilljoemebbnjaaDoor
open Go.RowKit Sim S2
def ecI : In := ⟨64, 0, 0, 0, 0, false, false⟩
def awP : Pts := ⟨1, fun _ => none, fun _ => 1, fun _ => 1, fun _ => 0, fun _ _ => ⟨0, ecI, 0, 5⟩⟩
def awI : List In := [inst 1 4 0 4096, inst 1 2 0 4096, ecI]
def awX : List It := [mkI 0 (inst 1 4 0 4096), mkI 0 (inst 1 2 0 4096), ⟨0, ecI, 0, 5⟩]
theorem LD_base (rd : Int) : LD rd 16777216 = [inst 1 rd 0 4096] := by
 have h12 : fitZ 16777216 12 = false := by decide
 have h32 : fitZ 16777216 32 = true := by decide
 have hl : lowZ 16777216 12 = 0 := by rw [low12]; decide
 have hh : hiZ 16777216 = 4096 := by unfold hiZ; rw [hl, ar_sub, wrap_i64, ar_shr12]; decide
 unfold LD ldL
 rw [h12, h32]
 show baseL rd 16777216 = _
 unfold baseL
 rw [h12, hh, hl, low20]
 rfl
theorem awX_eq : lkX awP 0 0 = awX := by
 show xpL (stbF 0 (awP.f 0)) 3 = awX
 show (([] ++ xpd (stbI 4 16777216)) ++ xpd (stbI 2 (16777216 + 8 * 0))) ++ xpd ⟨0, ecI, 0, 5⟩ = awX
 have h4 : xpd (stbI 4 16777216) = [mkI 0 (inst 1 4 0 4096)] := by
   show (LD 4 16777216).map (mkI 0) = _
   rw [LD_base]; rfl
 have h2 : xpd (stbI 2 (16777216 + 8 * 0)) = [mkI 0 (inst 1 2 0 4096)] := by
   show (LD 2 16777216).map (mkI 0) = _
   rw [LD_base]; rfl
 rw [h4, h2]; rfl
theorem awK (i : Nat) (hi : i < 3) : (elI awX i).kind = 0 := by
 have : i = 0 \/ i = 1 \/ i = 2 := by omega
 rcases this with rfl | rfl | rfl <;> rfl
theorem awG (i : Nat) : lgG 3 (elI awX) i = false := by
 cases e : lgG 3 (elI awX) i
 . rfl
 . obtain ⟨h1, h2⟩ := lgG_kind e
   have := awK i h1
   rw [this] at h2; exact absurd h2 (by decide)
theorem awW (i : Nat) (hi : i < 3) : layW (elI awX) (lgG 3 (elI awX)) 3 i = [(elI awX i).ins] := by
 unfold layW; rw [awG, awK i hi]; rfl
theorem awA : lkA awP 0 0 = awI := by
 unfold lkA
 rw [awX_eq]
 show (([] ++ layW (elI awX) (lgG 3 (elI awX)) 3 0) ++ layW (elI awX) (lgG 3 (elI awX)) 3 1) ++ layW (elI awX) (lgG 3 (elI awX)) 3 2 = _
 rw [awW 0 (by decide), awW 1 (by decide), awW 2 (by decide)]; rfl
theorem awM : lkM awP 0 0 = [0, 0, 5] := by
 unfold lkM
 rw [awX_eq]
 show (([] ++ (layW (elI awX) (lgG 3 (elI awX)) 3 0).map fun _ => (elI awX 0).note) ++ (layW (elI awX) (lgG 3 (elI awX)) 3 1).map fun _ => (elI awX 1).note) ++ (layW (elI awX) (lgG 3 (elI awX)) 3 2).map (fun _ => (elI awX 2).note) = _
 rw [awW 0 (by decide), awW 1 (by decide), awW 2 (by decide)]; rfl
theorem awF : lkFar awP 0 0 = none := by
 unfold lkFar
 rw [awX_eq]
 show fstN (badJ (elI awX) (lgG 3 (elI awX)) 3) 3 = none
 refine fst_all fun i hi => ?_
 unfold badJ
 rw [awG, awK i hi]; rfl
theorem awB : badU awP 0 = false := by decide
theorem awC : lqC awP 0 0 := ⟨by decide, fun i hi => ⟨by show _ <= (0 : Int); decide, by show (0 : Int) <= _; decide⟩, by decide, by decide⟩
theorem awMay : ∀ x ∈ awI, mayB x = true := fun x hx => by
 simp only [awI, List.mem_cons, List.not_mem_nil, or_false] at hx
 rcases hx with rfl | rfl | rfl <;> decide
theorem awE : encZ ecI = 115 := by decide +kernel
noncomputable def awT : LTab := orL (lLyY awP 0 0) (lAl (lkA awP 0 0))
noncomputable def envAw (gl : Gl) : S2.Env := { envk Tryd.prog gl true noT noP awT with lit := true }
theorem envAw_ok {gl : Gl} (hT : GlTo gl9 gl) (hE : GlTo encGl gl) : CallOk (envAw gl) := envk_ok (nw := true) (.none _ _) (.none _ _) ((lLyY_ok hT awP 0 0).or (ltab_to (lAl_ok _) hE))
def awL : LE := rawI 1 (tabE [itC ⟨0, ecI, 0, 5⟩])
theorem awL_is : isItE awL 1 (awP.f 0) := ⟨rfl, rfl, fun j hj => by
 obtain rfl : j = 0 := by omega
 rfl, by decide⟩
theorem isWd_raw (A : List In) : isWd (raw7 (0 + A.length) (joinE 0 emp0 (wdE A).el)) A := ⟨rfl, by show 0 + A.length = A.length; omega, fun j hj => by
 show joinE 0 emp0 (wdE A).el j = inC ((A[j]?).getD zI10)
 rfl⟩
set_option maxRecDepth 100000 in
theorem awake11_ret {gl : Gl} (hT : GlTo gl9 gl) (hE : GlTo encGl gl) (w : World) (hG : GlobOk gl w) : Ret Tryd.prog 7 #[] (.bool true) w := by
 have hA : (lkA awP 0 0).length = 3 := by rw [awA]; rfl
 have hM : (lkM awP 0 0).length = 3 := by rw [awM]; rfl
 have hl : ((lkA awP 0 0).map encZ).length = 3 := by rw [List.length_map, hA]
 have hm : (0 + (lkM awP 0 0).length) = 3 := by omega
 have hw : ((awI.map encZ)[2]?).getD 0 == 115 := by
   show (encZ ecI == 115) = true
   rw [awE]; rfl
 have key := (fn_ok (envAw_ok hT hE) (fuel := 3000) (d := 60) (plan := []) (orc := [false, false, true, true, true]) (fls := []) (args := []) (res := [.inl (.bool (((lkM awP 0 0)[2]?).getD 0 == 5))]) (l := [(pre (decide (2 < 0 + (lkM awP 0 0).length)), true), (pre (idxB 2 (0 + (lkM awP 0 0).length)), true), (((0 + (lkM awP 0 0).length : Nat) : Int) == 3, true), ((((lkA awP 0 0).map encZ)[2]?).getD 0 == 115, true), (pre (decide (2 < ((lkA awP 0 0).map encZ).length)), true), (pre (idxB 2 ((lkA awP 0 0).map encZ).length), true), ((((lkA awP 0 0).map encZ).length : Int) == 3, true), (pre (decide ((0 : Int) <= 0 /\ 0 <= maxLen /\ 0 * 8 <= 140737488355328)), true), (pre (propB (isWd (raw7 (0 + (lkA awP 0 0).length) (joinE 0 emp0 (wdE (lkA awP 0 0)).el)) (lkA awP 0 0) /\ (lkA awP 0 0).length <= 1000000000 /\ ∀ x ∈ (lkA awP 0 0), mayB x = true)), true), (decide (((0 + (lkA awP 0 0).length : Nat) : Int) > 262144), false), (pre (decide (0 + (lkM awP 0 0).length <= maxLen /\ (0 + (lkM awP 0 0).length) * 8 <= 140737488355328 /\ 0 < (lkM awP 0 0).length)), true), (pre (decide (0 + (lkA awP 0 0).length <= maxLen /\ (0 + (lkA awP 0 0).length) * 48 <= 140737488355328 /\ 0 < (lkA awP 0 0).length)), true), (pre (decide (0 + 1 <= maxLen /\ (0 + 1) * 8 <= 140737488355328 /\ 0 < 1)), true), (false, false), (pre (propB (isItE awL (awP.n 0) (awP.f 0) /\ (0 : Int) = 0 /\ lqC awP 0 0 /\ badU awP 0 = false /\ lkFar awP 0 0 = none)), true), (pre (decide (0 < 0 + 1)), true), (pre (idxB 0 (0 + 1)), true), (pre (decide (0 + 1 <= maxLen /\ (0 + 1) * 8 <= 140737488355328 /\ 0 < 1)), true)]) (tr := []) (by kernel_rfl) (by
   refine qF ?_ ?_ ?_ ?_ <| qF ?_ ?_ ?_ ?_ <| qF ?_ ?_ ?_ ?_ <| qF ?_ ?_ ?_ ?_ <| qA ?_ <| qA ?_ <| qZ
   . exact ob_lt (by omega)
   . exact ob_idx (by omega)
   . rw [hm]; rfl
   . rw [awA]; exact hw
   . exact ob_lt (by omega)
   . exact ob_idx (by omega)
   . rw [hl]; rfl
   . exact decide_eq_true ⟨by decide, by decide, by decide⟩
   . exact propB_ok.mpr ⟨isWd_raw _, by omega, by rw [awA]; exact awMay⟩
   . exact ob_no (by omega)
   . exact ob_app (by omega) (by decide) (by omega)
   . exact ob_app (by omega) (by decide) (by omega)
   . exact ob_app (by omega) (by decide) (by decide)
   . rfl
   . exact propB_ok.mpr ⟨awL_is, rfl, awC, awB, awF⟩
   . exact ob_lt (by decide)
   . exact ob_idx (by decide)
   . exact ob_app (by omega) (by decide) (by decide)) Tryd.func7 w [] hG trivial fun t ht => by cases ht).plain
 rw [awM] at key
 exact key
theorem tAw11_ok {gl : Gl} (hT : GlTo gl9 gl) (hE : GlTo encGl gl) : TabOk Tryd.prog gl tAw11 := tab0 fun w hG => awake11_ret hT hE w hG
theorem toE {gl : Gl} (h : GlTo gl11 gl) : GlTo encGl gl := fun w hG => toEnc w (h w hG)
theorem to9' {gl : Gl} (h : GlTo gl11 gl) : GlTo gl9 gl := fun w hG => to9 w (h w hG)
theorem saysLink {gl : Gl} (h : GlTo gl11 gl) : SaysLink gl := ⟨lStub_ok, tAw11_ok (to9' h) (toE h), fun c C p => lLkY_ok (to9' h) (toE h) c C p, fun c C p => lLkN_ok (to9' h) (toE h) c C p⟩
end Go.Proofs.YtilljoemebbnjaaDoor
