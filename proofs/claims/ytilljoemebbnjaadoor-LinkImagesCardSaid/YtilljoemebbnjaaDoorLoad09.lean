/- Layer 9: the loading of a number, by the program and by definition. -/
import Derived.Test.YtilljoemebbnjaaDoorTz09
set_option linter.unusedVariables false
set_option linter.unusedSimpArgs false
namespace Go.Proofs.YtilljoemebbnjaaDoor
open Go.RowKit Sim S2
def zIn : In := ⟨0, 0, 0, 0, 0, false, false⟩
def lsE (L : List In) : LE := ⟨42, 7, L.length, fun j => inC ((L[j]?).getD zIn), true, false, true⟩
def inst (op rd a imm : Int) : In := ⟨op, rd, a, 0, imm, false, false⟩
noncomputable def plusL (op rd lo : Int) : List In := bif lo == 0 then [] else [inst op rd rd lo]
noncomputable def baseL (rd n : Int) : List In := bif fitZ n 12 then [inst 22 rd 0 n] else inst 1 rd 0 (lowZ (hiZ n) 20) :: plusL 31 rd (lowZ n 12)
noncomputable def tzH (n : Int) : Int := tzZ (IntKind.u64.wrap (hiZ n))
noncomputable def oddH (n : Int) : Int := arZ .shr .i64 (hiZ n) (tzH n)
noncomputable def ldL : Nat -> Int -> Int -> List In
 | 0, rd, n => baseL rd n
 | d + 1, rd, n => bif fitZ n 12 || fitZ n 32 then baseL rd n else ldL d rd (oddH n) ++ (inst 28 rd rd (arZ .add .i64 12 (tzH n)) :: plusL 22 rd (lowZ n 12))
def lvW : Nat -> Int
 | 0 => 32
 | 1 => 40
 | 2 => 52
 | _ => 64
def lvB (d : Nat) (x : Int) : Bool := fitZ x (lvW d)
noncomputable def lLd (d : Nat) : LTab := lrow 46 fun args => match args with
 | [.inl (.int .i64 rd), .inl (.int .i64 x)] => some (false, [.inr (lsE (ldL d rd x))], pre (isRegB rd && lvB d x))
 | _ => none
noncomputable def env9l (d : Nat) : S2.Env := { envk Tryd.prog gl9 false (orT tIsReg tFits) (orP pLow pTz) (lLd d) with lit := true }
noncomputable def env9l0 : S2.Env := { envk Tryd.prog gl9 false (orT tIsReg tFits) (orP pLow pTz) noL with lit := true }
theorem env9l_ok (d : Nat) (h : LTabOk Tryd.prog gl9 (lLd d)) : CallOk (env9l d) := envk_ok (nw := false) (tIsReg_ok.or tFits_ok) (pLow_ok.or pTz_ok) h
theorem env9l0_ok : CallOk env9l0 := envk_ok (nw := false) (tIsReg_ok.or tFits_ok) (pLow_ok.or pTz_ok) (.none _ _)
noncomputable def apB (n : Nat) : Bool := pre (decide (n + 1 <= maxLen /\ (n + 1) * 48 <= 140737488355328 /\ 0 < 1))
theorem apB_ok {n : Nat} (h : n <= 1000) : apB n = true := ob_app (by omega) (by decide) (by decide)
def rawE (n : Nat) (f : Nat -> List Value) : LE := ⟨42, 7, n, f, true, false, true⟩
def oneE (i : In) : Nat -> List Value := tabE [inC i]
theorem ld_12 (rd n : Int) : S2.simF env9l0 1000 10 [] [false, true] 46 [[true], [true]] [.inl (.int .i64 rd), .inl (.int .i64 n)] = some (false, [.inr (rawE 1 (oneE (inst 22 rd 0 n)))], [(fitZ n 12, true), (!isRegB rd, false)], []) := by kernel_rfl
theorem ld_32z (rd n : Int) : S2.simF env9l0 1000 10 [] [false, false, true, true] 46 [[true], [true]] [.inl (.int .i64 rd), .inl (.int .i64 n)] = some (false, [.inr (rawE 1 (oneE (inst 1 rd 0 (lowZ (hiZ n) 20))))], [(lowZ n 12 == 0, true), (true, true), (fitZ n 32, true), (true, true), (fitZ n 12, false), (!isRegB rd, false)], []) := by kernel_rfl
theorem ld_32 (rd n : Int) : S2.simF env9l0 1000 10 [] [false, false, true, false] 46 [[true], [true]] [.inl (.int .i64 rd), .inl (.int .i64 n)] = some (false, [.inr (rawE 2 (joinE 1 (oneE (inst 1 rd 0 (lowZ (hiZ n) 20))) (oneE (inst 31 rd rd (lowZ n 12)))))], [(apB 1, true), (lowZ n 12 == 0, false), (true, true), (fitZ n 32, true), (true, true), (fitZ n 12, false), (!isRegB rd, false)], []) := by kernel_rfl
noncomputable def tzC (n : Int) : Bool := pre (decide (0 < IntKind.u64.wrap (hiZ n) /\ IntKind.u64.wrap (hiZ n) < 18446744073709551616))
theorem ld_wz (d : Nat) (rd n : Int) : S2.simF (env9l d) 1000 10 [] [false, false, false, true] 46 [[true], [true]] [.inl (.int .i64 rd), .inl (.int .i64 n)] = some (false, [.inr (rawE ((ldL d rd (oddH n)).length + 1) (joinE (ldL d rd (oddH n)).length (lsE (ldL d rd (oddH n))).el (oneE (inst 28 rd rd (arZ .add .i64 12 (tzH n))))))], [(lowZ n 12 == 0, true), (apB (ldL d rd (oddH n)).length, true), (pre (isRegB rd && lvB d (oddH n)), true), (pre (decide (0 <= tzH n)), true), (tzC n, true), (fitZ n 32, false), (true, true), (fitZ n 12, false), (!isRegB rd, false)], []) := by kernel_rfl
theorem ld_w (d : Nat) (rd n : Int) : S2.simF (env9l d) 1000 10 [] [false, false, false, false] 46 [[true], [true]] [.inl (.int .i64 rd), .inl (.int .i64 n)] = some (false, [.inr (rawE ((ldL d rd (oddH n)).length + 1 + 1) (joinE ((ldL d rd (oddH n)).length + 1) (joinE (ldL d rd (oddH n)).length (lsE (ldL d rd (oddH n))).el (oneE (inst 28 rd rd (arZ .add .i64 12 (tzH n))))) (oneE (inst 22 rd rd (lowZ n 12)))))], [(apB ((ldL d rd (oddH n)).length + 1), true), (lowZ n 12 == 0, false), (apB (ldL d rd (oddH n)).length, true), (pre (isRegB rd && lvB d (oddH n)), true), (pre (decide (0 <= tzH n)), true), (tzC n, true), (fitZ n 32, false), (true, true), (fitZ n 12, false), (!isRegB rd, false)], []) := by kernel_rfl
theorem lvB_top {n : Int} (h : isI n) (d : Nat) (hd : 3 <= d) : lvB d n = true := by
 obtain ⟨e, rfl⟩ : ∃ e, d = e + 3 := ⟨d - 3, by omega⟩
 have := (fit_iff n 64 (by decide) (by decide)).mpr (by unfold isI at h; exact ⟨by simpa using h.1, by have := h.2; simp; omega⟩)
 exact this
theorem fit40 (x : Int) : fitZ x 40 = true ↔ -549755813888 <= x /\ x < 549755813888 := fit_iff x 40 (by decide) (by decide)
theorem fit52 (x : Int) : fitZ x 52 = true ↔ -2251799813685248 <= x /\ x < 2251799813685248 := fit_iff x 52 (by decide) (by decide)
theorem fit64 (x : Int) : fitZ x 64 = true ↔ -9223372036854775808 <= x /\ x < 9223372036854775808 := fit_iff x 64 (by decide) (by decide)
theorem split9 {n : Int} (hI : isI n) (h32 : fitZ n 32 = false) : ∃ (k : Nat) (o : Int), k <= 51 /\ o % 2 = 1 /\ hiZ n = 2 ^ k * o /\ tzH n = k /\ oddH n = o /\ hiZ n ≠ 0 /\ isI (2 ^ k * o) /\ ((0 <= hiZ n -> 0 < o /\ o <= hiZ n) /\ (hiZ n < 0 -> hiZ n <= o /\ o < 0)) := by
 obtain ⟨h1, h2, h3, h4, h5, h6⟩ := hi_parts n
 have hne : hiZ n ≠ 0 := fun h0 => by
   rw [h0] at h1
   rw [wrap_i64] at h1
   have : fitZ n 32 = true := (fit32 n).mpr (by unfold isI at hI; omega)
   rw [this] at h32; cases h32
 obtain ⟨k, o, ho, hodd, hk⟩ := odd_part 51 (hiZ n) hne (by have : ((2 ^ 51 : Nat) : Int) = 2251799813685248 := rfl; omega) (by have : ((2 ^ 51 : Nat) : Int) = 2251799813685248 := rfl; omega)
 have htz : tzH n = k := by unfold tzH; rw [ho]; exact tz_wrap (by omega) hodd
 have hp : (0 : Int) < 2 ^ k := Int.pow_pos (by decide)
 refine ⟨k, o, hk, hodd, ho, htz, ?_, hne, ?_, ?_, ?_⟩
 . unfold oddH
   rw [htz, arZ_eq]
   show (hiZ n).fdiv (2 ^ (min (k : Int).toNat 64)) = o
   rw [qN, Nat.min_eq_left (by omega), Int.fdiv_eq_ediv_of_nonneg _ (by omega), ho, Int.mul_ediv_cancel_left _ (by omega)]
 . rw [<- ho]; unfold isI; omega
 . intro h0
   have h7 : 0 < o := by
     rw [ho] at h0 hne
     rcases Int.lt_trichotomy o 0 with h | h | h
     . have := Int.mul_neg_of_pos_of_neg hp h; omega
     . omega
     . exact h
   refine ⟨h7, ?_⟩
   rw [ho]
   have := Int.mul_le_mul_of_nonneg_right (show (1 : Int) <= 2 ^ k from hp) (show 0 <= o by omega)
   omega
 . intro h0
   have h7 : o < 0 := by
     rw [ho] at h0
     rcases Int.lt_trichotomy o 0 with h | h | h
     . exact h
     . subst h; omega
     . have := Int.mul_pos hp h; omega
   refine ⟨?_, h7⟩
   rw [ho]
   have := Int.mul_le_mul_of_nonpos_right (show (1 : Int) <= 2 ^ k from hp) (show o <= 0 by omega)
   omega
theorem lvl_down {n : Int} (hI : isI n) (h32 : fitZ n 32 = false) (d : Nat) (hl : lvB (d + 1) n = true) : lvB d (oddH n) = true /\ isI (oddH n) := by
 obtain ⟨k, o, hk, hodd, ho, htz, hod, hne, _, h7, h8⟩ := split9 hI h32
 obtain ⟨h1, h2, h3, h4, h5, h6⟩ := hi_parts n
 rw [wrap_i64] at h1
 rw [hod]
 have hoI : -2251799813685248 <= o /\ o <= 2251799813685247 := by
   rcases Int.lt_or_le (hiZ n) 0 with h | h
   . have := h8 h; omega
   . have := h7 h; omega
 refine ⟨?_, by unfold isI; omega⟩
 unfold isI at hI
 match d, hl with
 | 0, hl =>
   have hl := (fit40 n).mp hl
   refine (fit32 o).mpr ?_
   rcases Int.lt_or_le (hiZ n) 0 with h | h
   . have := h8 h; omega
   . have := h7 h; omega
 | 1, hl =>
   have hl := (fit52 n).mp hl
   refine (fit40 o).mpr ?_
   rcases Int.lt_or_le (hiZ n) 0 with h | h
   . have := h8 h; omega
   . have := h7 h; omega
 | 2, hl =>
   refine (fit52 o).mpr ?_
   omega
 | d + 3, hl => exact (fit64 o).mpr (by omega)
theorem lvB_isI {d : Nat} {n : Int} (h : lvB d n = true) : isI n := by
 unfold isI
 match d, h with
 | 0, h => have := (fit32 n).mp h; omega
 | 1, h => have := (fit40 n).mp h; omega
 | 2, h => have := (fit52 n).mp h; omega
 | d + 3, h => have := (fit64 n).mp h; omega
theorem plusL_len (op rd lo : Int) : (plusL op rd lo).length <= 1 := by unfold plusL; cases lo == 0 <;> simp
theorem baseL_len (rd n : Int) : (baseL rd n).length <= 2 := by
 unfold baseL
 have := plusL_len 31 rd (lowZ n 12)
 cases fitZ n 12
 . simp; omega
 . simp
theorem ldL_lenD : ∀ (d : Nat) (rd n : Int), (ldL d rd n).length <= 2 + 2 * d
 | 0, rd, n => baseL_len rd n
 | d + 1, rd, n => by
   have h1 := baseL_len rd n
   have h2 := ldL_lenD d rd (oddH n)
   have h3 := plusL_len 22 rd (lowZ n 12)
   unfold ldL
   cases fitZ n 12 || fitZ n 32
   . simp; omega
   . simp; omega
theorem ldL_base {d : Nat} {rd n : Int} (h : fitZ n 32 = true) : ldL d rd n = baseL rd n := by
 cases d with
 | zero => rfl
 | succ d =>
   show (bif fitZ n 12 || fitZ n 32 then _ else _) = _
   rw [h, Bool.or_true]; rfl
theorem ldL_len {d : Nat} (h : d <= 3) (rd n : Int) : (ldL d rd n).length <= 8 := by have := ldL_lenD d rd n; omega
def agL (f : Nat -> List Value) (L : List In) : Prop := ∀ j, j < L.length -> f j = inC ((L[j]?).getD zIn)
theorem agL_self (L : List In) : agL (lsE L).el L := fun _ _ => rfl
theorem agL_one (i : In) : agL (oneE i) [i] := fun j hj => by
 have : j = 0 := by simpa using hj
 subst this; rfl
theorem agL_app {f : Nat -> List Value} {L : List In} (h : agL f L) (i : In) : agL (joinE L.length f (oneE i)) (L ++ [i]) := fun j hj => by
 have hj : j < L.length + 1 := by simpa using hj
 unfold joinE
 cases hb : Nat.blt j L.length
 . have : ¬ j < L.length := fun hc => by rw [<- Nat.blt_eq, hb] at hc; cases hc
   have e : j - L.length = 0 := by omega
   have e2 : j = L.length := by omega
   simp only [cond_false]
   rw [e, e2]; simp [oneE, tabE]
 . have : j < L.length := by simpa [Nat.blt_eq] using hb
   simp only [cond_true]
   rw [h j this, List.getElem?_append_left this]
theorem agL_nil (f : Nat -> List Value) : agL f [] := fun j hj => by cases hj
theorem lret_raw {P : Program} {f : FuncId} {vals : List Value} {n : Nat} {g : Nat -> List Value} {L : List In} {w : World} (h : LRet P f vals false [.inr (rawE n g)] w) (hn : n = L.length) (hg : agL g L) : LRet P f vals false [.inr (lsE L)] w := by
 subst hn
 exact Calls.mono h fun e w' ⟨vs, he, ho, hb⟩ => by
   obtain ⟨u, rfl, hu⟩ := outOk_l ho
   exact ⟨[u], he, outOk_one (OwnB.same hu ⟨rfl, rfl, rfl, rfl, rfl, hg⟩), hb⟩
theorem unb {b : Bool} (h : b = true) : (!b) = false := by rw [h]; rfl
theorem loadP_base (rd n : Int) (hr : isRegB rd = true) (h32 : fitZ n 32 = true) (w : World) (hG : GlobOk gl9 w) : LRet Tryd.prog 46 [.int .i64 rd, .int .i64 n] false [.inr (lsE (baseL rd n))] w := by
 cases h12 : fitZ n 12
 . cases h0 : lowZ n 12 == 0
   . refine lret_raw (fn_ok env9l0_ok (ld_32 rd n) (qA (apB_ok (by decide)) <| qA h0 <| qA rfl <| qA h32 <| qA rfl <| qA h12 <| qA (unb hr) qZ) Tryd.func46 w [.int .i64 rd, .int .i64 n] hG ⟨rfl, rfl, trivial⟩ (fun t ht => by cases ht)) ?_ ?_
     . unfold baseL plusL; rw [h12, h0]; rfl
     . have : baseL rd n = [inst 1 rd 0 (lowZ (hiZ n) 20)] ++ [inst 31 rd rd (lowZ n 12)] := by unfold baseL plusL; rw [h12, h0]; rfl
       rw [this]; exact agL_app (agL_one _) _
   . have e : baseL rd n = [inst 1 rd 0 (lowZ (hiZ n) 20)] := by unfold baseL plusL; rw [h12, h0]; rfl
     refine lret_raw (fn_ok env9l0_ok (ld_32z rd n) (qA h0 <| qA rfl <| qA h32 <| qA rfl <| qA h12 <| qA (unb hr) qZ) Tryd.func46 w [.int .i64 rd, .int .i64 n] hG ⟨rfl, rfl, trivial⟩ (fun t ht => by cases ht)) ?_ ?_
     . rw [e]; rfl
     . rw [e]; exact agL_one _
 . have e : baseL rd n = [inst 22 rd 0 n] := by unfold baseL; rw [h12]; rfl
   refine lret_raw (fn_ok env9l0_ok (ld_12 rd n) (qA h12 <| qA (unb hr) qZ) Tryd.func46 w [.int .i64 rd, .int .i64 n] hG ⟨rfl, rfl, trivial⟩ (fun t ht => by cases ht)) ?_ ?_
   . rw [e]; rfl
   . rw [e]; exact agL_one _
theorem lLd_of (d : Nat) (h : ∀ (rd n : Int) (w : World), isRegB rd = true -> lvB d n = true -> GlobOk gl9 w -> LRet Tryd.prog 46 [.int .i64 rd, .int .i64 n] false [.inr (lsE (ldL d rd n))] w) : LTabOk Tryd.prog gl9 (lLd d) := .row fun args tup res hd w vals hG ha => by
 split at hd
 . rename_i rd x
   simp only [qS, qP, pre, Bool.and_eq_true] at hd
   obtain ⟨rfl, rfl, h1, h2⟩ := hd
   match vals, ha with
   | [_, _], ⟨rfl, rfl, _⟩ => exact h rd x w h1 h2 hG
 . cases hd
theorem loadP_ret : ∀ (d : Nat) (_ : d <= 3) (rd n : Int) (w : World), isRegB rd = true -> lvB d n = true -> GlobOk gl9 w -> LRet Tryd.prog 46 [.int .i64 rd, .int .i64 n] false [.inr (lsE (ldL d rd n))] w
 | 0, _, rd, n, w, hr, hl, hG => loadP_base rd n hr hl w hG
 | d + 1, hd, rd, n, w, hr, hl, hG => by
   cases h32 : fitZ n 32
   . have hI := lvB_isI hl
     have h12 : fitZ n 12 = false := by
       cases h12 : fitZ n 12
       . rfl
       . rw [(fit32 n).mpr (by have := (fit12 n).mp h12; omega)] at h32; cases h32
     have HC := env9l_ok d (lLd_of d (loadP_ret d (by omega)))
     obtain ⟨k, o, hk, hodd, ho, htz, hod, hne, hki, _⟩ := split9 hI h32
     obtain ⟨hld, hoI⟩ := lvl_down hI h32 d hl
     have hlen := ldL_len (show d <= 3 by omega) rd (oddH n)
     obtain ⟨h1, h2, h3, _⟩ := hi_parts n
     have htzC : tzC n = true := by
       unfold tzC; refine ob_dec ?_
       rw [IntKind.wrap_u64]; omega
     have h0t : pre (decide (0 <= tzH n)) = true := ob_dec (by rw [htz]; omega)
     have hcond : pre (isRegB rd && lvB d (oddH n)) = true := by unfold pre; rw [hr, hld]; rfl
     have ha1 : apB (ldL d rd (oddH n)).length = true := apB_ok (by omega)
     have ha2 : apB ((ldL d rd (oddH n)).length + 1) = true := apB_ok (by omega)
     cases h0 : lowZ n 12 == 0
     . refine lret_raw (fn_ok HC (ld_w d rd n) (qA ha2 <| qA h0 <| qA ha1 <| qA hcond <| qA h0t <| qA htzC <| qA h32 <| qA rfl <| qA h12 <| qA (unb hr) qZ) Tryd.func46 w [.int .i64 rd, .int .i64 n] hG ⟨rfl, rfl, trivial⟩ (fun t ht => by cases ht)) ?_ ?_
       . have e : ldL (d + 1) rd n = (ldL d rd (oddH n) ++ [inst 28 rd rd (arZ .add .i64 12 (tzH n))]) ++ [inst 22 rd rd (lowZ n 12)] := by
           show (bif fitZ n 12 || fitZ n 32 then _ else _) = _
           unfold plusL; rw [h12, h32, h0]; simp
         rw [e]; simp
       . have e : ldL (d + 1) rd n = (ldL d rd (oddH n) ++ [inst 28 rd rd (arZ .add .i64 12 (tzH n))]) ++ [inst 22 rd rd (lowZ n 12)] := by
           show (bif fitZ n 12 || fitZ n 32 then _ else _) = _
           unfold plusL; rw [h12, h32, h0]; simp
         rw [e]
         have := agL_app (agL_app (agL_self (ldL d rd (oddH n))) (inst 28 rd rd (arZ .add .i64 12 (tzH n)))) (inst 22 rd rd (lowZ n 12))
         rw [List.length_append] at this
         exact this
     . refine lret_raw (fn_ok HC (ld_wz d rd n) (qA h0 <| qA ha1 <| qA hcond <| qA h0t <| qA htzC <| qA h32 <| qA rfl <| qA h12 <| qA (unb hr) qZ) Tryd.func46 w [.int .i64 rd, .int .i64 n] hG ⟨rfl, rfl, trivial⟩ (fun t ht => by cases ht)) ?_ ?_
       . have e : ldL (d + 1) rd n = ldL d rd (oddH n) ++ [inst 28 rd rd (arZ .add .i64 12 (tzH n))] := by
           show (bif fitZ n 12 || fitZ n 32 then _ else _) = _
           unfold plusL; rw [h12, h32, h0]; simp
         rw [e]; simp
       . have e : ldL (d + 1) rd n = ldL d rd (oddH n) ++ [inst 28 rd rd (arZ .add .i64 12 (tzH n))] := by
           show (bif fitZ n 12 || fitZ n 32 then _ else _) = _
           unfold plusL; rw [h12, h32, h0]; simp
         rw [e]
         exact agL_app (agL_self (ldL d rd (oddH n))) _
   . have e : ldL (d + 1) rd n = baseL rd n := by
       show (bif fitZ n 12 || fitZ n 32 then _ else _) = _
       rw [h32, Bool.or_true]; rfl
     rw [e]
     exact loadP_base rd n hr h32 w hG
end Go.Proofs.YtilljoemebbnjaaDoor
