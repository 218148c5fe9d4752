/- Layer 9: the loading by definition is the same list. -/
import Derived.Test.YtilljoemebbnjaaDoorLoad09
set_option linter.unusedVariables false
set_option linter.unusedSimpArgs false
namespace Go.Proofs.YtilljoemebbnjaaDoor
open Go.RowKit Sim S2
noncomputable def lRf (d : Nat) : LTab := lrow 36 fun args => match args with
 | [.inl (.int .i64 rd), .inl (.int .i64 x)] => some (false, [.inr (lsE (ldL d rd x))], pre (isRegB rd && lvB d x))
 | _ => none
noncomputable def env9f (d : Nat) : S2.Env := { envk Tryd.prog (fun _ => none) false noT (orP pFt9 pSg9) (lRf d) with lit := true }
theorem env9f_ok (d : Nat) (h : LTabOk Tryd.prog (fun _ => none) (lRf d)) : CallOk (env9f d) := envk_ok (nw := false) (.none _ _) (pFt9_ok.or pSg9_ok) h
noncomputable def env9f0 : S2.Env := { envk Tryd.prog (fun _ => none) false noT (orP pFt9 pSg9) noL with lit := true }
theorem env9f0_ok : CallOk env9f0 := envk_ok (nw := false) (.none _ _) (pFt9_ok.or pSg9_ok) (.none _ _)
noncomputable def byZ : Nat -> Int
 | 0 => 12
 | j + 1 => arZ .add .i64 (byZ j) 1
theorem byZ_eq : ∀ j, j <= 1000 -> byZ j = 12 + j
 | 0, _ => rfl
 | j + 1, h => by
   show arZ .add .i64 (byZ j) 1 = _
   rw [byZ_eq j (by omega), ar_add, wrap_self (by unfold isI; omega)]
   omega
def rfP : List Nat := [0, 0, 1, 1, 1, 1, 1, 1, 1, 1]
noncomputable def rfC : Code := codeAt (codeOf Tryd.prog 36) (0 :: rfP)
noncomputable def rfS (rd lo h : Int) (j : Nat) : S2.St := { tmps := [(0, .inl ([true], .int .i64 rd)), (5, .inl ([true], .int .i64 lo)), (6, .inl ([true], .int .i64 (halvZ h j))), (9, .inl ([true], .int .i64 (byZ j)))], own := ⟨[], []⟩, lo := 0, llo := 0, mem := true, orc := [], obl := [] }
def rfQ : Pick := { ts := [0, 5, 6, 9], bs := [], ls := [], opn := [9] }
noncomputable def loR (n : Int) : Int := lowZ (IntKind.u64.wrap n) 12
noncomputable def hiR (n : Int) : Int := halvZ (arZ .sub .i64 n (loR n)) 12
noncomputable def uC (x : Int) : Bool := pre (u64C (IntKind.u64.wrap x))
theorem uC_ok (x : Int) : uC x = true := u64C_wrap x
theorem rf_12 (rd n : Int) : S2.simF env9f0 1000 10 [] [true] 36 [[true], [true]] [.inl (.int .i64 rd), .inl (.int .i64 n)] = some (false, [.inr (rawE 1 (oneE (inst 22 rd 0 n)))], [(fitZ n 12, true), (pre (i64C n), true)], []) := by kernel_rfl
theorem rf_32z (rd n : Int) : S2.simF env9f0 1000 10 [] [false, true, false] 36 [[true], [true]] [.inl (.int .i64 rd), .inl (.int .i64 n)] = some (false, [.inr (rawE (0 + 1) (joinE 0 (fun _ => []) (oneE (inst 1 rd 0 (lowZ (IntKind.u64.wrap (hiR n)) 20)))))], [(loR n != 0, false), (apB 0, true), (uC (hiR n), true), (fitZ n 32, true), (pre (i64C n), true), (uC n, true), (fitZ n 12, false), (pre (i64C n), true)], []) := by kernel_rfl
theorem rf_32 (rd n : Int) : S2.simF env9f0 1000 10 [] [false, true, true] 36 [[true], [true]] [.inl (.int .i64 rd), .inl (.int .i64 n)] = some (false, [.inr (rawE (0 + 1 + 1) (joinE (0 + 1) (joinE 0 (fun _ => []) (oneE (inst 1 rd 0 (lowZ (IntKind.u64.wrap (hiR n)) 20)))) (oneE (inst 31 rd rd (loR n)))))], [(apB (0 + 1), true), (loR n != 0, true), (apB 0, true), (uC (hiR n), true), (fitZ n 32, true), (pre (i64C n), true), (uC n, true), (fitZ n 12, false), (pre (i64C n), true)], []) := by kernel_rfl
theorem rf_step (d : Nat) (HC : CallOk (env9f d)) (rd lo h : Int) (j : Nat) (h1 : (arZ .rem .i64 (halvZ h j) 2 == 0) = true) (h2 : byZ j < 63) (w : World) : S2.Sem (env9f d) w 78 rfC (rfS rd lo h j) none (rfS rd lo h (j + 1)) :=
 sem_iter HC (GlobOk.none w) (p := rfQ) (fuel := 1000) [true, true] [(decide (byZ j < 63), true), (arZ .rem .i64 (halvZ h j) 2 == 0, true)] (by kernel_rfl) (by kernel_rfl) (qA (ob_yes h2) <| qA h1 qZ)
theorem rf_end (d : Nat) (HC : CallOk (env9f d)) (rd lo h : Int) (j : Nat) (h1 : (arZ .rem .i64 (halvZ h j) 2 == 0) = false) (w : World) : S2.Sem (env9f d) w 78 rfC (rfS rd lo h j) (some (some 2)) (rfS rd lo h j) :=
 sem_iter HC (GlobOk.none w) (p := rfQ) (fuel := 1000) [false] [(arZ .rem .i64 (halvZ h j) 2 == 0, false)] (by kernel_rfl) (by kernel_rfl) (qA h1 qZ)
theorem rf_wz (d : Nat) (rd n : Int) (k : Nat) : S2.simF (env9f d) 1000 30 [⟨rfP, rfQ, some (some 2), rfS rd (loR n) (hiR n) k⟩] [false, false, false] 36 [[true], [true]] [.inl (.int .i64 rd), .inl (.int .i64 n)] = some (false, [.inr (rawE ((ldL d rd (halvZ (hiR n) k)).length + 1) (joinE (ldL d rd (halvZ (hiR n) k)).length (lsE (ldL d rd (halvZ (hiR n) k))).el (oneE (inst 28 rd rd (byZ k)))))], [(loR n != 0, false), (apB (ldL d rd (halvZ (hiR n) k)).length, true), (pre (isRegB rd && lvB d (halvZ (hiR n) k)), true), (fitZ n 32, false), (pre (i64C n), true), (uC n, true), (fitZ n 12, false), (pre (i64C n), true)], [⟨.loop rfC, rfS rd (loR n) (hiR n) 0, some (some 2), rfS rd (loR n) (hiR n) k⟩]) := by kernel_rfl
theorem rf_w (d : Nat) (rd n : Int) (k : Nat) : S2.simF (env9f d) 1000 30 [⟨rfP, rfQ, some (some 2), rfS rd (loR n) (hiR n) k⟩] [false, false, true] 36 [[true], [true]] [.inl (.int .i64 rd), .inl (.int .i64 n)] = some (false, [.inr (rawE ((ldL d rd (halvZ (hiR n) k)).length + 1 + 1) (joinE ((ldL d rd (halvZ (hiR n) k)).length + 1) (joinE (ldL d rd (halvZ (hiR n) k)).length (lsE (ldL d rd (halvZ (hiR n) k))).el (oneE (inst 28 rd rd (byZ k)))) (oneE (inst 22 rd rd (loR n)))))], [(apB ((ldL d rd (halvZ (hiR n) k)).length + 1), true), (loR n != 0, true), (apB (ldL d rd (halvZ (hiR n) k)).length, true), (pre (isRegB rd && lvB d (halvZ (hiR n) k)), true), (fitZ n 32, false), (pre (i64C n), true), (uC n, true), (fitZ n 12, false), (pre (i64C n), true)], [⟨.loop rfC, rfS rd (loR n) (hiR n) 0, some (some 2), rfS rd (loR n) (hiR n) k⟩]) := by kernel_rfl
theorem lo_eq (n : Int) : loR n = lowZ n 12 := low_wrap12 n
theorem hi_eq (n : Int) : hiR n = hiZ n := by unfold hiR; rw [lo_eq]; exact hi_ref n
theorem i64_ok {n : Int} (h : isI n) : pre (i64C n) = true := i64C_iff.mpr h
theorem ne_of {x : Int} {b : Bool} (h : (x == 0) = b) : (x != 0) = !b := by unfold bne; rw [h]
theorem loadR_base (rd n : Int) (hI : isI n) (h32 : fitZ n 32 = true) (w : World) : LRet Tryd.prog 36 [.int .i64 rd, .int .i64 n] false [.inr (lsE (baseL rd n))] w := by
 have hG := GlobOk.none w
 have hi := i64_ok hI
 cases h12 : fitZ n 12
 . have e1 : lowZ (IntKind.u64.wrap (hiR n)) 20 = lowZ (hiZ n) 20 := by rw [low_wrap20, hi_eq]
   cases h0 : lowZ n 12 == 0
   . have h0' : (loR n != 0) = true := by rw [lo_eq]; exact ne_of h0
     have e : baseL rd n = ([] ++ [inst 1 rd 0 (lowZ (hiZ n) 20)]) ++ [inst 31 rd rd (lowZ n 12)] := by unfold baseL plusL; rw [h12, h0]; rfl
     refine lret_raw (fn_ok env9f0_ok (rf_32 rd n) (qA (apB_ok (by decide)) <| qA h0' <| qA (apB_ok (by decide)) <| qA (uC_ok _) <| qA h32 <| qA hi <| qA (uC_ok _) <| qA h12 <| qA hi qZ) Tryd.func36 w [.int .i64 rd, .int .i64 n] hG ⟨rfl, rfl, trivial⟩ (fun t ht => by cases ht)) ?_ ?_
     . rw [e]; rfl
     . rw [e, e1, lo_eq]; exact agL_app (agL_app (agL_nil _) _) _
   . have h0' : (loR n != 0) = false := by rw [lo_eq]; exact ne_of h0
     have e : baseL rd n = [] ++ [inst 1 rd 0 (lowZ (hiZ n) 20)] := by unfold baseL plusL; rw [h12, h0]; rfl
     refine lret_raw (fn_ok env9f0_ok (rf_32z rd n) (qA h0' <| qA (apB_ok (by decide)) <| qA (uC_ok _) <| qA h32 <| qA hi <| qA (uC_ok _) <| qA h12 <| qA hi qZ) Tryd.func36 w [.int .i64 rd, .int .i64 n] hG ⟨rfl, rfl, trivial⟩ (fun t ht => by cases ht)) ?_ ?_
     . rw [e]; rfl
     . rw [e, e1]; exact agL_app (agL_nil _) _
 . have e : baseL rd n = [inst 22 rd 0 n] := by unfold baseL; rw [h12]; rfl
   refine lret_raw (fn_ok env9f0_ok (rf_12 rd n) (qA h12 <| qA hi qZ) Tryd.func36 w [.int .i64 rd, .int .i64 n] hG ⟨rfl, rfl, trivial⟩ (fun t ht => by cases ht)) ?_ ?_
   . rw [e]; rfl
   . rw [e]; exact agL_one _
theorem lRf_of {gl : Gl} (d : Nat) (h : ∀ (rd n : Int) (w : World), isRegB rd = true -> lvB d n = true -> LRet Tryd.prog 36 [.int .i64 rd, .int .i64 n] false [.inr (lsE (ldL d rd n))] w) : LTabOk Tryd.prog gl (lRf d) := .row fun args tup res hd w vals hG ha => by
 split at hd
 . rename_i rd x
   simp only [qS, qP, pre, Bool.and_eq_true] at hd
   obtain ⟨rfl, rfl, h1, h2⟩ := hd
   match vals, ha with
   | [_, _], ⟨rfl, rfl, _⟩ => exact h rd x w h1 h2
 . cases hd
theorem rem_even {y : Int} : (arZ .rem .i64 (2 * y) 2 == 0) = true := by
 rw [arZ_eq]
 show ((2 * y).tmod 2 == 0) = true
 rw [Int.mul_tmod_right]; rfl
theorem rem_odd {o : Int} (h : o % 2 = 1) : (arZ .rem .i64 o 2 == 0) = false := by
 rw [arZ_eq]
 show (o.tmod 2 == 0) = false
 have hne : o.tmod 2 ≠ 0 := fun h0 => by
   obtain ⟨c, hc⟩ := Int.dvd_of_tmod_eq_zero h0
   omega
 simpa using hne
theorem loadR_ret : ∀ (d : Nat) (_ : d <= 3) (rd n : Int) (w : World), isRegB rd = true -> lvB d n = true -> LRet Tryd.prog 36 [.int .i64 rd, .int .i64 n] false [.inr (lsE (ldL d rd n))] w
 | 0, _, rd, n, w, hr, hl => loadR_base rd n (lvB_isI hl) hl w
 | d + 1, hd, rd, n, w, hr, hl => by
   have hI := lvB_isI hl
   cases h32 : fitZ n 32
   . have hi := i64_ok hI
     have h12 : fitZ n 12 = false := by
       cases h12 : fitZ n 12
       . rfl
       . rw [(fit32 n).mpr (by have := (fit12 n).mp h12; omega)] at h32; cases h32
     have HC := env9f_ok d (lRf_of d (loadR_ret d (by omega)))
     have hG := GlobOk.none w
     obtain ⟨k, o, hk, hodd, ho, htz, hod, hne, hki, _⟩ := split9 hI h32
     obtain ⟨hld, hoI⟩ := lvl_down hI h32 d hl
     have hlen := ldL_len (show d <= 3 by omega) rd (oddH n)
     have hhk : ∀ j, j <= k -> halvZ (hiR n) j = 2 ^ (k - j) * o := fun j hj => by rw [hi_eq, ho]; exact halv_pow k j o hj hki
     have hkk : halvZ (hiR n) k = oddH n := by rw [hhk k (Nat.le_refl _), Nat.sub_self, hod]; simp
     have hby : byZ k = arZ .add .i64 12 (tzH n) := by rw [byZ_eq k (by omega), ar_add, htz, wrap_self (by unfold isI; omega)]
     have hloop : S2.Sem (env9f d) w 78 (.loop rfC) (rfS rd (loR n) (hiR n) 0) (some (some 2)) (rfS rd (loR n) (hiR n) k) :=
       sem_loop (rfS rd (loR n) (hiR n)) k (by simp) (fun j hj => rf_step d HC rd _ _ j (by
         rw [hhk j (by omega)]
         have e : (2 : Int) ^ (k - j) * o = 2 * (2 ^ (k - (j + 1)) * o) := by rw [show k - j = (k - (j + 1)) + 1 by omega, Int.pow_succ, Int.mul_assoc, Int.mul_left_comm]
         rw [e]; exact rem_even) (by rw [byZ_eq j (by omega)]; omega) w) (rf_end d HC rd _ _ k (by rw [hkk, hod]; exact rem_odd hodd) w)
     have hcond : pre (isRegB rd && lvB d (halvZ (hiR n) k)) = true := by unfold pre; rw [hkk, hr, hld]; rfl
     have ha1 : apB (ldL d rd (halvZ (hiR n) k)).length = true := by rw [hkk]; exact apB_ok (by omega)
     have ha2 : apB ((ldL d rd (halvZ (hiR n) k)).length + 1) = true := by rw [hkk]; exact apB_ok (by omega)
     cases h0 : lowZ n 12 == 0
     . have h0' : (loR n != 0) = true := by rw [lo_eq]; exact ne_of h0
       have e : ldL (d + 1) rd n = (ldL d rd (oddH n) ++ [inst 28 rd rd (arZ .add .i64 12 (tzH n))]) ++ [inst 22 rd rd (lowZ n 12)] := by
         show (bif fitZ n 12 || fitZ n 32 then _ else _) = _
         unfold plusL; rw [h12, h32, h0]; simp
       refine lret_raw (fn_ok HC (rf_w d rd n k) (qA ha2 <| qA h0' <| qA ha1 <| qA hcond <| qA h32 <| qA hi <| qA (uC_ok _) <| qA h12 <| qA hi qZ) Tryd.func36 w [.int .i64 rd, .int .i64 n] hG ⟨rfl, rfl, trivial⟩ (fun t ht => by obtain rfl := List.mem_singleton.mp ht; exact hloop)) ?_ ?_
       . rw [e, hkk]; simp
       . rw [e, hkk, hby, lo_eq]
         have := agL_app (agL_app (agL_self (ldL d rd (oddH n))) (inst 28 rd rd (arZ .add .i64 12 (tzH n)))) (inst 22 rd rd (lowZ n 12))
         rw [List.length_append] at this
         exact this
     . have h0' : (loR n != 0) = false := by rw [lo_eq]; exact ne_of h0
       have e : ldL (d + 1) rd n = ldL d rd (oddH n) ++ [inst 28 rd rd (arZ .add .i64 12 (tzH n))] := by
         show (bif fitZ n 12 || fitZ n 32 then _ else _) = _
         unfold plusL; rw [h12, h32, h0]; simp
       refine lret_raw (fn_ok HC (rf_wz d rd n k) (qA h0' <| qA ha1 <| qA hcond <| qA h32 <| qA hi <| qA (uC_ok _) <| qA h12 <| qA hi qZ) Tryd.func36 w [.int .i64 rd, .int .i64 n] hG ⟨rfl, rfl, trivial⟩ (fun t ht => by obtain rfl := List.mem_singleton.mp ht; exact hloop)) ?_ ?_
       . rw [e, hkk]; simp
       . rw [e, hkk, hby]
         exact agL_app (agL_self (ldL d rd (oddH n))) _
   . rw [ldL_base h32]
     exact loadR_base rd n hI h32 w
end Go.Proofs.YtilljoemebbnjaaDoor
