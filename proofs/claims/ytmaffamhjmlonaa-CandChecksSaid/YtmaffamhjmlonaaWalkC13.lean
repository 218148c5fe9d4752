/- Layer 13: the laws' walks: CandChecks. -/
import Derived.Test.YtmaffamhjmlonaaPChk13
import Derived.Test.YtmaffamhjmlonaaLaw13E
import Derived.Test.YtmaffamhjmlonaaHby13
import Derived.Test.YtmaffamhjmlonaaIn13
import Derived.Test.YtmaffamhjmlonaaAwk13
import Derived.Test.YtmaffamhjmlonaaBackN13
set_option linter.unusedVariables false
set_option linter.unusedSimpArgs false
namespace Go.Proofs.Ytmaffamhjmlonaa
open Go Go.RowKit Sim S2
theorem fine_of {gl : Gl} {c : Cn} (hk : chkZ gl c = 0) (hw : CnWf gl c) : Fine (hartsT gl c) (rowsT gl c) := by
 have w0 := wellC_of hk
 refine ⟨by simpa [hartsT] using w0.hn, by simpa [rowsT] using rows_most w0, fun L hL => ?_, fun p hp => ?_⟩
 . obtain ⟨i, hi, rfl⟩ := List.mem_map.mp hL
   have hi := List.mem_range.mp hi
   refine ⟨by simpa [recsT] using w0.hv i hi, fun r hr => ?_⟩
   obtain ⟨k, hk2, rfl⟩ := List.mem_map.mp hr
   exact hw.rc i hi k (List.mem_range.mp hk2)
 . obtain ⟨i, hi, rfl⟩ := List.mem_map.mp hp
   have hi := List.mem_range.mp hi
   refine ⟨hw.ra i hi, by simpa [stosT] using row_most w0 i hi, fun r hr => ?_⟩
   obtain ⟨k, hk2, rfl⟩ := List.mem_map.mp hr
   exact hw.rf i hi k (List.mem_range.mp hk2)
theorem bytL_max {gl : Gl} {c : Cn} (sc : CnBd gl c) (hin : CnIn gl c) : (bytL gl c).length <= 1000000000000 := by
 have h1 := obL_len (N := numL13 gl c) hin (numL13 gl c).length (Nat.le_refl _)
 have h2 := numL_len sc
 unfold bytL
 omega
theorem decOk {W : World} {c : Cn} (hw : CnWf (frz W) c) (hin : CnIn (frz W) c) (hk : chkZ (frz W) c = 0) : DecOk W c (bytL (frz W) c) := fun w1 vals hG ha => by
 obtain ⟨e1, e2⟩ := de_back hk (fine_of hk hw)
 have hr : ∀ x ∈ bytL (frz W) c, 0 <= x /\ x < 256 := fun x hx => ⟨obL_nn _ _ x hx, obL_lt hin _ (Nat.le_refl _) x hx⟩
 refine (decode_calls (bytL (frz W) c) (bytL_max (cnBd_of hk) hin) hr w1 vals ha).mono fun e w2 ⟨hb, h⟩ => ?_
 rcases h with ⟨_, d, he, d1, d2, d3, d4, d5⟩ | ⟨hn, _⟩
 . exact ⟨d, he, hb, d1, d2, d4.trans e1, d5.trans e2⟩
 . refine absurd (fun gl c' h1 h2 => ?_) hn
   have hl : Alike (frz W) c gl c' := alike_of (h1.trans e1).symm (h2.trans e2).symm
   rw [<- hl.chk, <- hl.byt]
   exact ⟨hk, rfl⟩
theorem candChecks_walk (c : Cn) (v : Value) (w : World) (hv : v = cnV c) (h : CnOk (frz w) c /\ CnSm (frz w) c /\ CnWf (frz w) c) : Ret Try.prog 3 #[v] (.bool true) w := by
 subst hv
 obtain ⟨h1, h2, h3⟩ := h
 have hin := cnIn_of h2 h3
 exact LRet.plain (candChecks_ret h1 h2 hin awake_ret pCk_ok lEnc_ok (fun hk => bytL_same (cnBd_of hk) hin) (fun hk => decOk h3 hin hk))
end Go.Proofs.Ytmaffamhjmlonaa
