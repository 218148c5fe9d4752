/- The walks of layer 1's statements. -/
import Derived.Test.YtbmdgaagahjhcaaRows
import Derived.Test.YtbmdgaagahjhcaaPlain01
import Derived.Test.YtbmdgaagahjhcaaKit01
import Derived.Test.YtbmdgaagahjhcaaWord
import Derived.Test.YtbmdgaagahjhcaaWordMem
import Derived.Test.YtbmdgaagahjhcaaRef01
import Derived.OpenShut
namespace Go.Proofs.Ytbmdgaagahjhcaa
open Go.RowKit

theorem awakeBytes : bytesN 305419896 4 = [120, 86, 52, 18] := by decide
theorem awake_any (w : World) : Calls Try.prog 10 #[] w (Holds w) := by
  have hs : signN 4095 12 = -1 := by decide
  have hf : fitsB (-5) 4 = true := by decide
  have hsc := hid (fun W => sign_yes 4095 12 W (by omega) (by omega))
  have hfc := hid (fun W => fits_at (-5) 4 W (by omega) (by omega))
  rw [hs] at hsc
  rw [hf] at hfc
  clear hs hf
  go_enter Try.func10, Try.ntmps10
  go_wp2_with (first | (go_at_call 12; refine (hsc.out _).mono ?_; rintro e w' ⟨rfl, rfl⟩) | (go_at_call 16; refine (bytes_any 305419896 _ (by omega)).mono ?_; rintro e w1 ⟨u, rfl, hu, hb⟩; rw [awakeBytes] at hu; obtain ⟨a, cap, rfl, hu⟩ := hu; obtain ⟨g, off, rfl, hg, hu⟩ := hu (by decide); have hc0 : w1.cell? ⟨g, off, none⟩ = some (.int .u8 120) := hu 0 (by decide); have hc3 : w1.cell? ⟨g, off + 3, none⟩ = some (.int .u8 18) := hu 3 (by decide); have Hb := hid hb; clear hu hb) | (go_at_call 14; refine (hfc.out _).mono ?_; rintro e w' ⟨rfl, rfl⟩))
  go_ret
  exact Holds.mk Hb.out
theorem wordSigns_walk (v : Nat) (n : Int) (w : World) (hv : v < 4294967296) :
    Calls Try.prog 4 #[.int .u32 v, .int .i64 n] w (Holds w) := by
  have ha := hid awake_any
  by_cases h : 1 ≤ n ∧ n ≤ 32
  · obtain ⟨m, rfl⟩ : ∃ m : Nat, n = m := ⟨n.toNat, by omega⟩
    obtain ⟨h1, h2⟩ := h
    have hs := hid (fun W => sign_yes v m W (by omega) (by omega))
    have hr := hid (fun W => refSign_any v m W (by omega) (by omega) (by omega))
    go_enter Try.func4, Try.ntmps4
    go_wp2_with (first | (go_at_call 12; refine (hs.out _).mono ?_; rintro e w' ⟨rfl, rfl⟩) | (go_at_call 13; refine (hr.out _).mono ?_; rintro e w' ⟨rfl, rfl⟩) | (go_at_call 10; refine (ha.out _).mono ?_; rintro e w' ⟨rfl, hb⟩))
    go_ret
    exact Holds.mk hb
  · have hn : n < 1 ∨ 32 < n := by omega
    clear h
    have hs := hid (fun W => sign_no v n W hn)
    rcases hn with hn | hn
    all_goals
      go_enter Try.func4, Try.ntmps4
      go_wp2_with (first | (go_at_call 12; refine (hs.out _).mono ?_; rintro e w' ⟨rfl, rfl⟩) | (go_at_call 10; refine (ha.out _).mono ?_; rintro e w' ⟨rfl, hb⟩))
      go_ret
      exact Holds.mk hb
theorem wordSigns_law (v n : Int) (w : World) (hv : (Lit.int .u32 v).wf = true) (_ : (Lit.int .i64 n).wf = true) :
    Calls Try.prog 4 #[.int .u32 v, .int .i64 n] w (Holds w) := by
  have hv := bounds_u32 hv
  obtain ⟨v, rfl⟩ : ∃ m : Nat, v = m := ⟨v.toNat, by omega⟩
  exact wordSigns_walk v n w (by omega)
theorem wordFits_walk (v n : Int) (w : World) (h0 : -9223372036854775808 ≤ v) (h1 : v ≤ 9223372036854775807) :
    Calls Try.prog 5 #[.int .i64 v, .int .i64 n] w (Holds w) := by
  have ha := hid awake_any
  by_cases h : 1 ≤ n ∧ n ≤ 64
  · obtain ⟨m, rfl⟩ : ∃ m : Nat, n = m := ⟨n.toNat, by omega⟩
    obtain ⟨hn1, hn2⟩ := h
    obtain ⟨b, hb⟩ : ∃ b, fitsB v m = b := ⟨_, rfl⟩
    have hf := hid (fun W => fits_at v m W (by omega) (by omega))
    have hr := hid (fun W => refFits_any v m W (by omega) (by omega) h0 h1 b hb)
    rw [hb] at hf
    cases b
    · clear hb
      go_enter Try.func5, Try.ntmps5
      go_wp2_with (first | (go_at_call 14; refine (hf.out _).mono ?_; rintro e w' ⟨rfl, rfl⟩) | (go_at_call 15; refine (hr.out _).mono ?_; rintro e w' ⟨rfl, rfl⟩) | (go_at_call 10; refine (ha.out _).mono ?_; rintro e w' ⟨rfl, hb⟩))
      go_ret
      exact Holds.mk hb
    · by_cases h32 : m ≤ 32
      · have hs := hid (fun W => sign_yes (lo32 v) m W (by omega) h32)
        rw [sign_lo32 v m (by omega) h32 hb] at hs
        clear hb
        have he := lo32_eq v
        have hu := u64N_eq v
        have hl := lo32_lt v
        go_enter Try.func5, Try.ntmps5
        go_wp2_with (first | (go_at_call 14; refine (hf.out _).mono ?_; rintro e w' ⟨rfl, rfl⟩) | (go_at_call 15; refine (hr.out _).mono ?_; rintro e w' ⟨rfl, rfl⟩) | (go_at_call 12; refine (hs.out _).mono ?_; rintro e w' ⟨rfl, rfl⟩) | (go_at_call 10; refine (ha.out _).mono ?_; rintro e w' ⟨rfl, hb⟩))
        go_ret
        exact Holds.mk hb
      · clear hb
        go_enter Try.func5, Try.ntmps5
        go_wp2_with (first | (go_at_call 14; refine (hf.out _).mono ?_; rintro e w' ⟨rfl, rfl⟩) | (go_at_call 15; refine (hr.out _).mono ?_; rintro e w' ⟨rfl, rfl⟩) | (go_at_call 10; refine (ha.out _).mono ?_; rintro e w' ⟨rfl, hb⟩))
        go_ret
        exact Holds.mk hb
  · have hn : n < 1 ∨ 64 < n := by omega
    clear h
    have hf := hid (fun W => fits_no v n W hn)
    have hr := hid (fun W => refFits_out v n W hn)
    go_enter Try.func5, Try.ntmps5
    go_wp2_with (first | (go_at_call 14; refine (hf.out _).mono ?_; rintro e w' ⟨rfl, rfl⟩) | (go_at_call 15; refine (hr.out _).mono ?_; rintro e w' ⟨rfl, rfl⟩) | (go_at_call 10; refine (ha.out _).mono ?_; rintro e w' ⟨rfl, hb⟩))
    go_ret
    exact Holds.mk hb
theorem wordFits_law (v n : Int) (w : World) (hv : (Lit.int .i64 v).wf = true) (_ : (Lit.int .i64 n).wf = true) :
    Calls Try.prog 5 #[.int .i64 v, .int .i64 n] w (Holds w) := by
  have hv := bounds_i64 hv
  exact wordFits_walk v n w hv.1 hv.2
end Go.Proofs.Ytbmdgaagahjhcaa
