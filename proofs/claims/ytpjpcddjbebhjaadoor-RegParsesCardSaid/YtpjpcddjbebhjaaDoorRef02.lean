/- Contracts of the answers by definition for layer 2. -/
import Derived.Test.YtpjpcddjbebhjaaDoorRows
import Derived.Test.YtpjpcddjbebhjaaDoorPlain02
import Derived.Test.YtpjpcddjbebhjaaDoorKit02
namespace Go.Proofs.YtpjpcddjbebhjaaDoor
open Go.RowKit

theorem refDigits_any (n : Nat) (w : World) (h : n < 100) :
    Calls Tryd.prog 27 #[.int .i64 (n : Nat)] w (Qt w (.string (decS n))) := by
  by_cases hlt : n < 10
  · rw [decS_lo n hlt]
    go_enter Tryd.func27, Tryd.ntmps27
    go_wp2_with fail
    go_ret
    exact Qt.eq0 _ (by rw [← digS_cut n hlt]; rfl)
  · rw [decS_hi n hlt]
    go_enter Tryd.func27, Tryd.ntmps27
    go_wp2_with fail
    go_quiet (fail)
    go_wp2
    go_ret
    exact Qt.eq _ _ (by rw [← digS_cut (n / 10) (by omega), ← digS_cut (n % 10) (by omega)]; rfl)
theorem refName_yes (r : Nat) (w : World) (h : r < 32) :
    Calls Tryd.prog 9 #[.int .i64 (r : Nat)] w (Qt w (.string (numS r))) := by
  have hs := decS_size r
  go_enter Tryd.func9, Tryd.ntmps9
  go_wp2_with (go_at_call 27; refine (refDigits_any r _ (by omega)).mono ?_; rintro e w' ⟨rfl, m, rfl⟩)
  go_ret
  exact Qt.mk _ _ _
theorem refName_no (r : Int) (w : World) (h : r < 0 ∨ 32 ≤ r) :
    Calls Tryd.prog 9 #[.int .i64 r] w fun e w' => e = .returned (.string ⟨#[]⟩) ∧ w = w' := by
  by_cases h0 : r < 0
  all_goals
    go_enter Tryd.func9, Tryd.ntmps9
    go_wp2_with fail
    go_ret
    exact ⟨rfl, rfl⟩
theorem refUse_no (r : Int) (w : World) (h : r < 0 ∨ 32 ≤ r) :
    Calls Tryd.prog 10 #[.int .i64 r] w fun e w' => e = .returned (.string ⟨#[]⟩) ∧ w = w' := by
  by_cases h0 : r < 0
  all_goals
    go_enter Tryd.func10, Tryd.ntmps10
    go_wp2_with fail
    go_ret
    exact ⟨rfl, rfl⟩
theorem refUse_0 (r : Nat) (w : World) (h : r ≤ 4) :
    Calls Tryd.prog 10 #[.int .i64 (r : Nat)] w fun e w' => e = .returned (.string (useS r)) ∧ Below w.heap.size w w' := by
  have hc : r = 0 ∨ r = 1 ∨ r = 2 ∨ r = 3 ∨ r = 4 := by omega
  rcases hc with rfl | rfl | rfl | rfl | rfl
  all_goals
    go_enter Tryd.func10, Tryd.ntmps10
    go_wp2_with fail
    go_ret
    exact ⟨rfl, (Below.refl _ _).alloc (Nat.le_refl _) _⟩
theorem refUse_t (r : Nat) (w : World) (h1 : 4 < r) (h2 : r ≤ 7) :
    Calls Tryd.prog 10 #[.int .i64 (r : Nat)] w (Qt w (.string (useS r))) := by
  have hs := decS_size (r - 5)
  have hd := hid (fun W => refDigits_any (r - 5) W (by omega))
  have he : ((r - 5 : Nat) : Int) = (r : Int) - 5 := by omega
  rw [he] at hd
  have hu := hid (useS_t r (by omega) (by omega))
  clear he
  go_enter Tryd.func10, Tryd.ntmps10
  go_wp2_with (go_at_call 27; refine (hd.out _).mono ?_; rintro e w' ⟨rfl, m, rfl⟩)
  go_ret
  exact Qt.eq _ _ (by rw [← hu.out]; rfl)
theorem refUse_s (r : Nat) (w : World) (h1 : 7 < r) (h2 : r ≤ 9) :
    Calls Tryd.prog 10 #[.int .i64 (r : Nat)] w (Qt w (.string (useS r))) := by
  have hs := decS_size (r - 8)
  have hd := hid (fun W => refDigits_any (r - 8) W (by omega))
  have he : ((r - 8 : Nat) : Int) = (r : Int) - 8 := by omega
  rw [he] at hd
  have hu := hid (useS_s r (by omega) (by omega))
  clear he
  go_enter Tryd.func10, Tryd.ntmps10
  go_wp2_with (go_at_call 27; refine (hd.out _).mono ?_; rintro e w' ⟨rfl, m, rfl⟩)
  go_ret
  exact Qt.eq _ _ (by rw [← hu.out]; rfl)
theorem refUse_a (r : Nat) (w : World) (h1 : 9 < r) (h2 : r ≤ 17) :
    Calls Tryd.prog 10 #[.int .i64 (r : Nat)] w (Qt w (.string (useS r))) := by
  have hs := decS_size (r - 10)
  have hd := hid (fun W => refDigits_any (r - 10) W (by omega))
  have he : ((r - 10 : Nat) : Int) = (r : Int) - 10 := by omega
  rw [he] at hd
  have hu := hid (useS_a r (by omega) (by omega))
  clear he
  go_enter Tryd.func10, Tryd.ntmps10
  go_wp2_with (go_at_call 27; refine (hd.out _).mono ?_; rintro e w' ⟨rfl, m, rfl⟩)
  go_ret
  exact Qt.eq _ _ (by rw [← hu.out]; rfl)
theorem refUse_s2 (r : Nat) (w : World) (h1 : 17 < r) (h2 : r ≤ 27) :
    Calls Tryd.prog 10 #[.int .i64 (r : Nat)] w (Qt w (.string (useS r))) := by
  have hs := decS_size (r - 16)
  have hd := hid (fun W => refDigits_any (r - 16) W (by omega))
  have he : ((r - 16 : Nat) : Int) = (r : Int) - 16 := by omega
  rw [he] at hd
  have hu := hid (useS_s2 r (by omega) (by omega))
  clear he
  go_enter Tryd.func10, Tryd.ntmps10
  go_wp2_with (go_at_call 27; refine (hd.out _).mono ?_; rintro e w' ⟨rfl, m, rfl⟩)
  go_ret
  exact Qt.eq _ _ (by rw [← hu.out]; rfl)
theorem refUse_t2 (r : Nat) (w : World) (h1 : 27 < r) (h2 : r ≤ 31) :
    Calls Tryd.prog 10 #[.int .i64 (r : Nat)] w (Qt w (.string (useS r))) := by
  have hs := decS_size (r - 25)
  have hd := hid (fun W => refDigits_any (r - 25) W (by omega))
  have he : ((r - 25 : Nat) : Int) = (r : Int) - 25 := by omega
  rw [he] at hd
  have hu := hid (useS_t2 r (by omega) (by omega))
  clear he
  go_enter Tryd.func10, Tryd.ntmps10
  go_wp2_with (go_at_call 27; refine (hd.out _).mono ?_; rintro e w' ⟨rfl, m, rfl⟩)
  go_ret
  exact Qt.eq _ _ (by rw [← hu.out]; rfl)
theorem refUse_yes (r : Nat) (w : World) (h : r < 32) :
    Calls Tryd.prog 10 #[.int .i64 (r : Nat)] w fun e w' => e = .returned (.string (useS r)) ∧ Below w.heap.size w w' := by
  have q : ∀ (e : Ending) (w' : World), Qt w (.string (useS r)) e w' → e = .returned (.string (useS r)) ∧ Below w.heap.size w w' := fun e w' ⟨he, m, hm⟩ => ⟨he, by rw [hm]; exact below_draws (Below.refl _ _) m⟩
  by_cases h0 : r ≤ 4
  · exact refUse_0 r w h0
  by_cases h1 : r ≤ 7
  · exact (refUse_t r w (by omega) h1).mono q
  by_cases h2 : r ≤ 9
  · exact (refUse_s r w (by omega) h2).mono q
  by_cases h3 : r ≤ 17
  · exact (refUse_a r w (by omega) h3).mono q
  by_cases h4 : r ≤ 27
  · exact (refUse_s2 r w (by omega) h4).mono q
  · exact (refUse_t2 r w (by omega) (by omega)).mono q
/-- What the reference's Parse answers: the register, or -1. -/
def RefParsed (s : ByteArray) (w : World) (e : Ending) (w' : World) : Prop :=
  Below w.heap.size w w' ∧ ((∃ r : Nat, r < 32 ∧ isNameB s r = true ∧ NotYet s r ∧ e = .returned (.int .i64 (r : Nat))) ∨ (NotYet s 32 ∧ e = .returned (.int .i64 (-1))))
theorem refParse_any (s : ByteArray) (w : World) :
    Calls Tryd.prog 13 #[.string s] w (RefParsed s w) := by
  obtain ⟨B, hB⟩ : ∃ B, B = w.heap.size := ⟨_, rfl⟩
  have HB := hid hB
  have hle : B ≤ w.heap.size := by omega
  clear hB
  go_enter Tryd.func13, Tryd.ntmps13
  go_wp2
  go_loopw [3] (fun k wr => ∃ j : Nat, j ≤ 32 ∧ k = .int .i64 j ∧ NotYet s j ∧ Below B w wr) (fun k _ => 32 - (intOf k).toNat)
  case atStart => exact ⟨0, Nat.zero_le _, rfl, fun i hi => by omega, Below.refl _ _⟩
  case round =>
    obtain ⟨j, hj, rfl, hny, hbel⟩ := hrel
    have hsz := hbel.size
    by_cases hlt : j < 32
    · have hu := hid (fun W => refUse_yes j W hlt)
      have hn := hid (fun W => refName_yes j W hlt)
      have Hb := hid hbel
      clear hbel
      go_wp2_with (first | (go_at_call 10; refine (hu.out _).mono ?_; rintro e w2 ⟨rfl, hb2⟩) | (go_at_call 9; refine (hn.out _).mono ?_; rintro e w' ⟨rfl, m, rfl⟩))
      · have h : (numS j).toList = s.toList := by assumption
        go_ret
        have Hd := below_draws Hb.out m
        rw [HB.out] at Hd
        exact ⟨Hd, .inl ⟨j, hlt, isNameB_num' h, hny, rfl⟩⟩
      · have h : ((numS j).toList == s.toList) = true ∨ ((useS j).toList == s.toList) = true := by assumption
        go_ret
        have Hd := (below_draws Hb.out m).trans (hb2.mono (Nat.le_trans hle hsz))
        rw [HB.out] at Hd
        exact ⟨Hd, .inl ⟨j, hlt, isNameB_or' h, hny, rfl⟩⟩
      · have h : ((numS j).toList == s.toList) = false ∧ ((useS j).toList == s.toList) = false := by assumption
        have Hd := (below_draws Hb.out m).trans (hb2.mono (Nat.le_trans hle hsz))
        go_roundw
        case rel => exact ⟨j + 1, by omega, by go_num, hny.succ (isNameB_no' h), Hd⟩
        case measure => simp [intOf]; omega
    · obtain rfl : j = 32 := by omega
      go_wp2_with fail
      go_ret
      rw [HB.out] at hbel
      exact ⟨hbel, .inr ⟨hny, rfl⟩⟩
theorem refParse_some (s : ByteArray) (r : Nat) (w : World) (hr : r < 32) (h : isNameB s r = true) (hn : ∀ i, i < r → isNameB s i = false) :
    Calls Tryd.prog 13 #[.string s] w fun e w' => e = .returned (.int .i64 (r : Nat)) ∧ Below w.heap.size w w' :=
  (refParse_any s w).mono fun e w' ⟨hw, hh⟩ => by
    refine ⟨?_, hw⟩
    rcases hh with ⟨r', hr', h', hn', rfl⟩ | ⟨hn', _⟩
    · obtain rfl : r' = r := by
        rcases Nat.lt_trichotomy r r' with hl | hl | hl
        · rw [hn' r hl] at h; cases h
        · exact hl.symm
        · rw [hn r' hl] at h'; cases h'
      rfl
    · rw [hn' r hr] at h; cases h
theorem refParse_none (s : ByteArray) (w : World) (hn : ∀ i, i < 32 → isNameB s i = false) :
    Calls Tryd.prog 13 #[.string s] w fun e w' => e = .returned (.int .i64 (-1)) ∧ Below w.heap.size w w' :=
  (refParse_any s w).mono fun e w' ⟨hw, hh⟩ => by
    refine ⟨?_, hw⟩
    rcases hh with ⟨r', hr', h', _, rfl⟩ | ⟨_, rfl⟩
    · rw [hn r' hr'] at h'; cases h'
    · rfl
theorem refIn_none (a : Option Addr) (cap : Nat) (r : Int) (w : World) :
    Calls Tryd.prog 21 #[.slice a 0 cap, .int .i64 r] w fun e w' => e = .returned (.bool false) ∧ w = w' := by
  go_enter Tryd.func21, Tryd.ntmps21
  go_wp2
  refine wp_loop_rounds 1 ?_
  rw [rounds_succ]
  go_wp2
  go_ret
  exact ⟨rfl, rfl⟩
theorem refIn_some (b off n cap : Nat) (f : Nat → Int) (r : Int) (w : World) (hm : n ≤ 9223372036854775807) (hf : ∀ i, i < n → w.cell? ⟨b, off + i, none⟩ = some (.int .i64 (f i))) :
    Calls Tryd.prog 21 #[.slice (some ⟨b, off, none⟩) n cap, .int .i64 r] w fun e w' => e = .returned (.bool (inN f r n)) ∧ w = w' := by
  have Hf := hid hf
  clear hf
  go_enter Tryd.func21, Tryd.ntmps21
  go_wp2
  go_loop [5] (fun k => ∃ j : Nat, j ≤ n ∧ k = .int .i64 j ∧ inN f r j = false) (fun k => n - (intOf k).toNat)
  case atStart => exact ⟨0, Nat.zero_le _, rfl, rfl⟩
  case round =>
    obtain ⟨j, hj, rfl, hno⟩ := hrel
    have Hno := hid hno
    clear hno
    by_cases hlt : j < n
    · have hc := Hf.out j hlt
      cases he : (f j == r)
      · have hs := hid (show inN f r (j + 1) = false by rw [inN, Hno.out, he]; rfl)
        go_wp2_with fail
        go_round
        case rel => exact ⟨j + 1, by omega, by go_num, hs.out⟩
        case measure => simp [intOf]; omega
      · have hs := hid (inN_hit hlt (by simpa using he))
        go_wp2_with fail
        go_ret
        exact ⟨ret_bool hs.out.symm, rfl⟩
    · obtain rfl : n = j := by omega
      go_wp2_with fail
      go_ret
      exact ⟨ret_bool Hno.out.symm, rfl⟩
theorem refIn_rd {w : World} {B : Nat} {v : Value} {xs : List Int} (r : Int) (hm : xs.length ≤ 9223372036854775807) (h : RdI .i64 w B v xs) :
    Calls Tryd.prog 21 #[v, .int .i64 r] w fun e w' => e = .returned (.bool (inL xs r)) ∧ w = w' := by
  obtain ⟨a, cap, rfl, hc⟩ := h
  unfold inL
  rcases Nat.eq_zero_or_pos xs.length with h0 | h0
  · rw [h0]; exact refIn_none a cap r w
  · obtain ⟨b, off, rfl, _, hc⟩ := hc h0
    exact refIn_some b off _ cap _ r w hm hc
theorem refIntInfo : (Tryd.prog.info? 3).map (fun i => (i.zero, i.size, i.bytes)) = some (some (.int .i64 0), 1, 8) := by kernel_rfl
theorem refList_any (v : Value) (xs : List Int) (w : World) (hm : xs.length ≤ 9223372036854775807) (h : RdI .i64 w w.heap.size v xs) :
    Calls Tryd.prog 15 #[v] w (MkI .i64 w (listP (fun i : Nat => inL xs (i : Int)) 32)) := by
  obtain ⟨i0, hi, hz0, hz1, hz2⟩ := info_parts refIntInfo
  obtain ⟨p, hp⟩ : ∃ p : Nat → Bool, p = fun i : Nat => inL xs (i : Int) := ⟨_, rfl⟩
  have Hp := hid hp
  rw [← hp]
  clear hp
  obtain ⟨B, hB⟩ : ∃ B, B = w.heap.size := ⟨_, rfl⟩
  have HB := hid hB
  have hle : B ≤ w.heap.size := by omega
  rw [← hB] at h
  clear hB
  have HR := hid h
  clear h
  go_enter Tryd.func15, Tryd.ntmps15
  go_wp2
  go_loopw [3, 4] (fun o k wr => ∃ j : Nat, j ≤ 32 ∧ k = .int .i64 j ∧ wr.ownsRow B 3 1 o (listP p j).length ((listP p j).map (Value.int .i64)) ∧ Below B w wr) (fun _ k _ => 32 - (intOf k).toNat)
  case atStart => exact ⟨0, Nat.zero_le _, rfl, ⟨rfl, .inl ⟨rfl, rfl⟩⟩, Below.refl _ _⟩
  case round =>
    obtain ⟨j, hj, rfl, hown, hbel⟩ := hrel
    have hsz := hbel.size
    have hll := listP_len p j
    by_cases hlt : j < 32
    · have hq := refIn_rd (j : Nat) hm (HR.out.below hbel)
      have hpj : inL xs (j : Nat) = p j := by rw [Hp.out]
      rw [hpj] at hq
      have hh := hid hq
      clear hq hpj
      cases hb : p j
      · rw [hb] at hh
        have hn := hid (listP_no hb)
        clear hb
        go_wp2_with (go_at_call 21; refine hh.out.mono ?_; rintro e w' ⟨rfl, rfl⟩)
        go_roundw
        case rel => exact ⟨j + 1, by omega, by go_num, by rw [hn.out]; exact hown, hbel⟩
        case measure => simp [intOf]; omega
      · rw [hb] at hh
        have hn := hid (listP_yes hb)
        clear hb
        go_wp2_with (first | (go_at_call 21; refine hh.out.mono ?_; rintro e w' ⟨rfl, rfl⟩) | (at_builtin; refine wpList_append_own _ rfl _ _ 29 rfl B 3 i0 (.int .i64 0) 1 8 Tryd.underlying29 hi hz0 hz1 hz2 rfl (by decide) _ _ _ rfl (hown.alloc _) ⟨wr.heap.size, 0, none⟩ 1 1 [.int .i64 j] rfl rfl ?c1 ?c2 ?c3 ?c4 ?c5 ?_))
        case c1 => exact cell_one_new _ _ _
        case c2 => simp [Value.oneCell']
        case c3 => unfold maxLen; omega
        case c4 => omega
        case c5 => simp; omega
        intro v' w1 hown1 hgrow _
        have hown2 : w1.ownsRow B 3 1 v' (listP p (j + 1)).length ((listP p (j + 1)).map (Value.int .i64)) := by rw [hn.out, List.map_append, List.length_append]; exact hown1
        have hbel2 : Below B w w1 := (hbel.alloc (by omega) _).grown hgrow (by simp; omega) (fun k hk => (hown.lt k hk).1)
        clear hown hown1 hgrow hbel
        go_wp2
        go_roundw
        case rel => exact ⟨j + 1, by omega, by go_num, hown2, hbel2⟩
        case measure => simp [intOf]; omega
    · obtain rfl : j = 32 := by omega
      go_wp2_with fail
      go_ret
      rw [HB.out] at hbel
      exact ⟨_, rfl, RdI.of_own hown, hbel⟩
theorem refInts_none (w : World) (a b : Option Addr) (ca cb : Nat) :
    Calls Tryd.prog 17 #[.slice a 0 ca, .slice b 0 cb] w (Qt w (.bool true)) := by
  go_enter Tryd.func17, Tryd.ntmps17
  go_wp2
  refine wp_loop_rounds 1 ?_
  rw [rounds_succ]
  go_wp2
  go_ret
  exact Qt.mk0 _ _
theorem refInts_some (w : World) (b off b' off' n ca cb : Nat) (f : Nat → Int) (hm : n ≤ 9223372036854775807)
    (hf : ∀ i, i < n → w.cell? ⟨b, off + i, none⟩ = some (.int .i64 (f i))) (hg : ∀ i, i < n → w.cell? ⟨b', off' + i, none⟩ = some (.int .i64 (f i))) :
    Calls Tryd.prog 17 #[.slice (some ⟨b, off, none⟩) n ca, .slice (some ⟨b', off', none⟩) n cb] w (Qt w (.bool true)) := by
  have hne : ((n : Int) != n) = false := by simp
  have Hf := hid hf
  have Hg := hid hg
  clear hf hg
  go_enter Tryd.func17, Tryd.ntmps17
  go_wp2
  go_loopw [5] (fun k wr => ∃ j m : Nat, j ≤ n ∧ k = .int .i64 j ∧ wr = w.drewN m) (fun k _ => n - (intOf k).toNat)
  case atStart => exact ⟨0, 0, Nat.zero_le _, rfl, rfl⟩
  case round =>
    obtain ⟨j, m, hj, rfl, rfl⟩ := hrel
    by_cases hlt : j < n
    · have h1 := Hf.out j hlt
      have h2 := Hg.out j hlt
      clear Hf Hg
      go_wp2
      go_quiet (fail)
      go_wp2
      go_roundw
      case rel => exact ⟨j + 1, _, by omega, by go_num, rfl⟩
      case measure => simp [intOf]; omega
    · go_wp2
      go_ret
      exact Qt.mk _ _ _
theorem refInts_yes {w : World} {B B' : Nat} {u v : Value} {xs : List Int} (hm : xs.length ≤ 9223372036854775807) (hu : RdI .i64 w B u xs) (hv : RdI .i64 w B' v xs) :
    Calls Tryd.prog 17 #[u, v] w (Qt w (.bool true)) := by
  obtain ⟨a, ca, rfl, h1⟩ := hu
  obtain ⟨b, cb, rfl, h2⟩ := hv
  rcases Nat.eq_zero_or_pos xs.length with h0 | h0
  · rw [h0]; exact refInts_none w a b ca cb
  · obtain ⟨b1, o1, rfl, _, h1⟩ := h1 h0
    obtain ⟨b2, o2, rfl, _, h2⟩ := h2 h0
    exact refInts_some w b1 o1 b2 o2 _ ca cb (fun i => xs.getD i 0) hm h1 h2
end Go.Proofs.YtpjpcddjbebhjaaDoor
