/- Layer 16: package ppo: which rule orders a span's event and one behind it: the rules but for 2, 3, 12. -/
import Derived.Test.YtchjjbcmbdmlgaaK13
set_option linter.unusedVariables false
set_option linter.unusedSimpArgs false
namespace Go.Proofs.Ytchjjbcmbdmlgaa
open Go Go.RowKit Sim
theorem below_q {w w' : World} (h : ∃ n, w' = w.drewN n) : Below w.heap.size w w' := by
  obtain ⟨n, rfl⟩ := h
  exact below_draws (Below.refl _ w) n
def ordR (s : SpZ) (ps : List (Int × Int)) (e m : EvZ) (xa xd xc : Bool) : Nat → Bool
  | 1 => m.wr && sameB e m
  | 2 => hasB16 e && (hasB16 m && (sameB e m && (!s.rew && !(e.sh == m.sh && e.sa == m.sa))))
  | 3 => stoB e && (hasB16 m && (m.sh == e.ht && m.sa == e.at'))
  | 4 => incB s.fen m
  | 5 => e.i.aq
  | 6 => m.i.rl
  | 7 => markB e && markB m
  | 8 => e.i.op == 77 && (m.i.op == 78 && !s.rsv)
  | 9 => xa
  | 10 => xd
  | 11 => m.wr && xc
  | 12 => hasB16 m && ps.contains (m.sh, m.sa)
  | 13 => m.wr && s.adr
  | _ => false
def ordZ (s : SpZ) (ps : List (Int × Int)) (e m : EvZ) (xa xd xc : Bool) (rule : Int) : Bool := memB e && (memB m && (decide (0 ≤ rule) && ordR s ps e m xa xd xc rule.toNat))
def OrE (w : World) (v : Bool) : Ending → World → Prop := fun x w' => x = .returned (.bool v) ∧ Below w.heap.size w w'
structure OrC (w : World) (B sb : Nat) (s : SpZ) (ps : List (Int × Int)) (e m : EvZ) (va vd vc va' vd' vc' : Value) (b o na nd nc : Nat) (Fa Fd Fc : Nat → Int) : Prop where
  sp : SpI w B sb s ps
  fen : s.fen < 16
  ev : EvA w s.fb s.fo e va vd vc
  em : EvA w b o m va' vd' vc'
  la : RdL w va' na Fa
  ld : RdL w vd' nd Fd
  lc : RdL w vc' nc Fc
  na : na ≤ 1000000
  nd : nd ≤ 1000000
  nc : nc ≤ 1000000
section
variable {w : World} {B sb : Nat} {s : SpZ} {ps : List (Int × Int)} {e m : EvZ} {va vd vc va' vd' vc' : Value} {b o na nd nc : Nat} {Fa Fd Fc : Nat → Int}
set_option maxHeartbeats 4000000 in
set_option maxRecDepth 100000 in
theorem orders_1 (H : OrC w B sb s ps e m va vd vc va' vd' vc' b o na nd nc Fa Fd Fc) : Calls Try.prog 21 #[.pointer (some ⟨sb, 0, none⟩), .pointer (some ⟨b, o, none⟩), .int .i64 1] w (OrE w (memB e && (memB m && (m.wr && sameB e m)))) := by
  obtain ⟨r, hr⟩ : ∃ r, r = (memB e && (memB m && (m.wr && sameB e m))) := ⟨_, rfl⟩
  rw [← hr]
  obtain ⟨ma, hma⟩ : ∃ x, memB e = x := ⟨_, rfl⟩
  obtain ⟨mb, hmb⟩ : ∃ x, memB m = x := ⟨_, rfl⟩
  have h1 := isMemory_w H.ev
  have h2 := isMemory_w H.em
  rw [hma] at h1 hr
  rw [hmb] at h2 hr
  have HX := hid h1
  have HY := hid h2
  have cf : w.cell? ⟨sb, 0, none⟩ = some (.pointer (some ⟨s.fb, s.fo, none⟩)) := H.sp.row.cell (i := 0) (by omega)
  clear hma hmb h1 h2
  have c7 : w.cell? ⟨b, o + 13, none⟩ = some (.bool m.wr) := H.em 13 (by omega)
  obtain ⟨mw, hmw⟩ : ∃ x, m.wr = x := ⟨_, rfl⟩
  rw [hmw] at c7 hr
  clear hmw
  obtain ⟨sm, hsm⟩ : ∃ x, sameB e m = x := ⟨_, rfl⟩
  have h3 := haveSame_w H.ev H.em
  rw [hsm] at h3 hr
  have HS := hid h3
  clear hsm h3
  have Hr := hid hr
  clear hr H
  go_enter Try.func21, Try.ntmps21
  cases ma
  · go_wp2_with (go_at_call 31; refine HX.out.mono ?_; rintro x w' ⟨rfl, rfl⟩; clear HX; have HX := HY)
    go_ret
    exact ⟨by rw [Hr.out]; rfl, Below.refl _ _⟩
  · cases mb
    · go_wp2_with (go_at_call 31; refine HX.out.mono ?_; rintro x w' ⟨rfl, rfl⟩; clear HX; have HX := HY)
      go_ret
      exact ⟨by rw [Hr.out]; rfl, Below.refl _ _⟩
    · go_upto_if 19 with (go_at_call 31; refine HX.out.mono ?_; rintro x w' ⟨rfl, rfl⟩; clear HX; have HX := HY)
      cases mw
      · go_wp2
        go_ret
        exact ⟨by rw [Hr.out]; first | rfl | simp, Below.refl _ _⟩
      · go_wp2_with (go_at_call 38; refine HS.out.mono ?_; rintro x w' ⟨rfl, hq⟩; have Hq := hid hq; clear hq)
        go_ret
        exact ⟨by rw [Hr.out]; rfl, below_q Hq.out⟩
set_option maxHeartbeats 4000000 in
set_option maxRecDepth 100000 in
theorem orders_4 (H : OrC w B sb s ps e m va vd vc va' vd' vc' b o na nd nc Fa Fd Fc) : Calls Try.prog 21 #[.pointer (some ⟨sb, 0, none⟩), .pointer (some ⟨b, o, none⟩), .int .i64 4] w (OrE w (memB e && (memB m && (incB s.fen m)))) := by
  obtain ⟨r, hr⟩ : ∃ r, r = (memB e && (memB m && (incB s.fen m))) := ⟨_, rfl⟩
  rw [← hr]
  obtain ⟨ma, hma⟩ : ∃ x, memB e = x := ⟨_, rfl⟩
  obtain ⟨mb, hmb⟩ : ∃ x, memB m = x := ⟨_, rfl⟩
  have h1 := isMemory_w H.ev
  have h2 := isMemory_w H.em
  rw [hma] at h1 hr
  rw [hmb] at h2 hr
  have HX := hid h1
  have HY := hid h2
  have cf : w.cell? ⟨sb, 0, none⟩ = some (.pointer (some ⟨s.fb, s.fo, none⟩)) := H.sp.row.cell (i := 0) (by omega)
  clear hma hmb h1 h2
  have c2 : w.cell? ⟨sb, 2, none⟩ = some (.int .i64 (s.fen : Nat)) := H.sp.row.cell (i := 2) (by omega)
  have HI := hid (includes_w H.em s.fen H.fen)
  have Hr := hid hr
  clear hr H
  go_enter Try.func21, Try.ntmps21
  cases ma
  · go_wp2_with (go_at_call 31; refine HX.out.mono ?_; rintro x w' ⟨rfl, rfl⟩; clear HX; have HX := HY)
    go_ret
    exact ⟨by rw [Hr.out]; rfl, Below.refl _ _⟩
  · cases mb
    · go_wp2_with (go_at_call 31; refine HX.out.mono ?_; rintro x w' ⟨rfl, rfl⟩; clear HX; have HX := HY)
      go_ret
      exact ⟨by rw [Hr.out]; rfl, Below.refl _ _⟩
    · go_upto_if 19 with (go_at_call 31; refine HX.out.mono ?_; rintro x w' ⟨rfl, rfl⟩; clear HX; have HX := HY)
      go_wp2_with (go_at_call 42; refine HI.out.mono ?_; rintro x w' ⟨rfl, rfl⟩)
      go_ret
      exact ⟨by rw [Hr.out]; rfl, Below.refl _ _⟩
set_option maxHeartbeats 4000000 in
set_option maxRecDepth 100000 in
theorem orders_5 (H : OrC w B sb s ps e m va vd vc va' vd' vc' b o na nd nc Fa Fd Fc) : Calls Try.prog 21 #[.pointer (some ⟨sb, 0, none⟩), .pointer (some ⟨b, o, none⟩), .int .i64 5] w (OrE w (memB e && (memB m && (e.i.aq)))) := by
  obtain ⟨r, hr⟩ : ∃ r, r = (memB e && (memB m && (e.i.aq))) := ⟨_, rfl⟩
  rw [← hr]
  obtain ⟨ma, hma⟩ : ∃ x, memB e = x := ⟨_, rfl⟩
  obtain ⟨mb, hmb⟩ : ∃ x, memB m = x := ⟨_, rfl⟩
  have h1 := isMemory_w H.ev
  have h2 := isMemory_w H.em
  rw [hma] at h1 hr
  rw [hmb] at h2 hr
  have HX := hid h1
  have HY := hid h2
  have cf : w.cell? ⟨sb, 0, none⟩ = some (.pointer (some ⟨s.fb, s.fo, none⟩)) := H.sp.row.cell (i := 0) (by omega)
  clear hma hmb h1 h2
  have c8 : w.cell? ⟨s.fb, s.fo + 3 + 5, none⟩ = some (.bool e.i.aq) := H.ev 8 (by omega)
  have Hr := hid hr
  clear hr H
  go_enter Try.func21, Try.ntmps21
  cases ma
  · go_wp2_with (go_at_call 31; refine HX.out.mono ?_; rintro x w' ⟨rfl, rfl⟩; clear HX; have HX := HY)
    go_ret
    exact ⟨by rw [Hr.out]; rfl, Below.refl _ _⟩
  · cases mb
    · go_wp2_with (go_at_call 31; refine HX.out.mono ?_; rintro x w' ⟨rfl, rfl⟩; clear HX; have HX := HY)
      go_ret
      exact ⟨by rw [Hr.out]; rfl, Below.refl _ _⟩
    · go_upto_if 19 with (go_at_call 31; refine HX.out.mono ?_; rintro x w' ⟨rfl, rfl⟩; clear HX; have HX := HY)
      go_wp2
      go_ret
      exact ⟨by rw [Hr.out]; first | rfl | simp, Below.refl _ _⟩
set_option maxHeartbeats 4000000 in
set_option maxRecDepth 100000 in
theorem orders_6 (H : OrC w B sb s ps e m va vd vc va' vd' vc' b o na nd nc Fa Fd Fc) : Calls Try.prog 21 #[.pointer (some ⟨sb, 0, none⟩), .pointer (some ⟨b, o, none⟩), .int .i64 6] w (OrE w (memB e && (memB m && (m.i.rl)))) := by
  obtain ⟨r, hr⟩ : ∃ r, r = (memB e && (memB m && (m.i.rl))) := ⟨_, rfl⟩
  rw [← hr]
  obtain ⟨ma, hma⟩ : ∃ x, memB e = x := ⟨_, rfl⟩
  obtain ⟨mb, hmb⟩ : ∃ x, memB m = x := ⟨_, rfl⟩
  have h1 := isMemory_w H.ev
  have h2 := isMemory_w H.em
  rw [hma] at h1 hr
  rw [hmb] at h2 hr
  have HX := hid h1
  have HY := hid h2
  have cf : w.cell? ⟨sb, 0, none⟩ = some (.pointer (some ⟨s.fb, s.fo, none⟩)) := H.sp.row.cell (i := 0) (by omega)
  clear hma hmb h1 h2
  have c8 : w.cell? ⟨b, o + 3 + 6, none⟩ = some (.bool m.i.rl) := H.em 9 (by omega)
  have Hr := hid hr
  clear hr H
  go_enter Try.func21, Try.ntmps21
  cases ma
  · go_wp2_with (go_at_call 31; refine HX.out.mono ?_; rintro x w' ⟨rfl, rfl⟩; clear HX; have HX := HY)
    go_ret
    exact ⟨by rw [Hr.out]; rfl, Below.refl _ _⟩
  · cases mb
    · go_wp2_with (go_at_call 31; refine HX.out.mono ?_; rintro x w' ⟨rfl, rfl⟩; clear HX; have HX := HY)
      go_ret
      exact ⟨by rw [Hr.out]; rfl, Below.refl _ _⟩
    · go_upto_if 19 with (go_at_call 31; refine HX.out.mono ?_; rintro x w' ⟨rfl, rfl⟩; clear HX; have HX := HY)
      go_wp2
      go_ret
      exact ⟨by rw [Hr.out]; first | rfl | simp, Below.refl _ _⟩
set_option maxHeartbeats 4000000 in
set_option maxRecDepth 100000 in
theorem orders_7 (H : OrC w B sb s ps e m va vd vc va' vd' vc' b o na nd nc Fa Fd Fc) : Calls Try.prog 21 #[.pointer (some ⟨sb, 0, none⟩), .pointer (some ⟨b, o, none⟩), .int .i64 7] w (OrE w (memB e && (memB m && (markB e && markB m)))) := by
  obtain ⟨r, hr⟩ : ∃ r, r = (memB e && (memB m && (markB e && markB m))) := ⟨_, rfl⟩
  rw [← hr]
  obtain ⟨ma, hma⟩ : ∃ x, memB e = x := ⟨_, rfl⟩
  obtain ⟨mb, hmb⟩ : ∃ x, memB m = x := ⟨_, rfl⟩
  have h1 := isMemory_w H.ev
  have h2 := isMemory_w H.em
  rw [hma] at h1 hr
  rw [hmb] at h2 hr
  have HX := hid h1
  have HY := hid h2
  have cf : w.cell? ⟨sb, 0, none⟩ = some (.pointer (some ⟨s.fb, s.fo, none⟩)) := H.sp.row.cell (i := 0) (by omega)
  clear hma hmb h1 h2
  obtain ⟨ka, hka⟩ : ∃ x, markB e = x := ⟨_, rfl⟩
  obtain ⟨kb, hkb⟩ : ∃ x, markB m = x := ⟨_, rfl⟩
  have h3 := isMarked_w H.ev
  have h4 := isMarked_w H.em
  rw [hka] at h3 hr
  rw [hkb] at h4 hr
  have HK := hid h3
  have HL := hid h4
  clear hka hkb h3 h4
  have Hr := hid hr
  clear hr H
  go_enter Try.func21, Try.ntmps21
  cases ma
  · go_wp2_with (go_at_call 31; refine HX.out.mono ?_; rintro x w' ⟨rfl, rfl⟩; clear HX; have HX := HY)
    go_ret
    exact ⟨by rw [Hr.out]; rfl, Below.refl _ _⟩
  · cases mb
    · go_wp2_with (go_at_call 31; refine HX.out.mono ?_; rintro x w' ⟨rfl, rfl⟩; clear HX; have HX := HY)
      go_ret
      exact ⟨by rw [Hr.out]; rfl, Below.refl _ _⟩
    · go_upto_if 19 with (go_at_call 31; refine HX.out.mono ?_; rintro x w' ⟨rfl, rfl⟩; clear HX; have HX := HY)
      cases ka
      all_goals
        go_wp2_with (go_at_call 43; refine HK.out.mono ?_; rintro x w' ⟨rfl, rfl⟩; clear HK; have HK := HL)
        go_ret
        exact ⟨by rw [Hr.out]; rfl, Below.refl _ _⟩
set_option maxHeartbeats 4000000 in
set_option maxRecDepth 100000 in
theorem orders_8 (H : OrC w B sb s ps e m va vd vc va' vd' vc' b o na nd nc Fa Fd Fc) : Calls Try.prog 21 #[.pointer (some ⟨sb, 0, none⟩), .pointer (some ⟨b, o, none⟩), .int .i64 8] w (OrE w (memB e && (memB m && (e.i.op == 77 && (m.i.op == 78 && !s.rsv))))) := by
  obtain ⟨r, hr⟩ : ∃ r, r = (memB e && (memB m && (e.i.op == 77 && (m.i.op == 78 && !s.rsv)))) := ⟨_, rfl⟩
  rw [← hr]
  obtain ⟨ma, hma⟩ : ∃ x, memB e = x := ⟨_, rfl⟩
  obtain ⟨mb, hmb⟩ : ∃ x, memB m = x := ⟨_, rfl⟩
  have h1 := isMemory_w H.ev
  have h2 := isMemory_w H.em
  rw [hma] at h1 hr
  rw [hmb] at h2 hr
  have HX := hid h1
  have HY := hid h2
  have cf : w.cell? ⟨sb, 0, none⟩ = some (.pointer (some ⟨s.fb, s.fo, none⟩)) := H.sp.row.cell (i := 0) (by omega)
  clear hma hmb h1 h2
  have c1 : w.cell? ⟨s.fb, s.fo + 3, none⟩ = some (.int .i64 e.i.op) := H.ev 3 (by omega)
  have c2 : w.cell? ⟨b, o + 3, none⟩ = some (.int .i64 m.i.op) := H.em 3 (by omega)
  have c5 : w.cell? ⟨sb, 5, none⟩ = some (.bool s.rsv) := H.sp.row.cell (i := 5) (by omega)
  generalize e.i.op = p at c1 hr
  generalize m.i.op = q at c2 hr
  generalize s.rsv = rv at c5 hr
  have Hr := hid hr
  clear hr H
  go_enter Try.func21, Try.ntmps21
  cases ma
  · go_wp2_with (go_at_call 31; refine HX.out.mono ?_; rintro x w' ⟨rfl, rfl⟩; clear HX; have HX := HY)
    go_ret
    exact ⟨by rw [Hr.out]; rfl, Below.refl _ _⟩
  · cases mb
    · go_wp2_with (go_at_call 31; refine HX.out.mono ?_; rintro x w' ⟨rfl, rfl⟩; clear HX; have HX := HY)
      go_ret
      exact ⟨by rw [Hr.out]; rfl, Below.refl _ _⟩
    · go_upto_if 19 with (go_at_call 31; refine HX.out.mono ?_; rintro x w' ⟨rfl, rfl⟩; clear HX; have HX := HY)
      by_cases h1 : p = 77
      · subst h1
        by_cases h2 : q = 78
        · subst h2
          go_wp2
          go_ret
          exact ⟨by rw [Hr.out]; first | rfl | simp, Below.refl _ _⟩
        · have h2 : (q == 78) = false := by simpa using h2
          go_wp2
          go_ret
          exact ⟨by rw [Hr.out]; simp [h2], Below.refl _ _⟩
      · have h1 : (p == 77) = false := by simpa using h1
        go_wp2
        go_ret
        exact ⟨by rw [Hr.out]; simp [h1], Below.refl _ _⟩
set_option maxHeartbeats 4000000 in
set_option maxRecDepth 100000 in
theorem orders_9 (H : OrC w B sb s ps e m va vd vc va' vd' vc' b o na nd nc Fa Fd Fc) : Calls Try.prog 21 #[.pointer (some ⟨sb, 0, none⟩), .pointer (some ⟨b, o, none⟩), .int .i64 9] w (OrE w (memB e && (memB m && (inF Fa na s.ix)))) := by
  obtain ⟨r, hr⟩ : ∃ r, r = (memB e && (memB m && (inF Fa na s.ix))) := ⟨_, rfl⟩
  rw [← hr]
  obtain ⟨ma, hma⟩ : ∃ x, memB e = x := ⟨_, rfl⟩
  obtain ⟨mb, hmb⟩ : ∃ x, memB m = x := ⟨_, rfl⟩
  have h1 := isMemory_w H.ev
  have h2 := isMemory_w H.em
  rw [hma] at h1 hr
  rw [hmb] at h2 hr
  have HX := hid h1
  have HY := hid h2
  have cf : w.cell? ⟨sb, 0, none⟩ = some (.pointer (some ⟨s.fb, s.fo, none⟩)) := H.sp.row.cell (i := 0) (by omega)
  clear hma hmb h1 h2
  have hl := H.la
  have HI := hid (isIn_w H.sp.row H.la H.na)
  obtain ⟨q, c, ee, _⟩ := hl
  have cl : w.cell? ⟨b, o + 20, none⟩ = some va' := H.em 20 (by omega)
  rw [ee] at cl HI
  have Hr := hid hr
  clear hr H
  go_enter Try.func21, Try.ntmps21
  cases ma
  · go_wp2_with (go_at_call 31; refine HX.out.mono ?_; rintro x w' ⟨rfl, rfl⟩; clear HX; have HX := HY)
    go_ret
    exact ⟨by rw [Hr.out]; rfl, Below.refl _ _⟩
  · cases mb
    · go_wp2_with (go_at_call 31; refine HX.out.mono ?_; rintro x w' ⟨rfl, rfl⟩; clear HX; have HX := HY)
      go_ret
      exact ⟨by rw [Hr.out]; rfl, Below.refl _ _⟩
    · go_upto_if 19 with (go_at_call 31; refine HX.out.mono ?_; rintro x w' ⟨rfl, rfl⟩; clear HX; have HX := HY)
      go_wp2_with (go_at_call 44; refine HI.out.mono ?_; rintro x w' ⟨rfl, rfl⟩)
      go_ret
      exact ⟨by rw [Hr.out]; rfl, Below.refl _ _⟩
set_option maxHeartbeats 4000000 in
set_option maxRecDepth 100000 in
theorem orders_10 (H : OrC w B sb s ps e m va vd vc va' vd' vc' b o na nd nc Fa Fd Fc) : Calls Try.prog 21 #[.pointer (some ⟨sb, 0, none⟩), .pointer (some ⟨b, o, none⟩), .int .i64 10] w (OrE w (memB e && (memB m && (inF Fd nd s.ix)))) := by
  obtain ⟨r, hr⟩ : ∃ r, r = (memB e && (memB m && (inF Fd nd s.ix))) := ⟨_, rfl⟩
  rw [← hr]
  obtain ⟨ma, hma⟩ : ∃ x, memB e = x := ⟨_, rfl⟩
  obtain ⟨mb, hmb⟩ : ∃ x, memB m = x := ⟨_, rfl⟩
  have h1 := isMemory_w H.ev
  have h2 := isMemory_w H.em
  rw [hma] at h1 hr
  rw [hmb] at h2 hr
  have HX := hid h1
  have HY := hid h2
  have cf : w.cell? ⟨sb, 0, none⟩ = some (.pointer (some ⟨s.fb, s.fo, none⟩)) := H.sp.row.cell (i := 0) (by omega)
  clear hma hmb h1 h2
  have hl := H.ld
  have HI := hid (isIn_w H.sp.row H.ld H.nd)
  obtain ⟨q, c, ee, _⟩ := hl
  have cl : w.cell? ⟨b, o + 21, none⟩ = some vd' := H.em 21 (by omega)
  rw [ee] at cl HI
  have Hr := hid hr
  clear hr H
  go_enter Try.func21, Try.ntmps21
  cases ma
  · go_wp2_with (go_at_call 31; refine HX.out.mono ?_; rintro x w' ⟨rfl, rfl⟩; clear HX; have HX := HY)
    go_ret
    exact ⟨by rw [Hr.out]; rfl, Below.refl _ _⟩
  · cases mb
    · go_wp2_with (go_at_call 31; refine HX.out.mono ?_; rintro x w' ⟨rfl, rfl⟩; clear HX; have HX := HY)
      go_ret
      exact ⟨by rw [Hr.out]; rfl, Below.refl _ _⟩
    · go_upto_if 19 with (go_at_call 31; refine HX.out.mono ?_; rintro x w' ⟨rfl, rfl⟩; clear HX; have HX := HY)
      go_wp2_with (go_at_call 44; refine HI.out.mono ?_; rintro x w' ⟨rfl, rfl⟩)
      go_ret
      exact ⟨by rw [Hr.out]; rfl, Below.refl _ _⟩
set_option maxHeartbeats 4000000 in
set_option maxRecDepth 100000 in
theorem orders_11 (H : OrC w B sb s ps e m va vd vc va' vd' vc' b o na nd nc Fa Fd Fc) : Calls Try.prog 21 #[.pointer (some ⟨sb, 0, none⟩), .pointer (some ⟨b, o, none⟩), .int .i64 11] w (OrE w (memB e && (memB m && (m.wr && inF Fc nc s.ix)))) := by
  obtain ⟨r, hr⟩ : ∃ r, r = (memB e && (memB m && (m.wr && inF Fc nc s.ix))) := ⟨_, rfl⟩
  rw [← hr]
  obtain ⟨ma, hma⟩ : ∃ x, memB e = x := ⟨_, rfl⟩
  obtain ⟨mb, hmb⟩ : ∃ x, memB m = x := ⟨_, rfl⟩
  have h1 := isMemory_w H.ev
  have h2 := isMemory_w H.em
  rw [hma] at h1 hr
  rw [hmb] at h2 hr
  have HX := hid h1
  have HY := hid h2
  have cf : w.cell? ⟨sb, 0, none⟩ = some (.pointer (some ⟨s.fb, s.fo, none⟩)) := H.sp.row.cell (i := 0) (by omega)
  clear hma hmb h1 h2
  have c7 : w.cell? ⟨b, o + 13, none⟩ = some (.bool m.wr) := H.em 13 (by omega)
  obtain ⟨mw, hmw⟩ : ∃ x, m.wr = x := ⟨_, rfl⟩
  rw [hmw] at c7 hr
  clear hmw
  have hl := H.lc
  have HI := hid (isIn_w H.sp.row H.lc H.nc)
  obtain ⟨q, c, ee, _⟩ := hl
  have cl : w.cell? ⟨b, o + 22, none⟩ = some vc' := H.em 22 (by omega)
  rw [ee] at cl HI
  have Hr := hid hr
  clear hr H
  go_enter Try.func21, Try.ntmps21
  cases ma
  · go_wp2_with (go_at_call 31; refine HX.out.mono ?_; rintro x w' ⟨rfl, rfl⟩; clear HX; have HX := HY)
    go_ret
    exact ⟨by rw [Hr.out]; rfl, Below.refl _ _⟩
  · cases mb
    · go_wp2_with (go_at_call 31; refine HX.out.mono ?_; rintro x w' ⟨rfl, rfl⟩; clear HX; have HX := HY)
      go_ret
      exact ⟨by rw [Hr.out]; rfl, Below.refl _ _⟩
    · go_upto_if 19 with (go_at_call 31; refine HX.out.mono ?_; rintro x w' ⟨rfl, rfl⟩; clear HX; have HX := HY)
      cases mw
      · go_wp2
        go_ret
        exact ⟨by rw [Hr.out]; first | rfl | simp, Below.refl _ _⟩
      · go_wp2_with (go_at_call 44; refine HI.out.mono ?_; rintro x w' ⟨rfl, rfl⟩)
        go_ret
        exact ⟨by rw [Hr.out]; rfl, Below.refl _ _⟩
set_option maxHeartbeats 4000000 in
set_option maxRecDepth 100000 in
theorem orders_13 (H : OrC w B sb s ps e m va vd vc va' vd' vc' b o na nd nc Fa Fd Fc) : Calls Try.prog 21 #[.pointer (some ⟨sb, 0, none⟩), .pointer (some ⟨b, o, none⟩), .int .i64 13] w (OrE w (memB e && (memB m && (m.wr && s.adr)))) := by
  obtain ⟨r, hr⟩ : ∃ r, r = (memB e && (memB m && (m.wr && s.adr))) := ⟨_, rfl⟩
  rw [← hr]
  obtain ⟨ma, hma⟩ : ∃ x, memB e = x := ⟨_, rfl⟩
  obtain ⟨mb, hmb⟩ : ∃ x, memB m = x := ⟨_, rfl⟩
  have h1 := isMemory_w H.ev
  have h2 := isMemory_w H.em
  rw [hma] at h1 hr
  rw [hmb] at h2 hr
  have HX := hid h1
  have HY := hid h2
  have cf : w.cell? ⟨sb, 0, none⟩ = some (.pointer (some ⟨s.fb, s.fo, none⟩)) := H.sp.row.cell (i := 0) (by omega)
  clear hma hmb h1 h2
  have c7 : w.cell? ⟨b, o + 13, none⟩ = some (.bool m.wr) := H.em 13 (by omega)
  obtain ⟨mw, hmw⟩ : ∃ x, m.wr = x := ⟨_, rfl⟩
  rw [hmw] at c7 hr
  clear hmw
  have c6 : w.cell? ⟨sb, 6, none⟩ = some (.bool s.adr) := H.sp.row.cell (i := 6) (by omega)
  have Hr := hid hr
  clear hr H
  go_enter Try.func21, Try.ntmps21
  cases ma
  · go_wp2_with (go_at_call 31; refine HX.out.mono ?_; rintro x w' ⟨rfl, rfl⟩; clear HX; have HX := HY)
    go_ret
    exact ⟨by rw [Hr.out]; rfl, Below.refl _ _⟩
  · cases mb
    · go_wp2_with (go_at_call 31; refine HX.out.mono ?_; rintro x w' ⟨rfl, rfl⟩; clear HX; have HX := HY)
      go_ret
      exact ⟨by rw [Hr.out]; rfl, Below.refl _ _⟩
    · go_upto_if 19 with (go_at_call 31; refine HX.out.mono ?_; rintro x w' ⟨rfl, rfl⟩; clear HX; have HX := HY)
      cases mw
      all_goals
        go_wp2
        go_ret
        exact ⟨by rw [Hr.out]; first | rfl | simp, Below.refl _ _⟩
set_option maxHeartbeats 4000000 in
set_option maxRecDepth 100000 in
theorem orders_none (H : OrC w B sb s ps e m va vd vc va' vd' vc' b o na nd nc Fa Fd Fc) (k : Int) (hk : k < 1 ∨ 13 < k) : Calls Try.prog 21 #[.pointer (some ⟨sb, 0, none⟩), .pointer (some ⟨b, o, none⟩), .int .i64 k] w (OrE w (memB e && (memB m && (false)))) := by
  obtain ⟨r, hr⟩ : ∃ r, r = (memB e && (memB m && (false))) := ⟨_, rfl⟩
  rw [← hr]
  obtain ⟨ma, hma⟩ : ∃ x, memB e = x := ⟨_, rfl⟩
  obtain ⟨mb, hmb⟩ : ∃ x, memB m = x := ⟨_, rfl⟩
  have h1 := isMemory_w H.ev
  have h2 := isMemory_w H.em
  rw [hma] at h1 hr
  rw [hmb] at h2 hr
  have HX := hid h1
  have HY := hid h2
  have cf : w.cell? ⟨sb, 0, none⟩ = some (.pointer (some ⟨s.fb, s.fo, none⟩)) := H.sp.row.cell (i := 0) (by omega)
  clear hma hmb h1 h2
  have b1 : (k == 1) = false := by simp; omega
  have b2 : (k == 2) = false := by simp; omega
  have b3 : (k == 3) = false := by simp; omega
  have b4 : (k == 4) = false := by simp; omega
  have b5 : (k == 5) = false := by simp; omega
  have b6 : (k == 6) = false := by simp; omega
  have b7 : (k == 7) = false := by simp; omega
  have b8 : (k == 8) = false := by simp; omega
  have b9 : (k == 9) = false := by simp; omega
  have b10 : (k == 10) = false := by simp; omega
  have b11 : (k == 11) = false := by simp; omega
  have b12 : (k == 12) = false := by simp; omega
  have b13 : (k == 13) = false := by simp; omega
  clear hk
  have Hr := hid hr
  clear hr H
  go_enter Try.func21, Try.ntmps21
  cases ma
  · go_wp2_with (go_at_call 31; refine HX.out.mono ?_; rintro x w' ⟨rfl, rfl⟩; clear HX; have HX := HY)
    go_ret
    exact ⟨by rw [Hr.out]; rfl, Below.refl _ _⟩
  · cases mb
    · go_wp2_with (go_at_call 31; refine HX.out.mono ?_; rintro x w' ⟨rfl, rfl⟩; clear HX; have HX := HY)
      go_ret
      exact ⟨by rw [Hr.out]; rfl, Below.refl _ _⟩
    · go_upto_if 19 with (go_at_call 31; refine HX.out.mono ?_; rintro x w' ⟨rfl, rfl⟩; clear HX; have HX := HY)
      go_wp2
      go_ret
      exact ⟨by rw [Hr.out]; rfl, Below.refl _ _⟩
end
end Go.Proofs.Ytchjjbcmbdmlgaa
