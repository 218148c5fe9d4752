/- Layer 16: package ppo: include. -/
import Derived.Test.YtchjjbcmbdmlgaaK13
import Derived.Deep.Cut
set_option linter.unusedVariables false
set_option linter.unusedSimpArgs false
namespace Go.Proofs.Ytchjjbcmbdmlgaa
open Go Go.RowKit Sim
theorem bel_of_fr {w W : World} {B sb : Nat} {s : SpZ} {ps : List (Int × Int)} (H : SpI w B sb s ps) (h : Fr (sb :: ownL s.ps) w W) : Below B w W :=
  ⟨h.os, h.tape, h.output, h.size, fun k hk => h.block k (by have := H.base; omega) fun hm => by
    rcases List.mem_cons.1 hm with rfl | hm
    · have := H.sb; omega
    · have := (H.own.lt k (mem_ownL.1 hm)).1; omega⟩
theorem below_qt {w w' : World} (h : ∃ n, w' = w.drewN n) : Below w.heap.size w w' := by
  obtain ⟨n, rfl⟩ := h
  exact below_draws (Below.refl _ w) n
theorem or_all : ((List.range 16).all fun a => (List.range 16).all fun b => bits .or .i64 (a : Nat) (b : Nat) == ((a ||| b : Nat) : Int)) = true := by kernel_rfl
theorem or_bits (a b : Nat) (ha : a < 16) (hb : b < 16) : bits .or .i64 (a : Int) (b : Int) = ((a ||| b : Nat) : Int) :=
  eq_of_beq (List.all_eq_true.mp (List.all_eq_true.mp or_all a (List.mem_range.mpr ha)) b (List.mem_range.mpr hb))
theorem keptN_lt (e m : EvZ) : keptN e m < 16 := by
  unfold keptN
  split
  · split <;> omega
  · split <;> omega
set_option maxHeartbeats 8000000 in
set_option maxRecDepth 100000 in
theorem include_w {w : World} {B sb : Nat} {s : SpZ} {ps : List (Int × Int)} (H : SpI w B sb s ps) (hlen : ps.length ≤ 10000) (hfen : s.fen < 16) {e m : EvZ} {va vd vc va' vd' vc' : Value} {b o na nd : Nat} {Fa Fd : Nat → Int}
    (HF : ∀ W, Below B w W → EvA W s.fb s.fo e va vd vc) (HM : ∀ W, Below B w W → EvA W b o m va' vd' vc') (HA : ∀ W, Below B w W → RdL W va' na Fa) (HD : ∀ W, Below B w W → RdL W vd' nd Fd) (hna : na ≤ 1000000) (hnd : nd ≤ 1000000) (hfe : m.i.op = 63 → 0 ≤ m.i.imm ∧ m.i.imm ≤ 255) :
    Calls Try.prog 30 #[.pointer (some ⟨sb, 0, none⟩), .pointer (some ⟨b, o, none⟩)] w (fun x w' => x = .returned (.tuple #[]) ∧ (∃ v, SpI w' B sb (incZ s e m (inF Fa na s.ix) (inF Fd nd s.ix) v) (incP ps m (inF Fa na s.ix) (inF Fd nd s.ix))) ∧ Fr (sb :: ownL s.ps) w w') := by
  obtain ⟨ri, rz, hri1, hri2, hri3, hri4, hri5⟩ := info_three refInfoB
  have HRI := hid (And.intro hri1 (And.intro hri2 (And.intro hri3 (And.intro hri4 hri5))))
  clear hri1 hri2 hri3 hri4 hri5
  have HF := hid HF
  have HM := hid HM
  have HA := hid HA
  have HD := hid HD
  have HS := hid H
  have Hbel := hid (fun W (h : Fr (sb :: ownL s.ps) w W) => bel_of_fr H h)
  have Hfe := hid hfe
  have Hfen := hid hfen
  clear H hfe hfen
  obtain ⟨qa, ca, ea, _⟩ := HA.out w (Below.refl _ w)
  obtain ⟨qd, cd, ed, _⟩ := HD.out w (Below.refl _ w)
  subst ea ed
  obtain ⟨ia, hia⟩ : ∃ x, inF Fa na s.ix = x := ⟨_, rfl⟩
  obtain ⟨id', hid'⟩ : ∃ x, inF Fd nd s.ix = x := ⟨_, rfl⟩
  have hA1 := isIn_w HS.out.row (HA.out w (Below.refl _ w)) hna
  have hD1 := isIn_w HS.out.row (HD.out w (Below.refl _ w)) hnd
  rw [hia] at hA1 ⊢
  rw [hid'] at hD1 ⊢
  have HIA := hid hA1
  have HID := hid hD1
  clear hA1 hD1 hia hid'
  have c7 : w.cell? ⟨b, o + 13, none⟩ = some (.bool m.wr) := HM.out w (Below.refl _ w) 13 (by omega)
  have c20 : w.cell? ⟨b, o + 20, none⟩ = some (.slice qa na ca) := HM.out w (Below.refl _ w) 20 (by omega)
  have c21 : w.cell? ⟨b, o + 21, none⟩ = some (.slice qd nd cd) := HM.out w (Below.refl _ w) 21 (by omega)
  obtain ⟨mw, hmw⟩ : ∃ x, m.wr = x := ⟨_, rfl⟩
  rw [hmw] at c7
  go_enter Try.func30, Try.ntmps30
  go_upto_region 1 with (go_at_call 44; refine HIA.out.mono ?_; rintro x w' ⟨rfl, rfl⟩)
  have Hmw := hid hmw
  clear hmw
  go_cut [25] from 400 (fun s W => s = .bool (mw && (ia || id')) ∧ w = W)
  case first =>
    cases mw
    · go_wp2
      go_meet
      case rel => exact ⟨rfl, rfl⟩
    · cases ia
      · go_wp2_with (go_at_call 44; refine HID.out.mono ?_; rintro x w' ⟨rfl, rfl⟩)
        go_meet
        case rel => exact ⟨by simp, rfl⟩
      · go_wp2
        go_meet
        case rel => exact ⟨rfl, rfl⟩
  case rest =>
    obtain ⟨rfl, rfl⟩ := hcut
    clear c7 c20 c21
    go_upto_if 25 with (fail)
    go_cut [] from 25 (fun W => (∃ v, SpI W B sb { s with ps := v } (incP ps m ia id')) ∧ Fr (sb :: ownL s.ps) w W)
    case first =>
      have hps : incP ps m ia id' = if (mw && (ia || id')) = true then ps ++ [(m.ht, m.at')] else ps := by unfold incP; rw [Hmw.out]
      have Hps := hid hps
      clear hps
      generalize (mw && (ia || id')) = g at Hps ⊢
      cases g
      · go_wp2
        go_meet
        case rel => exact ⟨⟨s.ps, by rw [Hps.out]; exact HS.out⟩, Fr.refl _ _⟩
      · go_upto_region 2 with (fail)
        have hd : Below w.heap.size w w.drew := ⟨rfl, rfl, rfl, Nat.le_refl _, fun _ _ => rfl⟩
        have h1 := hid (HS.out.same hd)
        obtain ⟨qp, cp, ep⟩ := owns_slc HS.out.own
        have c3 : w.drew.cell? ⟨sb, 3, none⟩ = some (.slice qp ps.length cp) := by rw [← ep]; exact h1.out.row.cell (i := 3) (by omega)
        have hsl : sb < w.drew.heap.size := h1.out.row.lt
        refine region_last (fun U => U.cell? ⟨sb, 3, none⟩ = some (.slice qp ps.length cp)) 11 [0, 1, 2, 3, 4, 5] 6 (by rfl) (by kernel_rfl) (by kernel_rfl) (by kernel_rfl) (by kernel_rfl) (fun c a d v w h => And.intro (put_nil h.1) h.2) c3 ?_
        iterate 6
          refine take_pure _ rfl (by rfl) (fun W hSW => by (have s0 := hSW; go_simp; with_reducible rfl)) ?_
          simp only [Act.put, List.getElem_toArray, List.getElem_cons_succ, List.getElem_cons_zero, List.setIfInBounds_toArray, List.set_cons_zero, List.set_cons_succ]
        refine take_done ?_
        refine last_call (i := 6) _ (by kernel_rfl) rfl (by rfl) (by go_simp; try exact ⟨rfl, rfl⟩) ?_
        refine (reference_w (HM.out w.drew (hd.mono HS.out.base))).mono ?_
        rintro x w1 ⟨rfl, hB1⟩
        have c31 : w1.cell? ⟨sb, 3, none⟩ = some (.slice qp ps.length cp) := (hB1.cell (p := ⟨sb, 3, none⟩) hsl).trans c3
        refine ⟨_, rfl, .inr c31, ?_⟩
        simp only [Act.put, List.getElem_toArray, List.getElem_cons_succ, List.getElem_cons_zero, List.setIfInBounds_toArray, List.set_cons_zero, List.set_cons_succ]
        have hB2 : Below w1.heap.size w1 (w1.alloc (.cells #[.int .i64 m.ht, .int .i64 m.at'] 43)) := (Below.refl _ w1).alloc (Nat.le_refl _) _
        have hsl1 : sb < w1.heap.size := Nat.lt_of_lt_of_le hsl hB1.size
        have c32 := (hB2.cell (p := ⟨sb, 3, none⟩) hsl1).trans c31
        refine last_op (i := 7) (w' := w1.alloc (.cells #[.int .i64 m.ht, .int .i64 m.at'] 43)) (v := .slice (some ⟨w1.heap.size, 0, none⟩) 1 1) _ (by kernel_rfl) rfl (by rfl) (by simp only [rfV]; go_simp; try rfl) (.inr c32) ?_
        simp only [Act.put, List.getElem_toArray, List.getElem_cons_succ, List.getElem_cons_zero, List.setIfInBounds_toArray, List.set_cons_zero, List.set_cons_succ]
        have hB3 := (hd.trans hB1).trans (hB2.mono (by have := hB1.size; have e : w.drew.heap.size = w.heap.size := rfl; omega))
        have h3 := hid (HS.out.same hB3)
        obtain ⟨hri1, hri2, hri3, hri4, hri5⟩ := HRI.out
        have hnew : ∀ j u, [.int .i64 m.ht, .int .i64 m.at'][j]? = some u → (w1.alloc (.cells #[.int .i64 m.ht, .int .i64 m.at'] 43)).cell? ((⟨w1.heap.size, 0, none⟩ : Addr).add j) = some u := fun j u hj => by
          have hl : j < 2 := (List.getElem?_eq_some_iff.1 hj).1
          rw [Addr.add_mid, Nat.zero_add, (Hb.arr w1 #[.int .i64 m.ht, .int .i64 m.at'] 43).cell (i := j) (by simpa using hl), ← hj]
          have : j = 0 ∨ j = 1 := by omega
          rcases this with rfl | rfl <;> rfl
        refine last_wp (i := 8) _ (by kernel_rfl) rfl (by rfl) ?_
        refine wp_append_fresh _ _ 88 rfl B 43 ri rz 2 16 Try.underlying88 hri1 hri2 hri3 hri4 hri5 (by decide) (.slice qp ps.length cp) ps.length (refsV ps) rfl (ep ▸ h3.out.own) ⟨w1.heap.size, 0, none⟩ 1 1 [.int .i64 m.ht, .int .i64 m.at'] rfl rfl hnew (by simp [Value.oneCell']) (by unfold maxLen; omega) (by omega) h3.out.base ?_
        intro v' w3 ho3 hg3 hn3
        have hfp : Fr (ownL (.slice qp ps.length cp)) (w1.alloc (.cells #[.int .i64 m.ht, .int .i64 m.at'] 43)) w3 := ⟨hg3.os, hg3.tape, hg3.output, hg3.size, fun k hk hn => hg3.block k hk fun e => hn (mem_ownL.2 e.symm)⟩
        have hnsb : sb ∉ ownL (.slice qp ps.length cp) := fun hm => own_ne h3.out.own h3.out.row (by decide) (by rw [ep]; exact mem_ownL.1 hm)
        have hr3 := h3.out.row.fr hfp hnsb
        have c33 : w3.cell? ⟨sb, 3, none⟩ = some (.slice qp ps.length cp) := by rw [← ep]; exact hr3.cell (i := 3) (by omega)
        have f33 := hr3.free 3
        refine ⟨.inr c33, ?_⟩
        simp only [Act.put, List.getElem_toArray, List.getElem_cons_succ, List.getElem_cons_zero, List.setIfInBounds_toArray, List.set_cons_zero, List.set_cons_succ]
        refine last_op (i := 9) (w' := w3) _ (by kernel_rfl) rfl (by rfl) (by go_simp; with_reducible rfl) (.inr c33) ?_
        simp only [Act.put, List.getElem_toArray, List.getElem_cons_succ, List.getElem_cons_zero, List.setIfInBounds_toArray, List.set_cons_zero, List.set_cons_succ]
        refine last_op (i := 10) (w' := w3) _ (by kernel_rfl) rfl (by rfl) (by go_simp; with_reducible rfl) (.inr c33) ?_
        simp only [Act.put, List.getElem_toArray, List.getElem_cons_succ, List.getElem_cons_zero, List.setIfInBounds_toArray, List.set_cons_zero, List.set_cons_succ]
        obtain ⟨qv, cv, ev⟩ := owns_slc ho3
        subst ev
        refine last_skip (i := 11) (w' := w3.setCell ⟨sb, 3, none⟩ (.slice qv (ps.length + 1) cv)) _ (by kernel_rfl) rfl (by rfl) (by go_simp) (.inl rfl) ?_
        simp only [Act.put, List.getElem_toArray, List.getElem_cons_succ, List.getElem_cons_zero, List.setIfInBounds_toArray, List.set_cons_zero, List.set_cons_succ]
        refine last_done (by kernel_rfl) ?_
        have hfF : Fr (sb :: ownL s.ps) w w3 := (Fr.of_below hB3).trans (hfp.mono fun k _ hk => by rw [ep]; exact List.mem_cons_of_mem _ hk)
        have hfin : SpI (w3.setCell ⟨sb, 3, none⟩ (.slice qv (ps.length + 1) cv)) B sb { s with ps := .slice qv (ps.length + 1) cv } (ps ++ [(m.ht, m.at')]) := h3.out.setPs ho3 (by rw [ep]; exact hg3)
        have HFin := hid hfin
        have HfB := hid (hfF.set (p := ⟨sb, 3, none⟩) (.inr List.mem_cons_self) (.slice qv (ps.length + 1) cv))
        clear hfin hfF hr3 c33 f33 hnsb hfp ho3 hg3 hn3 hnew h3 hB3 c32 hsl1 hB2 c31 hB1 c3 hsl h1 hd ep
        go_wp2
        go_meet
        case rel => exact ⟨⟨_, by rw [Hps.out]; exact HFin.out⟩, HfB.out⟩
    case rest =>
      obtain ⟨⟨pv, hS1⟩, hB1⟩ := hcut
      have H1 := hid hS1
      have HB1 := hid hB1
      clear hS1 hB1 HS HIA HID
      go_upto_region 3 with (fail)
      have hd : Below wc.heap.size wc wc.drew := ⟨rfl, rfl, rfl, Nat.le_refl _, fun _ _ => rfl⟩
      have H2 := hid (H1.out.same hd)
      have HB2 := hid (HB1.out.trans (Fr.of_below hd))
      have c2 : wc.drew.cell? ⟨sb, 2, none⟩ = some (.int .i64 (s.fen : Nat)) := H2.out.row.cell (i := 2) (by omega)
      refine region_last (fun U => U.cell? ⟨sb, 2, none⟩ = some (.int .i64 (s.fen : Nat))) 10 [0, 1, 2, 3, 4, 5] 5 (by rfl) (by kernel_rfl) (by kernel_rfl) (by kernel_rfl) (by kernel_rfl) (fun c a d v w h => And.intro (put_nil h.1) h.2) c2 ?_
      iterate 6
        refine take_pure _ rfl (by rfl) (fun W hSW => by (have s0 := hSW; go_simp; with_reducible rfl)) ?_
        simp only [Act.put, List.getElem_toArray, List.getElem_cons_succ, List.getElem_cons_zero, List.setIfInBounds_toArray, List.set_cons_zero, List.set_cons_succ]
      refine take_done ?_
      refine last_call (i := 6) _ (by kernel_rfl) rfl (by rfl) (by go_simp; try exact ⟨rfl, rfl⟩) ?_
      refine (keptBy_w H2.out.row (HF.out _ (Hbel.out _ HB2.out)) (HM.out _ (Hbel.out _ HB2.out)) Hfe.out).mono ?_
      rintro x w3 ⟨rfl, hq⟩
      have hB3 := below_qt hq
      have H3 := hid (H2.out.same hB3)
      have HB3 := hid (HB2.out.trans (Fr.of_below hB3))
      have c23 : w3.cell? ⟨sb, 2, none⟩ = some (.int .i64 (s.fen : Nat)) := H3.out.row.cell (i := 2) (by omega)
      have f23 := H3.out.row.free 2
      refine ⟨_, rfl, .inr c23, ?_⟩
      simp only [Act.put, List.getElem_toArray, List.getElem_cons_succ, List.getElem_cons_zero, List.setIfInBounds_toArray, List.set_cons_zero, List.set_cons_succ]
      refine last_op (i := 7) (w' := w3) _ (by kernel_rfl) rfl (by rfl) (by go_simp; with_reducible rfl) (.inr c23) ?_
      simp only [Act.put, List.getElem_toArray, List.getElem_cons_succ, List.getElem_cons_zero, List.setIfInBounds_toArray, List.set_cons_zero, List.set_cons_succ]
      refine last_op (i := 8) (w' := w3) _ (by kernel_rfl) rfl (by rfl) (by go_simp; with_reducible rfl) (.inr c23) ?_
      simp only [Act.put, List.getElem_toArray, List.getElem_cons_succ, List.getElem_cons_zero, List.setIfInBounds_toArray, List.set_cons_zero, List.set_cons_succ]
      refine last_op (i := 9) (w' := w3) _ (by kernel_rfl) rfl (by rfl) (by go_simp; with_reducible rfl) (.inr c23) ?_
      simp only [Act.put, List.getElem_toArray, List.getElem_cons_succ, List.getElem_cons_zero, List.setIfInBounds_toArray, List.set_cons_zero, List.set_cons_succ]
      rw [or_bits s.fen (keptN e m) Hfen.out (keptN_lt e m)]
      refine last_skip (i := 10) (w' := w3.setCell ⟨sb, 2, none⟩ (.int .i64 ((s.fen ||| keptN e m : Nat)))) _ (by kernel_rfl) rfl (by rfl) (by go_simp) (.inl rfl) ?_
      simp only [Act.put, List.getElem_toArray, List.getElem_cons_succ, List.getElem_cons_zero, List.setIfInBounds_toArray, List.set_cons_zero, List.set_cons_succ]
      refine last_done (by kernel_rfl) ?_
      have H4 := hid (H3.out.setFen (s.fen ||| keptN e m))
      have HB4 := hid (HB3.out.set (p := ⟨sb, 2, none⟩) (.inr List.mem_cons_self) (.int .i64 ((s.fen ||| keptN e m : Nat))))
      clear hq hB3 c23 f23 H3 HB3 c2 H2 HB2 hd H1 HB1
      generalize w3.setCell ⟨sb, 2, none⟩ (.int .i64 ((s.fen ||| keptN e m : Nat))) = w4 at H4 HB4 ⊢
      go_upto_region 4 with (fail)
      go_cut [] from 25 (fun W => SpI W B sb { s with fen := s.fen ||| keptN e m, ps := pv, rew := s.rew || (m.wr && sameB e m) } (incP ps m ia id') ∧ Fr (sb :: ownL s.ps) w W)
      case first =>
        have c0 : w4.cell? ⟨sb, 0, none⟩ = some (.pointer (some ⟨s.fb, s.fo, none⟩)) := H4.out.row.cell (i := 0) (by omega)
        have c4 : w4.cell? ⟨sb, 4, none⟩ = some (.bool s.rew) := H4.out.row.cell (i := 4) (by omega)
        have f4 := H4.out.row.free 4
        have c7 : w4.cell? ⟨b, o + 13, none⟩ = some (.bool m.wr) := HM.out w4 (Hbel.out _ HB4.out) 13 (by omega)
        have hsame := hid (haveSame_w (HF.out w4 (Hbel.out _ HB4.out)) (HM.out w4 (Hbel.out _ HB4.out)))
        have HR : Hid (∀ x, x = (s.rew || (m.wr && sameB e m)) → ∀ W, (∃ n, W = w4.drewN n) → SpI (W.setCell ⟨sb, 4, none⟩ (.bool x)) B sb { s with fen := s.fen ||| keptN e m, ps := pv, rew := s.rew || (m.wr && sameB e m) } (incP ps m ia id') ∧ Fr (sb :: ownL s.ps) w (W.setCell ⟨sb, 4, none⟩ (.bool x))) := hid fun x hx W hW => by
          have hb := below_qt hW
          rw [hx]
          exact ⟨(H4.out.same hb).setRew _, (HB4.out.trans (Fr.of_below hb)).set (p := ⟨sb, 4, none⟩) (.inr List.mem_cons_self) _⟩
        rw [Hmw.out] at c7
        obtain ⟨rw1, hr1⟩ : ∃ x, s.rew = x := ⟨_, rfl⟩
        obtain ⟨sm, hsm⟩ : ∃ x, sameB e m = x := ⟨_, rfl⟩
        rw [hr1] at c4
        rw [hsm] at hsame
        have HR2 : Hid (∀ x, x = (rw1 || (mw && sm)) → ∀ W, (∃ n, W = w4.drewN n) → SpI (W.setCell ⟨sb, 4, none⟩ (.bool x)) B sb { s with fen := s.fen ||| keptN e m, ps := pv, rew := s.rew || (m.wr && sameB e m) } (incP ps m ia id') ∧ Fr (sb :: ownL s.ps) w (W.setCell ⟨sb, 4, none⟩ (.bool x))) := hid fun x hx => HR.out x (by rw [hr1, hsm, Hmw.out]; exact hx)
        have c4' : Hid (∀ W : World, (∃ n, W = w4.drewN n) → W.cell? ⟨sb, 4, none⟩ = some (.bool rw1) ∧ W.frozen? ⟨sb, 4, none⟩ = false) := hid fun W hW => by
          obtain ⟨n, rfl⟩ := hW
          exact ⟨c4, f4⟩
        clear HR hr1 hsm
        cases rw1
        · cases mw
          · go_wp2
            go_meet
            case rel => exact HR2.out false rfl w4 ⟨0, rfl⟩
          · go_wp2_with (go_at_call 38; refine hsame.out.mono ?_; rintro x w5 ⟨rfl, hq⟩; have Hq := hid hq; obtain ⟨c45, f45⟩ := c4'.out w5 hq; clear hq)
            go_meet
            case rel => exact HR2.out sm (by simp) w5 Hq.out
        · go_wp2
          go_meet
          case rel => exact HR2.out true rfl w4 ⟨0, rfl⟩
      case rest =>
        obtain ⟨hS5, hB5⟩ := hcut
        have H5 := hid hS5
        have HB5 := hid hB5
        clear hS5 hB5 H4 HB4
        go_upto_region 5 with (fail)
        go_cut [] from 25 (fun W => SpI W B sb { s with fen := s.fen ||| keptN e m, ps := pv, rew := s.rew || (m.wr && sameB e m), rsv := s.rsv || rsvB m } (incP ps m ia id') ∧ Fr (sb :: ownL s.ps) w W)
        case first =>
          have c5 : wc.cell? ⟨sb, 5, none⟩ = some (.bool s.rsv) := H5.out.row.cell (i := 5) (by omega)
          have f5 := H5.out.row.free 5
          have hrs := hid (isReserving_w (HM.out wc (Hbel.out _ HB5.out)))
          have HR : Hid (∀ x, x = (s.rsv || rsvB m) → SpI (wc.setCell ⟨sb, 5, none⟩ (.bool x)) B sb { s with fen := s.fen ||| keptN e m, ps := pv, rew := s.rew || (m.wr && sameB e m), rsv := s.rsv || rsvB m } (incP ps m ia id') ∧ Fr (sb :: ownL s.ps) w (wc.setCell ⟨sb, 5, none⟩ (.bool x))) := hid fun x hx => by
            rw [hx]
            exact ⟨H5.out.setRsv _, HB5.out.set (p := ⟨sb, 5, none⟩) (.inr List.mem_cons_self) _⟩
          obtain ⟨r1, hr1⟩ : ∃ x, s.rsv = x := ⟨_, rfl⟩
          obtain ⟨rm, hrm⟩ : ∃ x, rsvB m = x := ⟨_, rfl⟩
          rw [hr1] at c5
          rw [hrm] at hrs
          have HR2 : Hid (∀ x, x = (r1 || rm) → SpI (wc.setCell ⟨sb, 5, none⟩ (.bool x)) B sb { s with fen := s.fen ||| keptN e m, ps := pv, rew := s.rew || (m.wr && sameB e m), rsv := s.rsv || rsvB m } (incP ps m ia id') ∧ Fr (sb :: ownL s.ps) w (wc.setCell ⟨sb, 5, none⟩ (.bool x))) := hid fun x hx => HR.out x (by rw [hr1, hrm]; exact hx)
          clear HR hr1 hrm
          cases r1
          · go_wp2_with (go_at_call 49; refine hrs.out.mono ?_; rintro x w5 ⟨rfl, rfl⟩)
            go_meet
            case rel => exact HR2.out rm (by simp)
          · go_wp2
            go_meet
            case rel => exact HR2.out true rfl
        case rest =>
          obtain ⟨hS6, hB6⟩ := hcut
          have H6 := hid hS6
          have HB6 := hid hB6
          clear hS6 hB6 H5 HB5
          have c6 : wc.cell? ⟨sb, 6, none⟩ = some (.bool s.adr) := H6.out.row.cell (i := 6) (by omega)
          have f6 := H6.out.row.free 6
          have HR : Hid (∀ x, x = (s.adr || ia) → SpI (wc.setCell ⟨sb, 6, none⟩ (.bool x)) B sb (incZ s e m ia id' pv) (incP ps m ia id') ∧ Fr (sb :: ownL s.ps) w (wc.setCell ⟨sb, 6, none⟩ (.bool x))) := hid fun x hx => by
            rw [hx]
            exact ⟨H6.out.setAdr _, HB6.out.set (p := ⟨sb, 6, none⟩) (.inr List.mem_cons_self) _⟩
          obtain ⟨r1, hr1⟩ : ∃ x, s.adr = x := ⟨_, rfl⟩
          rw [hr1] at c6
          have HR2 : Hid (∀ x, x = (r1 || ia) → SpI (wc.setCell ⟨sb, 6, none⟩ (.bool x)) B sb (incZ s e m ia id' pv) (incP ps m ia id') ∧ Fr (sb :: ownL s.ps) w (wc.setCell ⟨sb, 6, none⟩ (.bool x))) := hid fun x hx => HR.out x (by rw [hr1]; exact hx)
          clear HR hr1
          cases r1
          · go_wp2
            go_end0
            exact ⟨rfl, ⟨_, (HR2.out ia (by simp)).1⟩, (HR2.out ia (by simp)).2⟩
          · go_wp2
            go_end0
            exact ⟨rfl, ⟨_, (HR2.out true rfl).1⟩, (HR2.out true rfl).2⟩
end Go.Proofs.Ytchjjbcmbdmlgaa
