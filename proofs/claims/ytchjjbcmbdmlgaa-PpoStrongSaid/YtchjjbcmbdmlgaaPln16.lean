/- Layer 16: instructions that access no memory: what the reference's plain leaves behind. -/
import Derived.Test.YtchjjbcmbdmlgaaK08
set_option linter.unusedVariables false
set_option linter.unusedSimpArgs false
namespace Go.Proofs.Ytchjjbcmbdmlgaa
open Go Go.RowKit Sim
def PlP (w w' : World) (h : Nat) (M : List Nat) (N B n : Nat) (S : HZ) : Prop :=
  ∃ S' M' n' xs, HtOk w' h M' N S' ∧ (∀ x, x ∈ M → x ∈ M') ∧ (∀ x, x ∈ M' → x ∈ M ∨ w.heap.size ≤ x) ∧ w'.ownsRow B 3 1 S'.tp n' xs ∧ n' ≤ n + 1 ∧ (∀ b, S'.tp.ownBlock = some b → b ∈ M') ∧ Fr (h :: ownL S.tp) w w'
def PlE (w : World) (h : Nat) (M : List Nat) (N B n : Nat) (S : HZ) : Ending → World → Prop := fun e w' => ∃ k : Int, e = .returned (.int .i64 k) ∧ PlP w w' h M N B n S
structure HtT (w : World) (h : Nat) (M : List Nat) (N B n : Nat) (S : HZ) : Prop where
  ok : HtOk w h M N S
  own : ∃ xs, w.ownsRow B 3 1 S.tp n xs
  base : B ≤ w.heap.size
  len : n ≤ 10000
  inn : ∀ b, S.tp.ownBlock = some b → b ∈ M
  lt : ∀ x, x ∈ M → x < w.heap.size
  nn : N ≤ 100000
theorem PlP.of {w w' : World} {h : Nat} {M : List Nat} {N B n : Nat} {S S' : HZ} (H : HtT w h M N B n S) (h1 : HtOk w' h M N S') (h2 : S'.tp = S.tp) (hf : Fr [h] w w') : PlP w w' h M N B n S := by
  obtain ⟨xs, ho⟩ := H.own
  refine ⟨S', M, n, xs, h1, fun _ hx => hx, fun _ hx => .inl hx, ?_, by omega, by rw [h2]; exact H.inn, hf.mono fun k _ hk => by simp at hk; simp [hk]⟩
  rw [h2]
  exact ho.kept (row := some h) ⟨hf.os, hf.tape, hf.output, hf.size, fun k hk hn => hf.block k hk (by simpa using hn)⟩ (.inr (own_ne ho H.ok.row (by decide)))
section
variable {w : World} {h N B n : Nat} {M : List Nat} {S : HZ}
theorem HtT.box (H : HtT w h M N B n S) (i : In) : HtOk (w.alloc (.cells (inA i) 41)) h M N S := H.ok.same ((Below.refl _ w).alloc (Nat.le_refl _) _)
theorem HtT.boxF (w : World) (h : Nat) (i : In) : Fr [h] w (w.alloc (.cells (inA i) 41)) := (Fr.refl _ w).alloc _
set_option maxHeartbeats 2000000 in
set_option maxRecDepth 100000 in
theorem plain_bad (H : HtT w h M N B n S) (op rd a b imm : Int) (aq rl : Bool) (ho : op = 0 ∨ op = 65) (pc : Int) : Calls Try.prog 56 #[.pointer (some ⟨h, 0, none⟩), .agg (inA ⟨op, rd, a, b, imm, aq, rl⟩), .int .i64 pc] w (PlE w h M N B n S) := by
  have HF := fun W => refForm_ret (gl := fun _ => none) op W (GlobOk.none W)
  have HP := hid (HtT.box H ⟨op, rd, a, b, imm, aq, rl⟩)
  have HI := hid (Hb.instr w ⟨op, rd, a, b, imm, aq, rl⟩ 41)
  have HR := hid (HtT.boxF w h ⟨op, rd, a, b, imm, aq, rl⟩)
  have HH := hid H
  clear H
  go_enter Try.func56, Try.ntmps56
  go_upto_region 4 with (go_at_call 68; refine (HF _).mono ?_; rintro e w1 ⟨rfl, hB1⟩)
  have HI1 := hid (HI.out.below hB1 (by simp))
  have HP1 := hid (HP.out.same hB1)
  have HR1 := hid (HR.out.trans (Fr.of_below hB1))
  have i0 : w1.cell? ⟨w.heap.size, 0, none⟩ = some (.int .i64 op) := HI1.out.cell (i := 0) (by omega)
  clear HI HP HR hB1
  rcases ho with rfl | rfl
  all_goals
    go_wp2
    go_ret
    exact ⟨_, rfl, PlP.of HH.out HP1.out rfl HR1.out⟩
set_option maxHeartbeats 4000000 in
set_option maxRecDepth 100000 in
theorem plain_fence (H : HtT w h M N B n S) (op rd a b imm : Int) (aq rl : Bool) (ho : op = 63) (pc : Int) : Calls Try.prog 56 #[.pointer (some ⟨h, 0, none⟩), .agg (inA ⟨op, rd, a, b, imm, aq, rl⟩), .int .i64 pc] w (PlE w h M N B n S) := by
  subst ho
  have HF := fun W => refForm_ret (gl := fun _ => none) 63 W (GlobOk.none W)
  obtain ⟨f, hf⟩ : ∃ f, f = formZ 63 := ⟨_, rfl⟩
  rw [← hf] at HF
  have Hf := hid hf
  clear hf
  have HP := hid (HtT.box H ⟨63, rd, a, b, imm, aq, rl⟩)
  have HI := hid (Hb.instr w ⟨63, rd, a, b, imm, aq, rl⟩ 41)
  have HR := hid (HtT.boxF w h ⟨63, rd, a, b, imm, aq, rl⟩)
  have HH := hid H
  clear H
  go_enter Try.func56, Try.ntmps56
  go_upto_region 4 with (go_at_call 68; refine (HF _).mono ?_; rintro e w1 ⟨rfl, hB1⟩)
  have HI1 := hid (HI.out.below hB1 (by simp))
  have HP1 := hid (HP.out.same hB1)
  have HR1 := hid (HR.out.trans (Fr.of_below hB1))
  have i0 : w1.cell? ⟨w.heap.size, 0, none⟩ = some (.int .i64 63) := HI1.out.cell (i := 0) (by omega)
  have i1 : w1.cell? ⟨w.heap.size, 1, none⟩ = some (.int .i64 rd) := HI1.out.cell (i := 1) (by omega)
  have i2 : w1.cell? ⟨w.heap.size, 2, none⟩ = some (.int .i64 a) := HI1.out.cell (i := 2) (by omega)
  have i3 : w1.cell? ⟨w.heap.size, 3, none⟩ = some (.int .i64 b) := HI1.out.cell (i := 3) (by omega)
  have i4 : w1.cell? ⟨w.heap.size, 4, none⟩ = some (.int .i64 imm) := HI1.out.cell (i := 4) (by omega)
  clear HI HP HR hB1
  have c96 := HP1.out.cpc
  have c97 := HP1.out.csu
  have f96 := HP1.out.row.free 96
  have f97 := HP1.out.row.free 97
  go_wp2
  go_ret
  exact ⟨_, rfl, PlP.of HH.out ((HP1.out.putPC _).putSu _) rfl ((HR1.out.set (.inr (by simp)) _).set (.inr (by simp)) _)⟩
set_option maxHeartbeats 4000000 in
set_option maxRecDepth 100000 in
theorem plain_set (H : HtT w h M N B n S) (op rd a b imm : Int) (aq rl : Bool) (ho : op = 1 ∨ op = 2 ∨ op = 3) (hrd : 0 ≤ rd ∧ rd ≤ 31) (pc : Int) : Calls Try.prog 56 #[.pointer (some ⟨h, 0, none⟩), .agg (inA ⟨op, rd, a, b, imm, aq, rl⟩), .int .i64 pc] w (PlE w h M N B n S) := by
  have HF := fun W => refForm_ret (gl := fun _ => none) op W (GlobOk.none W)
  obtain ⟨f, hf⟩ : ∃ f, f = formZ op := ⟨_, rfl⟩
  rw [← hf] at HF
  have Hf := hid hf
  clear hf
  have HP := hid (HtT.box H ⟨op, rd, a, b, imm, aq, rl⟩)
  have HI := hid (Hb.instr w ⟨op, rd, a, b, imm, aq, rl⟩ 41)
  have HR := hid (HtT.boxF w h ⟨op, rd, a, b, imm, aq, rl⟩)
  have HH := hid H
  clear H
  go_enter Try.func56, Try.ntmps56
  go_upto_region 4 with (go_at_call 68; refine (HF _).mono ?_; rintro e w1 ⟨rfl, hB1⟩)
  have HI1 := hid (HI.out.below hB1 (by simp))
  have HP1 := hid (HP.out.same hB1)
  have HR1 := hid (HR.out.trans (Fr.of_below hB1))
  have i0 : w1.cell? ⟨w.heap.size, 0, none⟩ = some (.int .i64 op) := HI1.out.cell (i := 0) (by omega)
  have i1 : w1.cell? ⟨w.heap.size, 1, none⟩ = some (.int .i64 rd) := HI1.out.cell (i := 1) (by omega)
  have i2 : w1.cell? ⟨w.heap.size, 2, none⟩ = some (.int .i64 a) := HI1.out.cell (i := 2) (by omega)
  have i3 : w1.cell? ⟨w.heap.size, 3, none⟩ = some (.int .i64 b) := HI1.out.cell (i := 3) (by omega)
  have i4 : w1.cell? ⟨w.heap.size, 4, none⟩ = some (.int .i64 imm) := HI1.out.cell (i := 4) (by omega)
  clear HI HP HR hB1
  rcases ho with rfl | rfl | rfl
  all_goals
    go_wp2_with (go_at_call 67; refine (set_w HP1.out rd _ hrd _ _ (by first | exact isN_k _ | exact isN_w _ | assumption) (LsW.nil _ _ _)).mono ?_; rintro e w2 ⟨rfl, S2, H2, e2, _, F2⟩; have HP2 := hid H2; have HR2 := hid (HR1.out.trans F2); have E2 := hid e2; have c96 := H2.cpc; have c97 := H2.csu; have f96 := H2.row.free 96; have f97 := H2.row.free 97; clear H2 F2 e2)
    go_ret
    exact ⟨_, rfl, PlP.of HH.out ((HP2.out.putPC _).putSu _) E2.out ((HR2.out.set (.inr (by simp)) _).set (.inr (by simp)) _)⟩
set_option maxHeartbeats 4000000 in
set_option maxRecDepth 100000 in
theorem plain_call (H : HtT w h M N B n S) (op rd a b imm : Int) (aq rl : Bool) (ho : op = 64) (pc : Int) : Calls Try.prog 56 #[.pointer (some ⟨h, 0, none⟩), .agg (inA ⟨op, rd, a, b, imm, aq, rl⟩), .int .i64 pc] w (PlE w h M N B n S) := by
  subst ho
  obtain ⟨i00, hi00, hz0, hz1, hz2⟩ := info_parts intInfoB
  have HF := fun W => refForm_ret (gl := fun _ => none) 64 W (GlobOk.none W)
  obtain ⟨f, hf⟩ : ∃ f, f = formZ 64 := ⟨_, rfl⟩
  rw [← hf] at HF
  have Hf := hid hf
  clear hf
  have HP := hid (HtT.box H ⟨64, rd, a, b, imm, aq, rl⟩)
  have HI := hid (Hb.instr w ⟨64, rd, a, b, imm, aq, rl⟩ 41)
  have HR := hid (HtT.boxF w h ⟨64, rd, a, b, imm, aq, rl⟩)
  have HH := hid H
  clear H
  go_enter Try.func56, Try.ntmps56
  go_upto_region 4 with (go_at_call 68; refine (HF _).mono ?_; rintro e w1 ⟨rfl, hB1⟩)
  have HI1 := hid (HI.out.below hB1 (by simp))
  have HP1 := hid (HP.out.same hB1)
  have HR1 := hid (HR.out.trans (Fr.of_below hB1))
  have i0 : w1.cell? ⟨w.heap.size, 0, none⟩ = some (.int .i64 64) := HI1.out.cell (i := 0) (by omega)
  have i1 : w1.cell? ⟨w.heap.size, 1, none⟩ = some (.int .i64 rd) := HI1.out.cell (i := 1) (by omega)
  have i2 : w1.cell? ⟨w.heap.size, 2, none⟩ = some (.int .i64 a) := HI1.out.cell (i := 2) (by omega)
  have i3 : w1.cell? ⟨w.heap.size, 3, none⟩ = some (.int .i64 b) := HI1.out.cell (i := 3) (by omega)
  have i4 : w1.cell? ⟨w.heap.size, 4, none⟩ = some (.int .i64 imm) := HI1.out.cell (i := 4) (by omega)
  clear HI HP HR hB1
  have c96 := HP1.out.cpc
  have c97 := HP1.out.csu
  have f96 := HP1.out.row.free 96
  have f97 := HP1.out.row.free 97
  have k17 : w1.cell? ⟨h, 49, none⟩ = some (.bool (S.k 17)) := HP1.out.ck (k := 17) (by omega)
  have k10 : w1.cell? ⟨h, 42, none⟩ = some (.bool (S.k 10)) := HP1.out.ck (k := 10) (by omega)
  have x17 : w1.cell? ⟨h, 17, none⟩ = some (.int .i64 (S.x 17)) := HP1.out.cx (k := 17) (by omega)
  have x10 : w1.cell? ⟨h, 10, none⟩ = some (.int .i64 (S.x 10)) := HP1.out.cx (k := 10) (by omega)
  have tp := HP1.out.ctp
  cases hk17 : S.k 17
  · rw [hk17] at k17
    clear hk17
    go_wp2
    go_ret
    exact ⟨_, rfl, PlP.of HH.out HP1.out rfl HR1.out⟩
  · cases hk10 : S.k 10
    · rw [hk17] at k17
      rw [hk10] at k10
      clear hk17 hk10
      go_wp2
      go_ret
      exact ⟨_, rfl, PlP.of HH.out HP1.out rfl HR1.out⟩
    · rw [hk17] at k17
      rw [hk10] at k10
      clear hk17 hk10
      by_cases hx : S.x 17 = 1
      · go_upto_region 11 with (fail)
        have Htp := hid tp
        have hlt := HP1.out.row.lt
        have hl0 : w.heap.size ≤ w1.heap.size := HR1.out.size
        have HO := hid (show ∃ xs, w1.ownsRow B 3 1 S.tp n xs from by
          obtain ⟨xs, ho⟩ := HH.out.own
          exact ⟨xs, ho.kept (row := some h) ⟨HR1.out.os, HR1.out.tape, HR1.out.output, HR1.out.size, fun k hk hn => HR1.out.block k hk (by simpa using hn)⟩ (.inr (own_ne ho HH.out.ok.row (by decide)))⟩)
        clear tp x17 k17 k10 c96 c97 f96 f97 i0 i1 i2 i3 i4
        refine region_takes (fun U => U.cell? ⟨h, 10, none⟩ = some (.int .i64 (S.x 10))) [0, 1, 2, 3, 5, 6, 7, 8, 9] 6 (by rfl) (by kernel_rfl) (by kernel_rfl) (by kernel_rfl) (fun c a d v w h => And.intro (put_nil h.1) h.2) x10 ?_
        iterate 9
          refine take_pure _ rfl (by rfl) (fun W hSW => by (go_simp; with_reducible rfl)) ?_
          simp only [Act.put, List.getElem_toArray, List.getElem_cons_succ, List.getElem_cons_zero, List.setIfInBounds_toArray, List.set_cons_zero, List.set_cons_succ]
        refine take_done ?_
        obtain ⟨xs, ho⟩ := HO.out
        have tp := Htp.out
        have tp2 : ((w1.alloc (.cells #[.int .i64 (S.x 10)] 3)).drew).cell? ⟨h, 99, none⟩ = some S.tp := (World.cell?_alloc_lt _ _ _ hlt).trans tp
        have x102 : ((w1.alloc (.cells #[.int .i64 (S.x 10)] 3)).drew).cell? ⟨h, 10, none⟩ = some (.int .i64 (S.x 10)) := (World.cell?_alloc_lt _ _ _ hlt).trans x10
        refine held_swap (i := 4) (j := 10) (wj := (w1.alloc (.cells #[.int .i64 (S.x 10)] 3)).drew) _ _ 82 88 (by kernel_rfl) (by kernel_rfl) (by kernel_rfl) (by decide) rfl rfl rfl rfl rfl rfl (by decide) (by go_simp; with_reducible rfl) (by go_simp; try with_reducible rfl) (by go_simp; with_reducible rfl) (by go_simp; try with_reducible rfl) x10 x102 ?_
        simp only [Act.put, List.getElem_toArray, List.getElem_cons_succ, List.getElem_cons_zero, List.setIfInBounds_toArray, List.set_cons_zero, List.set_cons_succ]
        refine held_wp (i := 11) _ (by kernel_rfl) rfl (by rfl) ?_
        refine wp_append_fresh _ _ 23 rfl B 3 i00 (.int .i64 0) 1 8 Try.underlying23 hi00 hz0 hz1 hz2 rfl (by decide) S.tp n xs rfl (ho.alloc _) ⟨w1.heap.size, 0, none⟩ 1 1 [.int .i64 (S.x 10)] rfl rfl (cell_one_new _ _ _) (by simp [Value.oneCell']) (by unfold maxLen; have := HH.out.len; omega) (by have := HH.out.len; omega) (by simp; have := HH.out.base; omega) ?_
        intro tv W2 hown2 hgrow hfr
        obtain ⟨g, cap, hgv⟩ : ∃ g cap, tv = .slice (some ⟨g, 0, none⟩) (n + 1) cap := by
          rcases hown2.2 with ⟨_, h0⟩ | ⟨g, cap, cur, hv, _⟩
          · omega
          · exact ⟨g, cap, hv⟩
        subst hgv
        have hBa : Below w1.heap.size w1 (w1.alloc (.cells #[.int .i64 (S.x 10)] 3)).drew := ⟨rfl, rfl, rfl, by simp [World.drew], fun k hk => Below.heap_alloc w1 _ k hk⟩
        have hgr2 : Fr (ownL S.tp) (w1.alloc (.cells #[.int .i64 (S.x 10)] 3)).drew W2 := Fr.grown (Fr.refl _ _) hgrow (fun b e => .inl (by unfold ownL; rw [e]; simp))
        have hoT : ∀ k, k ∈ ownL S.tp → S.tp.ownBlock = some k := fun k hk => by
          unfold ownL at hk
          cases hb : S.tp.ownBlock with
          | none => rw [hb] at hk; simp at hk
          | some b => rw [hb] at hk; simp at hk; rw [hk]
        have hHW : HtOk W2 h (g :: M) N S := (HP1.out.same hBa).fr (T := ownL S.tp) hgr2 (fun hk => own_ne ho HP1.out.row (by decide) (hoT h hk)) (fun k hk => .inl (HH.out.inn _ (hoT k hk))) (fun k hk => by
            rcases List.mem_cons.1 hk with rfl | hk
            · rcases hfr k rfl with e | e
              · exact .inl (HH.out.inn _ e)
              · exact .inr e
            · exact .inl hk) (List.mem_cons_of_mem _ HP1.out.inn)
        have hfr2 : g ∈ M ∨ w.heap.size ≤ g := by
          rcases hfr g rfl with e | e
          · exact .inl (HH.out.inn _ e)
          · have : (w1.alloc (.cells #[.int .i64 (S.x 10)] 3)).drew.heap.size = w1.heap.size + 1 := by simp [World.drew]
            exact .inr (by omega)
        have x103 : W2.cell? ⟨h, 10, none⟩ = some (.int .i64 (S.x 10)) := hHW.cx (k := 10) (by omega)
        refine ⟨x103, ?_⟩
        simp only [Act.put, List.getElem_toArray, List.getElem_cons_succ, List.getElem_cons_zero, List.setIfInBounds_toArray, List.set_cons_zero, List.set_cons_succ]
        refine held_op (i := 12) (w' := W2) _ (by kernel_rfl) rfl (by rfl) (by go_simp; with_reducible rfl) x103 ?_
        simp only [Act.put, List.getElem_toArray, List.getElem_cons_succ, List.getElem_cons_zero, List.setIfInBounds_toArray, List.set_cons_zero, List.set_cons_succ]
        refine held_op (i := 13) (w' := W2) _ (by kernel_rfl) rfl (by rfl) (by go_simp; with_reducible rfl) x103 ?_
        simp only [Act.put, List.getElem_toArray, List.getElem_cons_succ, List.getElem_cons_zero, List.setIfInBounds_toArray, List.set_cons_zero, List.set_cons_succ]
        have c99 := hHW.ctp
        have f99 := hHW.row.free 99
        have hH3 := hHW.putTp (.slice (some ⟨g, 0, none⟩) (n + 1) cap)
        have x104 : (W2.setCell ⟨h, 99, none⟩ (.slice (some ⟨g, 0, none⟩) (n + 1) cap)).cell? ⟨h, 10, none⟩ = some (.int .i64 (S.x 10)) := hH3.cx (k := 10) (by omega)
        refine held_skip (i := 14) (w' := W2.setCell ⟨h, 99, none⟩ (.slice (some ⟨g, 0, none⟩) (n + 1) cap)) _ (by kernel_rfl) rfl (by rfl) (by go_simp) x104 ?_
        simp only [Act.put, List.getElem_toArray, List.getElem_cons_succ, List.getElem_cons_zero, List.setIfInBounds_toArray, List.set_cons_zero, List.set_cons_succ]
        refine wpAnyH_done (by kernel_rfl) ?_ _
        have HF3 : Hid (Fr (h :: ownL S.tp) w (W2.setCell ⟨h, 99, none⟩ (.slice (some ⟨g, 0, none⟩) (n + 1) cap))) := hid ((((HR1.out.mono (T' := h :: ownL S.tp) (fun k _ hk => by simp at hk; simp [hk])).trans (Fr.of_below hBa)).trans (hgr2.mono fun k _ hk => by simp [hk])).set (.inr (by simp)) _)
        have HO3 := hid (hown2.kept (row := some h) (w' := W2.setCell ⟨h, 99, none⟩ (.slice (some ⟨g, 0, none⟩) (n + 1) cap)) ⟨rfl, rfl, rfl, by simp [World.setCell], fun k hk hn => Below.heap_setCell _ ⟨h, 99, none⟩ _ k (by simpa using hn)⟩ (.inr (own_ne hown2 hHW.row (by decide))))
        have HH3 := hid hH3
        have Hfr2 := hid hfr2
        clear hH3 hHW c99 f99 x103 x102 x10 tp tp2 hown2 hgrow hfr hBa hgr2 hoT hfr2
        generalize W2.setCell ⟨h, 99, none⟩ (.slice (some ⟨g, 0, none⟩) (n + 1) cap) = W3 at HF3 HO3 HH3 x104 ⊢
        have c96 := HH3.out.cpc
        have c97 := HH3.out.csu
        have f96 := HH3.out.row.free 96
        have f97 := HH3.out.row.free 97
        go_wp2
        go_ret
        refine ⟨_, rfl, _, g :: M, n + 1, xs ++ [.int .i64 (S.x 10)], (HH3.out.putPC _).putSu _, fun x hx => List.mem_cons_of_mem _ hx, ?_, ?_, Nat.le_refl _, ?_, (HF3.out.set (.inr (by simp)) _).set (.inr (by simp)) _⟩
        · intro x hx
          rcases List.mem_cons.1 hx with rfl | hx
          · exact Hfr2.out
          · exact .inl hx
        · exact HO3.out.kept (row := some h) ⟨rfl, rfl, rfl, by simp [World.setCell], fun k hk hn => (Below.heap_setCell _ ⟨h, 97, none⟩ _ k (by simpa using hn)).trans (Below.heap_setCell _ ⟨h, 96, none⟩ _ k (by simpa using hn))⟩ (.inr (own_ne HO3.out HH3.out.row (by decide)))
        · intro b hb
          have : g = b := by simpa [Value.ownBlock] using hb
          subst this
          simp
      · go_wp2
        go_ret
        exact ⟨_, rfl, PlP.of HH.out HP1.out rfl HR1.out⟩
end
end Go.Proofs.Ytchjjbcmbdmlgaa
