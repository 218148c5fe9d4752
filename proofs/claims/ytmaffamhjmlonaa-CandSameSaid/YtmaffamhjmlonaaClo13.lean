/- Layer 13: slices.Clone of harts, rows, records, stores: a new list of the same elements. -/
import Derived.Test.YtmaffamhjmlonaaAwk13
import Derived.Test.YtmaffamhjmlonaaDynL
set_option linter.unusedVariables false
set_option linter.unusedSimpArgs false
namespace Go.Proofs.Ytmaffamhjmlonaa
open Go Go.RowKit Sim S2
noncomputable def enCl (l : List Nat) : S2.Env := { envk Try.prog (fun _ => none) true noT noP noL with lit := true, non := l }
theorem enCl_ok (l : List Nat) : CallOk (enCl l) := envk_ok (nw := true) (.none _ _) (.none _ _) (.none _ _)
theorem enCl_gl (l : List Nat) (w : World) : GlobB (enCl l) (base0 w) := .of (GlobOk.none w)
theorem tr_list {n : Nat} {ν : Nu} {a : Act} {s s' : S2.St} {v : Value} {p : List Bool} (h1 : s.tmps = [(0, .inl (p, v))]) (h2 : s'.tmps = [(0, .c 0)]) (ht : S2.TR n ν s a) : S2.TR n (extV ν 0 v) s' a := ⟨ht.size, fun t => by
 have h := ht.tm t
 rw [h1] at h
 rw [h2]
 have h : Is ν (bif Nat.beq 0 t then .inl (p, v) else SV.any) (a.tmps.getD t undef) := h
 show Is (extV ν 0 v) (bif Nat.beq 0 t then SV.c 0 else SV.any) (a.tmps.getD t undef)
 cases hb : Nat.beq 0 t
 . trivial
 . rw [hb] at h
   have h : a.tmps.getD t undef = v := h
   show a.tmps.getD t undef = (extV ν 0 v).v 0
   rw [extV_new]; exact h, ht.df⟩
theorem join0 {f g : Nat -> List Value} : ∀ i, joinE 0 f g i = g i := fun i => by
 unfold joinE
 rw [show Nat.blt i 0 = false from rfl]
 show g (i - 0) = g i
 rw [Nat.sub_zero]
noncomputable def chC (p : List Nat) : Code := codeAt (codeOf Try.prog 37) p
noncomputable def chR : Code := chC [0, 1, 1]
def chL (n : Nat) (el : Nat -> List Value) (own : Bool) : LE := ⟨40, 1, n, el, own, false, true⟩
theorem chC_eq : codeOf Try.prog 37 = .seq (chC [0]) (.seq (chC [0, 1]) (.seq (.region (regI chR) (regO chR) false) (chC [1, 1, 1]))) := by kernel_rfl
theorem ch_r0 (x : Addr) (n c : Nat) (w : World) : SemA (enCl []) (base0 w) 0 0 8 (chC [0]) (awS [(0, .inl ([true], .slice (some x) n c))] []) none (awS [(0, .inl ([true], .slice (some x) n c))] []) :=
 semA_iter (enCl_ok []) (enCl_gl [] w) (p := { ts := [0], bs := [], ls := [] }) (fuel := 1000) [] [] (by kernel_rfl) (by kernel_rfl) qZ
theorem ch_r1 (x : Addr) (n c : Nat) (w : World) : SemA (enCl []) (base0 w) 0 0 8 (chC [0, 1]) (awS [(0, .inl ([true], .slice (some x) n c))] []) none (awS [(0, .inl ([true], .slice (some x) n c))] []) :=
 semA_iter (enCl_ok []) (enCl_gl [] w) (p := { ts := [0], bs := [], ls := [] }) (fuel := 1000) [false] [(false, false)] (by kernel_rfl) (by kernel_rfl) (qA rfl qZ)
theorem ch_r3 (e : LE) (w : World) : SemA (enCl []) (base0 w) 0 0 8 (chC [1, 1, 1]) (awS [(2, .c 0)] [e]) (some none) (awS [(2, .c 0)] [e]) :=
 semA_iter (enCl_ok []) (enCl_gl [] w) (p := { ts := [2], bs := [], ls := [0] }) (fuel := 1000) [] [] (by kernel_rfl) (by kernel_rfl) qZ
theorem ch_some (n : Nat) (el : Nat -> List Value) : runOps (enCl []) 1000 8 (regO chR) (regO chR).toList { ts := [2], bs := [], ls := [2] } [] (awS [(0, .c 0)] [chL n el false]) = some (awS [(2, .c 0)] [chL (0 + n) (joinE 0 (tabE []) el) true], [(pre (decide (0 + n <= maxLen /\ (0 + n) * 24 <= 140737488355328 /\ 0 < n)), true)]) := by kernel_rfl
theorem ch_none (n : Nat) (el : Nat -> List Value) : runOps (enCl [7]) 1000 8 (regO chR) (regO chR).toList { ts := [2], bs := [], ls := [1] } [] (awS [(0, .c 0)] [chL n el false]) = some (awS [(2, .c 0)] [chL 0 (tabE []) true], [(pre (decide (n = 0)), true)]) := by kernel_rfl
theorem ch_r2 (x : Addr) (n c : Nat) (el : Nat -> List Value) (w : World) (hv : InB w.heap.size w (chL n el false) (.slice (some x) n c)) (hb : n * 24 <= 140737488355328) : CX Try.prog 8 0 0 (base0 w) (awS [(0, .inl ([true], .slice (some x) n c))] []) (.region (regI chR) (regO chR) false) fun y w1 s1 => y = none /\ w1 = base0 w /\ ∃ e, sameE e (chL n el true) /\ s1 = awS [(2, .c 0)] [e] := fun Q ν a w1 ht hw hQ => by
 refine wp_region_list ?_
 have hin : S2.WR (base0 w) (extV ν 0 (.slice (some x) n c)) ⟨[], [chL n el false]⟩ true w1 := hw.addIn rfl (hv.kept fun b hb => hw.below.block b hb)
 have ht2 : S2.TR 8 (extV ν 0 (.slice (some x) n c)) (awS [(0, .c 0)] [chL n el false]) a := tr_list rfl rfl ht
 have no : ∀ {ν ν' : Nu}, S2.Agree 0 0 ν ν' := ⟨fun i hi => absurd hi (Nat.not_lt_zero _), fun i hi => absurd hi (Nat.not_lt_zero _)⟩
 rcases Nat.eq_zero_or_pos n with h0 | h0
 . refine runOpsA (nb := 0) (nl := 0) (enCl_ok [7]) (enCl_gl [7] w) [] _ (by kernel_rfl) (ch_none n el) (qA (decide_eq_true h0) qZ) ht2 hin fun ν2 a2 w' ha ht3 hw3 => hQ none (base0 w) _ ν2 a2 w' ⟨rfl, rfl, _, ?_, rfl⟩ no ht3 hw3
   exact ⟨rfl, rfl, h0.symm, rfl, rfl, fun i hi => absurd hi (Nat.not_lt_zero _)⟩
 . refine runOpsA (nb := 0) (nl := 0) (enCl_ok []) (enCl_gl [] w) [] _ (by kernel_rfl) (ch_some n el) (qA (by unfold pre maxLen; exact decide_eq_true (by omega)) qZ) ht2 hin fun ν2 a2 w' ha ht3 hw3 => hQ none (base0 w) _ ν2 a2 w' ⟨rfl, rfl, _, ?_, rfl⟩ no ht3 hw3
   exact ⟨rfl, rfl, Nat.zero_add n, rfl, rfl, fun i hi => join0 (f := tabE []) (g := el) i⟩
theorem ch_calls (x : Addr) (n c : Nat) (el : Nat -> List Value) (w : World) (hv : InB w.heap.size w (chL n el false) (.slice (some x) n c)) (hb : n * 24 <= 140737488355328) : Calls Try.prog 37 #[.slice (some x) n c] w fun e w2 => ∃ u, e = .returned u /\ Below w.heap.size w w2 /\ OwnB w.heap.size w2 (chL n el true) u := by
 have h : CX Try.prog 8 0 0 (base0 w) (awS [(0, .inl ([true], .slice (some x) n c))] []) (codeOf Try.prog 37) fun y w1 s1 => y = some none /\ w1 = base0 w /\ ∃ e, sameE e (chL n el true) /\ s1 = awS [(2, .c 0)] [e] := by
   rw [chC_eq]
   refine CX.then (ch_r0 x n c w) (CX.then (ch_r1 x n c w) (CX.seq (ch_r2 x n c el w hv hb) (fun w1 s1 h => ?_) (fun y w1 s1 h => by cases h.1)))
   obtain ⟨_, rfl, e, he, rfl⟩ := h
   exact CX.of (E := enCl []) (ch_r3 e w) ⟨rfl, rfl, e, he, rfl⟩
 refine CX.calls (E := enCl []) (fn := (Try.prog.funcs[(37 : Nat)]?).getD default) (by kernel_rfl) (c := codeOf Try.prog 37) (by kernel_rfl) rfl (args := [.inl ([true], .slice (some x) n c)]) (own := ⟨[], []⟩) (w0 := base0 w) h ?_ (vs := [.slice (some x) n c]) (ν := ⟨fun _ => 0, fun _ => undef⟩) ⟨rfl, trivial⟩ (WR.void w _)
 intro y w1 s1 h
 obtain ⟨rfl, rfl, e, he, rfl⟩ := h
 refine ⟨(fun i h => by cases h), .c 0, by kernel_rfl, fun ν1 v w' ha hv hw' => ⟨v, rfl, hw'.below, ?_⟩⟩
 have hv : v = ν1.v 0 := hv
 have hd : e.dead = false := he.2.2.2.2.1
 have ho : e.own = true := he.2.2.2.1
 have hl := hw'.lst 0 e rfl hd
 unfold LOk at hl
 rw [ho] at hl
 have hl : OwnB w.heap.size w' e (ν1.v 0) := hl
 rw [hv]
 exact hl.same he
noncomputable def cwC (p : List Nat) : Code := codeAt (codeOf Try.prog 38) p
noncomputable def cwR : Code := cwC [0, 1, 1]
def cwL (n : Nat) (el : Nat -> List Value) (own : Bool) : LE := ⟨43, 2, n, el, own, false, true⟩
theorem cwC_eq : codeOf Try.prog 38 = .seq (cwC [0]) (.seq (cwC [0, 1]) (.seq (.region (regI cwR) (regO cwR) false) (cwC [1, 1, 1]))) := by kernel_rfl
theorem cw_r0 (x : Addr) (n c : Nat) (w : World) : SemA (enCl []) (base0 w) 0 0 8 (cwC [0]) (awS [(0, .inl ([true], .slice (some x) n c))] []) none (awS [(0, .inl ([true], .slice (some x) n c))] []) :=
 semA_iter (enCl_ok []) (enCl_gl [] w) (p := { ts := [0], bs := [], ls := [] }) (fuel := 1000) [] [] (by kernel_rfl) (by kernel_rfl) qZ
theorem cw_r1 (x : Addr) (n c : Nat) (w : World) : SemA (enCl []) (base0 w) 0 0 8 (cwC [0, 1]) (awS [(0, .inl ([true], .slice (some x) n c))] []) none (awS [(0, .inl ([true], .slice (some x) n c))] []) :=
 semA_iter (enCl_ok []) (enCl_gl [] w) (p := { ts := [0], bs := [], ls := [] }) (fuel := 1000) [false] [(false, false)] (by kernel_rfl) (by kernel_rfl) (qA rfl qZ)
theorem cw_r3 (e : LE) (w : World) : SemA (enCl []) (base0 w) 0 0 8 (cwC [1, 1, 1]) (awS [(2, .c 0)] [e]) (some none) (awS [(2, .c 0)] [e]) :=
 semA_iter (enCl_ok []) (enCl_gl [] w) (p := { ts := [2], bs := [], ls := [0] }) (fuel := 1000) [] [] (by kernel_rfl) (by kernel_rfl) qZ
theorem cw_some (n : Nat) (el : Nat -> List Value) : runOps (enCl []) 1000 8 (regO cwR) (regO cwR).toList { ts := [2], bs := [], ls := [2] } [] (awS [(0, .c 0)] [cwL n el false]) = some (awS [(2, .c 0)] [cwL (0 + n) (joinE 0 (tabE []) el) true], [(pre (decide (0 + n <= maxLen /\ (0 + n) * 32 <= 140737488355328 /\ 0 < n)), true)]) := by kernel_rfl
theorem cw_none (n : Nat) (el : Nat -> List Value) : runOps (enCl [7]) 1000 8 (regO cwR) (regO cwR).toList { ts := [2], bs := [], ls := [1] } [] (awS [(0, .c 0)] [cwL n el false]) = some (awS [(2, .c 0)] [cwL 0 (tabE []) true], [(pre (decide (n = 0)), true)]) := by kernel_rfl
theorem cw_r2 (x : Addr) (n c : Nat) (el : Nat -> List Value) (w : World) (hv : InB w.heap.size w (cwL n el false) (.slice (some x) n c)) (hb : n * 32 <= 140737488355328) : CX Try.prog 8 0 0 (base0 w) (awS [(0, .inl ([true], .slice (some x) n c))] []) (.region (regI cwR) (regO cwR) false) fun y w1 s1 => y = none /\ w1 = base0 w /\ ∃ e, sameE e (cwL n el true) /\ s1 = awS [(2, .c 0)] [e] := fun Q ν a w1 ht hw hQ => by
 refine wp_region_list ?_
 have hin : S2.WR (base0 w) (extV ν 0 (.slice (some x) n c)) ⟨[], [cwL n el false]⟩ true w1 := hw.addIn rfl (hv.kept fun b hb => hw.below.block b hb)
 have ht2 : S2.TR 8 (extV ν 0 (.slice (some x) n c)) (awS [(0, .c 0)] [cwL n el false]) a := tr_list rfl rfl ht
 have no : ∀ {ν ν' : Nu}, S2.Agree 0 0 ν ν' := ⟨fun i hi => absurd hi (Nat.not_lt_zero _), fun i hi => absurd hi (Nat.not_lt_zero _)⟩
 rcases Nat.eq_zero_or_pos n with h0 | h0
 . refine runOpsA (nb := 0) (nl := 0) (enCl_ok [7]) (enCl_gl [7] w) [] _ (by kernel_rfl) (cw_none n el) (qA (decide_eq_true h0) qZ) ht2 hin fun ν2 a2 w' ha ht3 hw3 => hQ none (base0 w) _ ν2 a2 w' ⟨rfl, rfl, _, ?_, rfl⟩ no ht3 hw3
   exact ⟨rfl, rfl, h0.symm, rfl, rfl, fun i hi => absurd hi (Nat.not_lt_zero _)⟩
 . refine runOpsA (nb := 0) (nl := 0) (enCl_ok []) (enCl_gl [] w) [] _ (by kernel_rfl) (cw_some n el) (qA (by unfold pre maxLen; exact decide_eq_true (by omega)) qZ) ht2 hin fun ν2 a2 w' ha ht3 hw3 => hQ none (base0 w) _ ν2 a2 w' ⟨rfl, rfl, _, ?_, rfl⟩ no ht3 hw3
   exact ⟨rfl, rfl, Nat.zero_add n, rfl, rfl, fun i hi => join0 (f := tabE []) (g := el) i⟩
theorem cw_calls (x : Addr) (n c : Nat) (el : Nat -> List Value) (w : World) (hv : InB w.heap.size w (cwL n el false) (.slice (some x) n c)) (hb : n * 32 <= 140737488355328) : Calls Try.prog 38 #[.slice (some x) n c] w fun e w2 => ∃ u, e = .returned u /\ Below w.heap.size w w2 /\ OwnB w.heap.size w2 (cwL n el true) u := by
 have h : CX Try.prog 8 0 0 (base0 w) (awS [(0, .inl ([true], .slice (some x) n c))] []) (codeOf Try.prog 38) fun y w1 s1 => y = some none /\ w1 = base0 w /\ ∃ e, sameE e (cwL n el true) /\ s1 = awS [(2, .c 0)] [e] := by
   rw [cwC_eq]
   refine CX.then (cw_r0 x n c w) (CX.then (cw_r1 x n c w) (CX.seq (cw_r2 x n c el w hv hb) (fun w1 s1 h => ?_) (fun y w1 s1 h => by cases h.1)))
   obtain ⟨_, rfl, e, he, rfl⟩ := h
   exact CX.of (E := enCl []) (cw_r3 e w) ⟨rfl, rfl, e, he, rfl⟩
 refine CX.calls (E := enCl []) (fn := (Try.prog.funcs[(38 : Nat)]?).getD default) (by kernel_rfl) (c := codeOf Try.prog 38) (by kernel_rfl) rfl (args := [.inl ([true], .slice (some x) n c)]) (own := ⟨[], []⟩) (w0 := base0 w) h ?_ (vs := [.slice (some x) n c]) (ν := ⟨fun _ => 0, fun _ => undef⟩) ⟨rfl, trivial⟩ (WR.void w _)
 intro y w1 s1 h
 obtain ⟨rfl, rfl, e, he, rfl⟩ := h
 refine ⟨(fun i h => by cases h), .c 0, by kernel_rfl, fun ν1 v w' ha hv hw' => ⟨v, rfl, hw'.below, ?_⟩⟩
 have hv : v = ν1.v 0 := hv
 have hd : e.dead = false := he.2.2.2.2.1
 have ho : e.own = true := he.2.2.2.1
 have hl := hw'.lst 0 e rfl hd
 unfold LOk at hl
 rw [ho] at hl
 have hl : OwnB w.heap.size w' e (ν1.v 0) := hl
 rw [hv]
 exact hl.same he
noncomputable def crC (p : List Nat) : Code := codeAt (codeOf Try.prog 39) p
noncomputable def crR : Code := crC [0, 1, 1]
def crL (n : Nat) (el : Nat -> List Value) (own : Bool) : LE := ⟨48, 6, n, el, own, false, true⟩
theorem crC_eq : codeOf Try.prog 39 = .seq (crC [0]) (.seq (crC [0, 1]) (.seq (.region (regI crR) (regO crR) false) (crC [1, 1, 1]))) := by kernel_rfl
theorem cr_r0 (x : Addr) (n c : Nat) (w : World) : SemA (enCl []) (base0 w) 0 0 8 (crC [0]) (awS [(0, .inl ([true], .slice (some x) n c))] []) none (awS [(0, .inl ([true], .slice (some x) n c))] []) :=
 semA_iter (enCl_ok []) (enCl_gl [] w) (p := { ts := [0], bs := [], ls := [] }) (fuel := 1000) [] [] (by kernel_rfl) (by kernel_rfl) qZ
theorem cr_r1 (x : Addr) (n c : Nat) (w : World) : SemA (enCl []) (base0 w) 0 0 8 (crC [0, 1]) (awS [(0, .inl ([true], .slice (some x) n c))] []) none (awS [(0, .inl ([true], .slice (some x) n c))] []) :=
 semA_iter (enCl_ok []) (enCl_gl [] w) (p := { ts := [0], bs := [], ls := [] }) (fuel := 1000) [false] [(false, false)] (by kernel_rfl) (by kernel_rfl) (qA rfl qZ)
theorem cr_r3 (e : LE) (w : World) : SemA (enCl []) (base0 w) 0 0 8 (crC [1, 1, 1]) (awS [(2, .c 0)] [e]) (some none) (awS [(2, .c 0)] [e]) :=
 semA_iter (enCl_ok []) (enCl_gl [] w) (p := { ts := [2], bs := [], ls := [0] }) (fuel := 1000) [] [] (by kernel_rfl) (by kernel_rfl) qZ
theorem cr_some (n : Nat) (el : Nat -> List Value) : runOps (enCl []) 1000 8 (regO crR) (regO crR).toList { ts := [2], bs := [], ls := [2] } [] (awS [(0, .c 0)] [crL n el false]) = some (awS [(2, .c 0)] [crL (0 + n) (joinE 0 (tabE []) el) true], [(pre (decide (0 + n <= maxLen /\ (0 + n) * 40 <= 140737488355328 /\ 0 < n)), true)]) := by kernel_rfl
theorem cr_none (n : Nat) (el : Nat -> List Value) : runOps (enCl [7]) 1000 8 (regO crR) (regO crR).toList { ts := [2], bs := [], ls := [1] } [] (awS [(0, .c 0)] [crL n el false]) = some (awS [(2, .c 0)] [crL 0 (tabE []) true], [(pre (decide (n = 0)), true)]) := by kernel_rfl
theorem cr_r2 (x : Addr) (n c : Nat) (el : Nat -> List Value) (w : World) (hv : InB w.heap.size w (crL n el false) (.slice (some x) n c)) (hb : n * 40 <= 140737488355328) : CX Try.prog 8 0 0 (base0 w) (awS [(0, .inl ([true], .slice (some x) n c))] []) (.region (regI crR) (regO crR) false) fun y w1 s1 => y = none /\ w1 = base0 w /\ ∃ e, sameE e (crL n el true) /\ s1 = awS [(2, .c 0)] [e] := fun Q ν a w1 ht hw hQ => by
 refine wp_region_list ?_
 have hin : S2.WR (base0 w) (extV ν 0 (.slice (some x) n c)) ⟨[], [crL n el false]⟩ true w1 := hw.addIn rfl (hv.kept fun b hb => hw.below.block b hb)
 have ht2 : S2.TR 8 (extV ν 0 (.slice (some x) n c)) (awS [(0, .c 0)] [crL n el false]) a := tr_list rfl rfl ht
 have no : ∀ {ν ν' : Nu}, S2.Agree 0 0 ν ν' := ⟨fun i hi => absurd hi (Nat.not_lt_zero _), fun i hi => absurd hi (Nat.not_lt_zero _)⟩
 rcases Nat.eq_zero_or_pos n with h0 | h0
 . refine runOpsA (nb := 0) (nl := 0) (enCl_ok [7]) (enCl_gl [7] w) [] _ (by kernel_rfl) (cr_none n el) (qA (decide_eq_true h0) qZ) ht2 hin fun ν2 a2 w' ha ht3 hw3 => hQ none (base0 w) _ ν2 a2 w' ⟨rfl, rfl, _, ?_, rfl⟩ no ht3 hw3
   exact ⟨rfl, rfl, h0.symm, rfl, rfl, fun i hi => absurd hi (Nat.not_lt_zero _)⟩
 . refine runOpsA (nb := 0) (nl := 0) (enCl_ok []) (enCl_gl [] w) [] _ (by kernel_rfl) (cr_some n el) (qA (by unfold pre maxLen; exact decide_eq_true (by omega)) qZ) ht2 hin fun ν2 a2 w' ha ht3 hw3 => hQ none (base0 w) _ ν2 a2 w' ⟨rfl, rfl, _, ?_, rfl⟩ no ht3 hw3
   exact ⟨rfl, rfl, Nat.zero_add n, rfl, rfl, fun i hi => join0 (f := tabE []) (g := el) i⟩
theorem cr_calls (x : Addr) (n c : Nat) (el : Nat -> List Value) (w : World) (hv : InB w.heap.size w (crL n el false) (.slice (some x) n c)) (hb : n * 40 <= 140737488355328) : Calls Try.prog 39 #[.slice (some x) n c] w fun e w2 => ∃ u, e = .returned u /\ Below w.heap.size w w2 /\ OwnB w.heap.size w2 (crL n el true) u := by
 have h : CX Try.prog 8 0 0 (base0 w) (awS [(0, .inl ([true], .slice (some x) n c))] []) (codeOf Try.prog 39) fun y w1 s1 => y = some none /\ w1 = base0 w /\ ∃ e, sameE e (crL n el true) /\ s1 = awS [(2, .c 0)] [e] := by
   rw [crC_eq]
   refine CX.then (cr_r0 x n c w) (CX.then (cr_r1 x n c w) (CX.seq (cr_r2 x n c el w hv hb) (fun w1 s1 h => ?_) (fun y w1 s1 h => by cases h.1)))
   obtain ⟨_, rfl, e, he, rfl⟩ := h
   exact CX.of (E := enCl []) (cr_r3 e w) ⟨rfl, rfl, e, he, rfl⟩
 refine CX.calls (E := enCl []) (fn := (Try.prog.funcs[(39 : Nat)]?).getD default) (by kernel_rfl) (c := codeOf Try.prog 39) (by kernel_rfl) rfl (args := [.inl ([true], .slice (some x) n c)]) (own := ⟨[], []⟩) (w0 := base0 w) h ?_ (vs := [.slice (some x) n c]) (ν := ⟨fun _ => 0, fun _ => undef⟩) ⟨rfl, trivial⟩ (WR.void w _)
 intro y w1 s1 h
 obtain ⟨rfl, rfl, e, he, rfl⟩ := h
 refine ⟨(fun i h => by cases h), .c 0, by kernel_rfl, fun ν1 v w' ha hv hw' => ⟨v, rfl, hw'.below, ?_⟩⟩
 have hv : v = ν1.v 0 := hv
 have hd : e.dead = false := he.2.2.2.2.1
 have ho : e.own = true := he.2.2.2.1
 have hl := hw'.lst 0 e rfl hd
 unfold LOk at hl
 rw [ho] at hl
 have hl : OwnB w.heap.size w' e (ν1.v 0) := hl
 rw [hv]
 exact hl.same he
noncomputable def cfC (p : List Nat) : Code := codeAt (codeOf Try.prog 40) p
noncomputable def cfR : Code := cfC [0, 1, 1]
def cfL (n : Nat) (el : Nat -> List Value) (own : Bool) : LE := ⟨46, 2, n, el, own, false, true⟩
theorem cfC_eq : codeOf Try.prog 40 = .seq (cfC [0]) (.seq (cfC [0, 1]) (.seq (.region (regI cfR) (regO cfR) false) (cfC [1, 1, 1]))) := by kernel_rfl
theorem cf_r0 (x : Addr) (n c : Nat) (w : World) : SemA (enCl []) (base0 w) 0 0 8 (cfC [0]) (awS [(0, .inl ([true], .slice (some x) n c))] []) none (awS [(0, .inl ([true], .slice (some x) n c))] []) :=
 semA_iter (enCl_ok []) (enCl_gl [] w) (p := { ts := [0], bs := [], ls := [] }) (fuel := 1000) [] [] (by kernel_rfl) (by kernel_rfl) qZ
theorem cf_r1 (x : Addr) (n c : Nat) (w : World) : SemA (enCl []) (base0 w) 0 0 8 (cfC [0, 1]) (awS [(0, .inl ([true], .slice (some x) n c))] []) none (awS [(0, .inl ([true], .slice (some x) n c))] []) :=
 semA_iter (enCl_ok []) (enCl_gl [] w) (p := { ts := [0], bs := [], ls := [] }) (fuel := 1000) [false] [(false, false)] (by kernel_rfl) (by kernel_rfl) (qA rfl qZ)
theorem cf_r3 (e : LE) (w : World) : SemA (enCl []) (base0 w) 0 0 8 (cfC [1, 1, 1]) (awS [(2, .c 0)] [e]) (some none) (awS [(2, .c 0)] [e]) :=
 semA_iter (enCl_ok []) (enCl_gl [] w) (p := { ts := [2], bs := [], ls := [0] }) (fuel := 1000) [] [] (by kernel_rfl) (by kernel_rfl) qZ
theorem cf_some (n : Nat) (el : Nat -> List Value) : runOps (enCl []) 1000 8 (regO cfR) (regO cfR).toList { ts := [2], bs := [], ls := [2] } [] (awS [(0, .c 0)] [cfL n el false]) = some (awS [(2, .c 0)] [cfL (0 + n) (joinE 0 (tabE []) el) true], [(pre (decide (0 + n <= maxLen /\ (0 + n) * 16 <= 140737488355328 /\ 0 < n)), true)]) := by kernel_rfl
theorem cf_none (n : Nat) (el : Nat -> List Value) : runOps (enCl [7]) 1000 8 (regO cfR) (regO cfR).toList { ts := [2], bs := [], ls := [1] } [] (awS [(0, .c 0)] [cfL n el false]) = some (awS [(2, .c 0)] [cfL 0 (tabE []) true], [(pre (decide (n = 0)), true)]) := by kernel_rfl
theorem cf_r2 (x : Addr) (n c : Nat) (el : Nat -> List Value) (w : World) (hv : InB w.heap.size w (cfL n el false) (.slice (some x) n c)) (hb : n * 16 <= 140737488355328) : CX Try.prog 8 0 0 (base0 w) (awS [(0, .inl ([true], .slice (some x) n c))] []) (.region (regI cfR) (regO cfR) false) fun y w1 s1 => y = none /\ w1 = base0 w /\ ∃ e, sameE e (cfL n el true) /\ s1 = awS [(2, .c 0)] [e] := fun Q ν a w1 ht hw hQ => by
 refine wp_region_list ?_
 have hin : S2.WR (base0 w) (extV ν 0 (.slice (some x) n c)) ⟨[], [cfL n el false]⟩ true w1 := hw.addIn rfl (hv.kept fun b hb => hw.below.block b hb)
 have ht2 : S2.TR 8 (extV ν 0 (.slice (some x) n c)) (awS [(0, .c 0)] [cfL n el false]) a := tr_list rfl rfl ht
 have no : ∀ {ν ν' : Nu}, S2.Agree 0 0 ν ν' := ⟨fun i hi => absurd hi (Nat.not_lt_zero _), fun i hi => absurd hi (Nat.not_lt_zero _)⟩
 rcases Nat.eq_zero_or_pos n with h0 | h0
 . refine runOpsA (nb := 0) (nl := 0) (enCl_ok [7]) (enCl_gl [7] w) [] _ (by kernel_rfl) (cf_none n el) (qA (decide_eq_true h0) qZ) ht2 hin fun ν2 a2 w' ha ht3 hw3 => hQ none (base0 w) _ ν2 a2 w' ⟨rfl, rfl, _, ?_, rfl⟩ no ht3 hw3
   exact ⟨rfl, rfl, h0.symm, rfl, rfl, fun i hi => absurd hi (Nat.not_lt_zero _)⟩
 . refine runOpsA (nb := 0) (nl := 0) (enCl_ok []) (enCl_gl [] w) [] _ (by kernel_rfl) (cf_some n el) (qA (by unfold pre maxLen; exact decide_eq_true (by omega)) qZ) ht2 hin fun ν2 a2 w' ha ht3 hw3 => hQ none (base0 w) _ ν2 a2 w' ⟨rfl, rfl, _, ?_, rfl⟩ no ht3 hw3
   exact ⟨rfl, rfl, Nat.zero_add n, rfl, rfl, fun i hi => join0 (f := tabE []) (g := el) i⟩
theorem cf_calls (x : Addr) (n c : Nat) (el : Nat -> List Value) (w : World) (hv : InB w.heap.size w (cfL n el false) (.slice (some x) n c)) (hb : n * 16 <= 140737488355328) : Calls Try.prog 40 #[.slice (some x) n c] w fun e w2 => ∃ u, e = .returned u /\ Below w.heap.size w w2 /\ OwnB w.heap.size w2 (cfL n el true) u := by
 have h : CX Try.prog 8 0 0 (base0 w) (awS [(0, .inl ([true], .slice (some x) n c))] []) (codeOf Try.prog 40) fun y w1 s1 => y = some none /\ w1 = base0 w /\ ∃ e, sameE e (cfL n el true) /\ s1 = awS [(2, .c 0)] [e] := by
   rw [cfC_eq]
   refine CX.then (cf_r0 x n c w) (CX.then (cf_r1 x n c w) (CX.seq (cf_r2 x n c el w hv hb) (fun w1 s1 h => ?_) (fun y w1 s1 h => by cases h.1)))
   obtain ⟨_, rfl, e, he, rfl⟩ := h
   exact CX.of (E := enCl []) (cf_r3 e w) ⟨rfl, rfl, e, he, rfl⟩
 refine CX.calls (E := enCl []) (fn := (Try.prog.funcs[(40 : Nat)]?).getD default) (by kernel_rfl) (c := codeOf Try.prog 40) (by kernel_rfl) rfl (args := [.inl ([true], .slice (some x) n c)]) (own := ⟨[], []⟩) (w0 := base0 w) h ?_ (vs := [.slice (some x) n c]) (ν := ⟨fun _ => 0, fun _ => undef⟩) ⟨rfl, trivial⟩ (WR.void w _)
 intro y w1 s1 h
 obtain ⟨rfl, rfl, e, he, rfl⟩ := h
 refine ⟨(fun i h => by cases h), .c 0, by kernel_rfl, fun ν1 v w' ha hv hw' => ⟨v, rfl, hw'.below, ?_⟩⟩
 have hv : v = ν1.v 0 := hv
 have hd : e.dead = false := he.2.2.2.2.1
 have ho : e.own = true := he.2.2.2.1
 have hl := hw'.lst 0 e rfl hd
 unfold LOk at hl
 rw [ho] at hl
 have hl : OwnB w.heap.size w' e (ν1.v 0) := hl
 rw [hv]
 exact hl.same he
end Go.Proofs.Ytmaffamhjmlonaa
