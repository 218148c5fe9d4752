/- Contracts of package image: the reader's lists. -/
import Derived.Test.YtimgongaenpgkaaCheck08
namespace Go.Proofs.Ytimgongaenpgkaa
open Go.RowKit Sim S2
set_option linter.unusedVariables false
set_option linter.unusedSimpArgs false

noncomputable def rdE : S2.Env := envf Try.prog (fun _ => none) noT noP (orL lWordE lNumE) (fun _ => none)
theorem rdE_ok : CallOk rdE := envf_ok (.none _ _) (.none _ _) (lWordE_ok.or lNumE_ok) .none
/-- Bytes that are left. -/
def restE (n : Nat) (el : Nat → List Value) : LE := ⟨5, 1, n, el, false, false, true⟩
def rdB (k : Nat) (b : Bool) : S2.Blk := ⟨[.c k, .inl ([true], .bool b)], 47, .cells⟩
/-- So much is left of a list, from one place on. -/
def offL (el : Nat → List Value) (o : Nat) : Nat → List Value := fun i => el (o + i)
theorem offL_zero (el : Nat → List Value) : offL el 0 = el := funext fun i => by show el (0 + i) = el i; rw [Nat.zero_add]
def liPath : List Nat := [0, 1, 0, 1, 1]
def slB (z n : Int) : Bool := pre (decide ((0 : Int) ≤ z ∧ z ≤ n ∧ n ≤ n))
def slA (z n : Int) : Bool := pre (decide ((0 : Int) ≤ 0 ∧ (0 : Int) ≤ z ∧ z ≤ n))
theorem slB_ok {z n : Int} (h0 : 0 ≤ z) (h : z ≤ n) : slB z n = true := by unfold slB pre; exact decide_eq_true ⟨h0, h, Int.le_refl _⟩
theorem slA_ok {z n : Int} (h0 : 0 ≤ z) (h : z ≤ n) : slA z n = true := by unfold slA pre; exact decide_eq_true ⟨Int.le_refl _, h0, h⟩
noncomputable def lwV (el : Nat → List Value) : Int := wwZ el
noncomputable def lwA (n : Nat) (el : Nat → List Value) : LE := ⟨39, 1, n, fun k => [.int .u32 (lwV (offL el (4 * k)))], true, false, true⟩
noncomputable def lwC : Code := codeAt (codeOf Try.prog 22) (0 :: liPath)
def lwF : S2.SV := .fn 23 [.a 0 0] []
noncomputable def lwS (R : Nat) (el : Nat → List Value) (N j : Nat) : S2.St := { tmps := [(0, .inr (0, 0, none)), (2, lwF), (7, .c 2), (9, .inl ([true], .int .i64 N)), (10, .inl ([true], .int .i64 j))], own := ⟨[rdB 1 false], [restE R el, restE (R - 4 * j) (offL el (4 * j)), lwA j el]⟩, lo := 0, llo := 0, mem := true, orc := [], obl := [] }
noncomputable def lwT (R : Nat) (el : Nat → List Value) (N j : Nat) : S2.St := { tmps := [(0, .inr (0, 0, none)), (2, lwF), (7, .c 2), (9, .inl ([true], .int .i64 N)), (10, .inl ([true], .int .i64 (j + 1 : Nat)))], own := ⟨[⟨[.c 1, .inl ([true], .bool (decide ((4 : Int) > ((R - 4 * j : Nat) : Int))))], 47, .cells⟩], [restE R el, restE (R - 4 * j - 4) (offL (offL el (4 * j)) 4), ⟨39, 1, j + 1, joinE j (lwA j el).el (tabE [[.int .u32 (lwV (offL (offL el (4 * j)) 0))]]), true, false, true⟩]⟩, lo := 0, llo := 0, mem := true, orc := [], obl := [] }
def lwQ : Pick := { ts := [0, 2, 7, 9, 10], bs := [0], ls := [0, 4, 5], opn := [10] }
noncomputable def lwP (el : Nat → List Value) : Pick := { ts := [0, 2, 7, 9, 10], bs := [0], ls := [0, 1, 2], opn := [10], cp := [0], nil := [(7, 39, 1, (lwA 0 el).el)] }
theorem lw_step (R : Nat) (el : Nat → List Value) (N j : Nat) (hN : N ≤ 100000000000) (hj : j < N) (hR : 4 * (j + 1) ≤ R) (hb : isB R el) (w0 : S2.Base) (hG : GlobB rdE w0) : SemA rdE w0 1 1 24 lwC (lwS R el N j) none (lwS R el N (j + 1)) := by
  have h := semA_iter rdE_ok hG (nb := 1) (nl := 1) (p := lwQ) (n := 24) (c := lwC) (s := lwS R el N j) (x := none) (fuel := 1000) (s' := lwT R el N j) [true, false, false, false]
    [(pre (inI ((j : Int) + 1)), true), (pre (decide (j + 1 ≤ maxLen ∧ (j + 1) * 4 ≤ 140737488355328 ∧ 0 < 1)), true), (decide ((4 : Int) > ((R - 4 * j : Nat) : Int)), false), (pre (propB ((0 : Int) = 0 ∧ 1 = 1 ∧ 4 = 4 ∧ isB 4 (offL (offL el (4 * j)) 0))), true), (slB 4 ((R - 4 * j : Nat) : Int), true), (slA 4 ((R - 4 * j : Nat) : Int), true), (decide ((4 : Int) > ((R - 4 * j : Nat) : Int)), false), (false, false), (decide ((j : Int) < (N : Int)), true)]
    (by kernel_rfl) (by kernel_rfl) ?_
  · refine h.same rfl ?_ ⟨.refl _, ⟨rfl, rfl, by show R - 4 * j - 4 = R - 4 * (j + 1); omega, rfl, rfl, fun i hi => by show el (4 * j + (4 + i)) = el (4 * (j + 1) + i); congr 1; omega⟩, ⟨rfl, rfl, rfl, rfl, rfl, joinE_one (by show [Value.int .u32 (lwV (offL (offL el (4 * j)) 0))] = [Value.int .u32 (lwV (offL el (4 * j)))]; rw [offL_zero])⟩, trivial⟩ rfl
    show [(⟨[.c 1, .inl ([true], .bool (decide ((4 : Int) > ((R - 4 * j : Nat) : Int))))], 47, .cells⟩ : S2.Blk)] = [rdB 1 false]
    rw [decide_eq_false (by omega)]; rfl
  · exact all_cons (ob_inI (by omega)) <| all_cons (ob_app (by omega) (by decide) (by decide)) <| all_cons (ob_no (by omega)) <| all_cons (propB_ok.mpr ⟨rfl, rfl, rfl, fun k hk => hb (4 * j + (0 + k)) (by omega)⟩) <| all_cons (slB_ok (by decide) (by omega)) <| all_cons (slA_ok (by decide) (by omega)) <| all_cons (ob_no (by omega)) <| all_cons rfl <| all_cons (ob_yes (by omega)) all_nil
theorem lw_end (R : Nat) (el : Nat → List Value) (N : Nat) (w0 : S2.Base) (hG : GlobB rdE w0) : SemA rdE w0 1 1 24 lwC (lwS R el N N) (some (some 0)) (lwS R el N N) :=
  semA_iter rdE_ok hG (p := { ts := [0, 2, 7, 9, 10], bs := [0], ls := [0, 1, 2] }) (fuel := 1000) [false] [(decide ((N : Int) < (N : Int)), false)] (by kernel_rfl) (by kernel_rfl) (all_cons (ob_no (by omega)) all_nil)
noncomputable def lwU (R : Nat) (el : Nat → List Value) (j : Nat) : S2.St := { tmps := [(6, .inl ([], .slice none 0 0))], own := ⟨[rdB 1 true], [restE R el, restE (R - 4 * j) (offL el (4 * j))]⟩, lo := 0, llo := 0, mem := true, orc := [], obl := [] }
noncomputable def lwW (R : Nat) (el : Nat → List Value) (j : Nat) : S2.St := { lwU R el j with own := ⟨[⟨[.c 1, .inl ([true], .bool (decide ((4 : Int) > ((R - 4 * j : Nat) : Int))))], 47, .cells⟩], [restE R el, restE (R - 4 * j) (offL el (4 * j))]⟩ }
theorem lw_out (R : Nat) (el : Nat → List Value) (N j : Nat) (hj : j < N) (hR : R - 4 * j < 4) (w0 : S2.Base) (hG : GlobB rdE w0) : SemA rdE w0 1 1 24 lwC (lwS R el N j) (some none) (lwU R el j) := by
  have h := semA_iter rdE_ok hG (nb := 1) (nl := 1) (p := { ts := [6], bs := [0], ls := [0, 1] }) (n := 24) (c := lwC) (s := lwS R el N j) (x := some none) (fuel := 1000) (s' := lwW R el j) [true, false, true, true]
    [(decide ((4 : Int) > ((R - 4 * j : Nat) : Int)), true), (pre (decide ((0 : Int) = 0)), true), (decide ((4 : Int) > ((R - 4 * j : Nat) : Int)), true), (false, false), (decide ((j : Int) < (N : Int)), true)]
    (by kernel_rfl) (by kernel_rfl) ?_
  · refine h.same rfl ?_ (sameL.refl _) rfl
    show [(⟨[.c 1, .inl ([true], .bool (decide ((4 : Int) > ((R - 4 * j : Nat) : Int))))], 47, .cells⟩ : S2.Blk)] = [rdB 1 true]
    rw [decide_eq_true (by omega)]; rfl
  · exact all_cons (ob_yes (by omega)) <| all_cons (by rfl) <| all_cons (ob_yes (by omega)) <| all_cons rfl <| all_cons (ob_yes (by omega)) all_nil
noncomputable def lw0 (R : Nat) (el : Nat → List Value) (N : Nat) : S2.St := { tmps := [(0, .inr (0, 0, none)), (2, lwF), (7, .c 2), (9, .inl ([true], .int .i64 N)), (10, .inl ([true], .int .i64 0))], own := ⟨[rdB 1 false], [restE R el, restE R el, lwA 0 el]⟩, lo := 0, llo := 0, mem := true, orc := [], obl := [] }
theorem lw_from {R : Nat} {el : Nat → List Value} {N : Nat} {w0 : S2.Base} {c : Code} {x : X} {s' : S2.St} (h : SemA rdE w0 1 1 24 c (lwS R el N 0) x s') : SemA rdE w0 1 1 24 c (lw0 R el N) x s' :=
  h.alike rfl rfl ⟨.refl _, ⟨rfl, rfl, by show R = R - 4 * 0; omega, rfl, rfl, fun i hi => by show el i = el (4 * 0 + i); congr 1; omega⟩, .refl _, trivial⟩ rfl
theorem lw_fit (R : Nat) (el : Nat → List Value) (N : Nat) (hN : N ≤ 100000000000) (hR : 4 * N ≤ R) (hb : isB R el) : SemF Try.prog (fun _ => none) 22 [.inr (0, 0, none), .inl ([true], .int .i64 N), lwF] ⟨[rdB 0 false], [restE R el]⟩ (.c 2) ⟨[rdB 1 false], [restE R el, restE (R - 4 * N) (offL el (4 * N)), lwA N el]⟩ :=
  fnS_ok (E := rdE) rdE_ok rfl (fuel := 1000) (d := 30) (plan := [⟨liPath, lwP el, some (some 0), lwS R el N N⟩]) (orc := []) (l := []) (tr := [⟨.loop lwC, lw0 R el N, some (some 0), lwS R el N N⟩]) (by kernel_rfl) (by kernel_rfl) all_nil Try.func22 fun w0 hG t ht => by
    obtain rfl := List.mem_singleton.mp ht
    exact lw_from (sem_loop (lwS R el N) N (by simp) (fun j hj => lw_step R el N j hN hj (by omega) hb w0 hG) (lw_end R el N w0 hG))
theorem lw_miss (R : Nat) (el : Nat → List Value) (N : Nat) (hN : N ≤ 100000000000) (hR : R < 4 * N) (hb : isB R el) : SemF Try.prog (fun _ => none) 22 [.inr (0, 0, none), .inl ([true], .int .i64 N), lwF] ⟨[rdB 0 false], [restE R el]⟩ (.inl ([], .slice none 0 0)) ⟨[rdB 1 true], [restE R el, restE (R - 4 * (R / 4)) (offL el (4 * (R / 4)))]⟩ :=
  fnS_ok (E := rdE) rdE_ok rfl (fuel := 1000) (d := 30) (plan := [⟨liPath, lwP el, some none, lwU R el (R / 4)⟩]) (orc := []) (l := []) (tr := [⟨.loop lwC, lw0 R el N, some none, lwU R el (R / 4)⟩]) (by kernel_rfl) (by kernel_rfl) all_nil Try.func22 fun w0 hG t ht => by
    obtain rfl := List.mem_singleton.mp ht
    exact lw_from (sem_loop (lwS R el N) (R / 4) (by simp) (fun j hj => lw_step R el N j hN (by omega) (by omega) hb w0 hG) (lw_out R el N (R / 4) (by omega) (by omega) w0 hG))
theorem lw_gone (R : Nat) (el : Nat → List Value) (N : Nat) : SemF Try.prog (fun _ => none) 22 [.inr (0, 0, none), .inl ([true], .int .i64 N), lwF] ⟨[rdB 0 true], [restE R el]⟩ (.inl ([], .slice none 0 0)) ⟨[rdB 0 true], [restE R el]⟩ := by
  by_cases h0 : 0 < N
  · refine semF_reblk (own' := ⟨[⟨[.c 0, .inl ([false], .bool true)], 47, .cells⟩], [restE R el]⟩) ?_ rfl (fun ν => rfl) rfl
    exact fnS_ok (E := rdE) rdE_ok rfl (fuel := 1000) (d := 30) (plan := []) (orc := [true, true, true, true]) (l := [(pre (decide ((0 : Int) = 0)), true), (true, true), (decide ((0 : Int) < (N : Int)), true)]) (tr := []) (by kernel_rfl) (by kernel_rfl) (by exact all_cons rfl <| all_cons rfl <| all_cons (ob_yes (by omega)) all_nil) Try.func22 fun w0 hG t ht => by cases ht
  · exact fnS_ok (E := rdE) rdE_ok rfl (fuel := 1000) (d := 30) (plan := []) (orc := [false]) (l := [(decide ((0 : Int) < (N : Int)), false)]) (tr := []) (by kernel_rfl) (by kernel_rfl) (all_cons (ob_no (by omega)) all_nil) Try.func22 fun w0 hG t ht => by cases ht
noncomputable def lnV (el : Nat → List Value) : Int := nnZ el
noncomputable def lnA (n : Nat) (el : Nat → List Value) : LE := ⟨3, 1, n, fun k => [.int .i64 (lnV (offL el (8 * k)))], true, false, true⟩
noncomputable def lnC : Code := codeAt (codeOf Try.prog 24) (0 :: liPath)
def lnF : S2.SV := .fn 25 [.a 0 0] []
noncomputable def lnS (R : Nat) (el : Nat → List Value) (N j : Nat) : S2.St := { tmps := [(0, .inr (0, 0, none)), (2, lnF), (7, .c 2), (9, .inl ([true], .int .i64 N)), (10, .inl ([true], .int .i64 j))], own := ⟨[rdB 1 false], [restE R el, restE (R - 8 * j) (offL el (8 * j)), lnA j el]⟩, lo := 0, llo := 0, mem := true, orc := [], obl := [] }
noncomputable def lnT (R : Nat) (el : Nat → List Value) (N j : Nat) : S2.St := { tmps := [(0, .inr (0, 0, none)), (2, lnF), (7, .c 2), (9, .inl ([true], .int .i64 N)), (10, .inl ([true], .int .i64 (j + 1 : Nat)))], own := ⟨[⟨[.c 1, .inl ([true], .bool (decide ((8 : Int) > ((R - 8 * j : Nat) : Int))))], 47, .cells⟩], [restE R el, restE (R - 8 * j - 8) (offL (offL el (8 * j)) 8), ⟨3, 1, j + 1, joinE j (lnA j el).el (tabE [[.int .i64 (lnV (offL (offL el (8 * j)) 0))]]), true, false, true⟩]⟩, lo := 0, llo := 0, mem := true, orc := [], obl := [] }
def lnQ : Pick := { ts := [0, 2, 7, 9, 10], bs := [0], ls := [0, 4, 5], opn := [10] }
noncomputable def lnP (el : Nat → List Value) : Pick := { ts := [0, 2, 7, 9, 10], bs := [0], ls := [0, 1, 2], opn := [10], cp := [0], nil := [(7, 3, 1, (lnA 0 el).el)] }
theorem ln_step (R : Nat) (el : Nat → List Value) (N j : Nat) (hN : N ≤ 100000000000) (hj : j < N) (hR : 8 * (j + 1) ≤ R) (hb : isB R el) (w0 : S2.Base) (hG : GlobB rdE w0) : SemA rdE w0 1 1 24 lnC (lnS R el N j) none (lnS R el N (j + 1)) := by
  have h := semA_iter rdE_ok hG (nb := 1) (nl := 1) (p := lnQ) (n := 24) (c := lnC) (s := lnS R el N j) (x := none) (fuel := 1000) (s' := lnT R el N j) [true, false, false, false]
    [(pre (inI ((j : Int) + 1)), true), (pre (decide (j + 1 ≤ maxLen ∧ (j + 1) * 8 ≤ 140737488355328 ∧ 0 < 1)), true), (decide ((8 : Int) > ((R - 8 * j : Nat) : Int)), false), (pre (propB ((0 : Int) = 0 ∧ 1 = 1 ∧ 8 = 8 ∧ isB 8 (offL (offL el (8 * j)) 0))), true), (slB 8 ((R - 8 * j : Nat) : Int), true), (slA 8 ((R - 8 * j : Nat) : Int), true), (decide ((8 : Int) > ((R - 8 * j : Nat) : Int)), false), (false, false), (decide ((j : Int) < (N : Int)), true)]
    (by kernel_rfl) (by kernel_rfl) ?_
  · refine h.same rfl ?_ ⟨.refl _, ⟨rfl, rfl, by show R - 8 * j - 8 = R - 8 * (j + 1); omega, rfl, rfl, fun i hi => by show el (8 * j + (8 + i)) = el (8 * (j + 1) + i); congr 1; omega⟩, ⟨rfl, rfl, rfl, rfl, rfl, joinE_one (by show [Value.int .i64 (lnV (offL (offL el (8 * j)) 0))] = [Value.int .i64 (lnV (offL el (8 * j)))]; rw [offL_zero])⟩, trivial⟩ rfl
    show [(⟨[.c 1, .inl ([true], .bool (decide ((8 : Int) > ((R - 8 * j : Nat) : Int))))], 47, .cells⟩ : S2.Blk)] = [rdB 1 false]
    rw [decide_eq_false (by omega)]; rfl
  · exact all_cons (ob_inI (by omega)) <| all_cons (ob_app (by omega) (by decide) (by decide)) <| all_cons (ob_no (by omega)) <| all_cons (propB_ok.mpr ⟨rfl, rfl, rfl, fun k hk => hb (8 * j + (0 + k)) (by omega)⟩) <| all_cons (slB_ok (by decide) (by omega)) <| all_cons (slA_ok (by decide) (by omega)) <| all_cons (ob_no (by omega)) <| all_cons rfl <| all_cons (ob_yes (by omega)) all_nil
theorem ln_end (R : Nat) (el : Nat → List Value) (N : Nat) (w0 : S2.Base) (hG : GlobB rdE w0) : SemA rdE w0 1 1 24 lnC (lnS R el N N) (some (some 0)) (lnS R el N N) :=
  semA_iter rdE_ok hG (p := { ts := [0, 2, 7, 9, 10], bs := [0], ls := [0, 1, 2] }) (fuel := 1000) [false] [(decide ((N : Int) < (N : Int)), false)] (by kernel_rfl) (by kernel_rfl) (all_cons (ob_no (by omega)) all_nil)
noncomputable def lnU (R : Nat) (el : Nat → List Value) (j : Nat) : S2.St := { tmps := [(6, .inl ([], .slice none 0 0))], own := ⟨[rdB 1 true], [restE R el, restE (R - 8 * j) (offL el (8 * j))]⟩, lo := 0, llo := 0, mem := true, orc := [], obl := [] }
noncomputable def lnW (R : Nat) (el : Nat → List Value) (j : Nat) : S2.St := { lnU R el j with own := ⟨[⟨[.c 1, .inl ([true], .bool (decide ((8 : Int) > ((R - 8 * j : Nat) : Int))))], 47, .cells⟩], [restE R el, restE (R - 8 * j) (offL el (8 * j))]⟩ }
theorem ln_out (R : Nat) (el : Nat → List Value) (N j : Nat) (hj : j < N) (hR : R - 8 * j < 8) (w0 : S2.Base) (hG : GlobB rdE w0) : SemA rdE w0 1 1 24 lnC (lnS R el N j) (some none) (lnU R el j) := by
  have h := semA_iter rdE_ok hG (nb := 1) (nl := 1) (p := { ts := [6], bs := [0], ls := [0, 1] }) (n := 24) (c := lnC) (s := lnS R el N j) (x := some none) (fuel := 1000) (s' := lnW R el j) [true, false, true, true]
    [(decide ((8 : Int) > ((R - 8 * j : Nat) : Int)), true), (pre (decide ((0 : Int) = 0)), true), (decide ((8 : Int) > ((R - 8 * j : Nat) : Int)), true), (false, false), (decide ((j : Int) < (N : Int)), true)]
    (by kernel_rfl) (by kernel_rfl) ?_
  · refine h.same rfl ?_ (sameL.refl _) rfl
    show [(⟨[.c 1, .inl ([true], .bool (decide ((8 : Int) > ((R - 8 * j : Nat) : Int))))], 47, .cells⟩ : S2.Blk)] = [rdB 1 true]
    rw [decide_eq_true (by omega)]; rfl
  · exact all_cons (ob_yes (by omega)) <| all_cons (by rfl) <| all_cons (ob_yes (by omega)) <| all_cons rfl <| all_cons (ob_yes (by omega)) all_nil
noncomputable def ln0 (R : Nat) (el : Nat → List Value) (N : Nat) : S2.St := { tmps := [(0, .inr (0, 0, none)), (2, lnF), (7, .c 2), (9, .inl ([true], .int .i64 N)), (10, .inl ([true], .int .i64 0))], own := ⟨[rdB 1 false], [restE R el, restE R el, lnA 0 el]⟩, lo := 0, llo := 0, mem := true, orc := [], obl := [] }
theorem ln_from {R : Nat} {el : Nat → List Value} {N : Nat} {w0 : S2.Base} {c : Code} {x : X} {s' : S2.St} (h : SemA rdE w0 1 1 24 c (lnS R el N 0) x s') : SemA rdE w0 1 1 24 c (ln0 R el N) x s' :=
  h.alike rfl rfl ⟨.refl _, ⟨rfl, rfl, by show R = R - 8 * 0; omega, rfl, rfl, fun i hi => by show el i = el (8 * 0 + i); congr 1; omega⟩, .refl _, trivial⟩ rfl
theorem ln_fit (R : Nat) (el : Nat → List Value) (N : Nat) (hN : N ≤ 100000000000) (hR : 8 * N ≤ R) (hb : isB R el) : SemF Try.prog (fun _ => none) 24 [.inr (0, 0, none), .inl ([true], .int .i64 N), lnF] ⟨[rdB 0 false], [restE R el]⟩ (.c 2) ⟨[rdB 1 false], [restE R el, restE (R - 8 * N) (offL el (8 * N)), lnA N el]⟩ :=
  fnS_ok (E := rdE) rdE_ok rfl (fuel := 1000) (d := 30) (plan := [⟨liPath, lnP el, some (some 0), lnS R el N N⟩]) (orc := []) (l := []) (tr := [⟨.loop lnC, ln0 R el N, some (some 0), lnS R el N N⟩]) (by kernel_rfl) (by kernel_rfl) all_nil Try.func24 fun w0 hG t ht => by
    obtain rfl := List.mem_singleton.mp ht
    exact ln_from (sem_loop (lnS R el N) N (by simp) (fun j hj => ln_step R el N j hN hj (by omega) hb w0 hG) (ln_end R el N w0 hG))
theorem ln_miss (R : Nat) (el : Nat → List Value) (N : Nat) (hN : N ≤ 100000000000) (hR : R < 8 * N) (hb : isB R el) : SemF Try.prog (fun _ => none) 24 [.inr (0, 0, none), .inl ([true], .int .i64 N), lnF] ⟨[rdB 0 false], [restE R el]⟩ (.inl ([], .slice none 0 0)) ⟨[rdB 1 true], [restE R el, restE (R - 8 * (R / 8)) (offL el (8 * (R / 8)))]⟩ :=
  fnS_ok (E := rdE) rdE_ok rfl (fuel := 1000) (d := 30) (plan := [⟨liPath, lnP el, some none, lnU R el (R / 8)⟩]) (orc := []) (l := []) (tr := [⟨.loop lnC, ln0 R el N, some none, lnU R el (R / 8)⟩]) (by kernel_rfl) (by kernel_rfl) all_nil Try.func24 fun w0 hG t ht => by
    obtain rfl := List.mem_singleton.mp ht
    exact ln_from (sem_loop (lnS R el N) (R / 8) (by simp) (fun j hj => ln_step R el N j hN (by omega) (by omega) hb w0 hG) (ln_out R el N (R / 8) (by omega) (by omega) w0 hG))
theorem ln_gone (R : Nat) (el : Nat → List Value) (N : Nat) : SemF Try.prog (fun _ => none) 24 [.inr (0, 0, none), .inl ([true], .int .i64 N), lnF] ⟨[rdB 0 true], [restE R el]⟩ (.inl ([], .slice none 0 0)) ⟨[rdB 0 true], [restE R el]⟩ := by
  by_cases h0 : 0 < N
  · refine semF_reblk (own' := ⟨[⟨[.c 0, .inl ([false], .bool true)], 47, .cells⟩], [restE R el]⟩) ?_ rfl (fun ν => rfl) rfl
    exact fnS_ok (E := rdE) rdE_ok rfl (fuel := 1000) (d := 30) (plan := []) (orc := [true, true, true, true]) (l := [(pre (decide ((0 : Int) = 0)), true), (true, true), (decide ((0 : Int) < (N : Int)), true)]) (tr := []) (by kernel_rfl) (by kernel_rfl) (by exact all_cons rfl <| all_cons rfl <| all_cons (ob_yes (by omega)) all_nil) Try.func24 fun w0 hG t ht => by cases ht
  · exact fnS_ok (E := rdE) rdE_ok rfl (fuel := 1000) (d := 30) (plan := []) (orc := [false]) (l := [(decide ((0 : Int) < (N : Int)), false)]) (tr := []) (by kernel_rfl) (by kernel_rfl) (all_cons (ob_no (by omega)) all_nil) Try.func24 fun w0 hG t ht => by cases ht
noncomputable def lsV (el : Nat → List Value) : Int := IntKind.i64.wrap (wwZ el)
noncomputable def lsA (n : Nat) (el : Nat → List Value) : LE := ⟨3, 1, n, fun k => [.int .i64 (lsV (offL el (4 * k)))], true, false, true⟩
noncomputable def lsC : Code := codeAt (codeOf Try.prog 24) (0 :: liPath)
def lsF : S2.SV := .fn 21 [.a 0 0] []
noncomputable def lsS (R : Nat) (el : Nat → List Value) (N j : Nat) : S2.St := { tmps := [(0, .inr (0, 0, none)), (2, lsF), (7, .c 2), (9, .inl ([true], .int .i64 N)), (10, .inl ([true], .int .i64 j))], own := ⟨[rdB 1 false], [restE R el, restE (R - 4 * j) (offL el (4 * j)), lsA j el]⟩, lo := 0, llo := 0, mem := true, orc := [], obl := [] }
noncomputable def lsT (R : Nat) (el : Nat → List Value) (N j : Nat) : S2.St := { tmps := [(0, .inr (0, 0, none)), (2, lsF), (7, .c 2), (9, .inl ([true], .int .i64 N)), (10, .inl ([true], .int .i64 (j + 1 : Nat)))], own := ⟨[⟨[.c 1, .inl ([true], .bool (decide ((4 : Int) > ((R - 4 * j : Nat) : Int))))], 47, .cells⟩], [restE R el, restE (R - 4 * j - 4) (offL (offL el (4 * j)) 4), ⟨3, 1, j + 1, joinE j (lsA j el).el (tabE [[.int .i64 (lsV (offL (offL el (4 * j)) 0))]]), true, false, true⟩]⟩, lo := 0, llo := 0, mem := true, orc := [], obl := [] }
def lsQ : Pick := { ts := [0, 2, 7, 9, 10], bs := [0], ls := [0, 4, 5], opn := [10] }
noncomputable def lsP (el : Nat → List Value) : Pick := { ts := [0, 2, 7, 9, 10], bs := [0], ls := [0, 1, 2], opn := [10], cp := [0], nil := [(7, 3, 1, (lsA 0 el).el)] }
theorem ls_step (R : Nat) (el : Nat → List Value) (N j : Nat) (hN : N ≤ 100000000000) (hj : j < N) (hR : 4 * (j + 1) ≤ R) (hb : isB R el) (w0 : S2.Base) (hG : GlobB rdE w0) : SemA rdE w0 1 1 24 lsC (lsS R el N j) none (lsS R el N (j + 1)) := by
  have h := semA_iter rdE_ok hG (nb := 1) (nl := 1) (p := lsQ) (n := 24) (c := lsC) (s := lsS R el N j) (x := none) (fuel := 1000) (s' := lsT R el N j) [true, false, false, false]
    [(pre (inI ((j : Int) + 1)), true), (pre (decide (j + 1 ≤ maxLen ∧ (j + 1) * 8 ≤ 140737488355328 ∧ 0 < 1)), true), (decide ((4 : Int) > ((R - 4 * j : Nat) : Int)), false), (pre (propB ((0 : Int) = 0 ∧ 1 = 1 ∧ 4 = 4 ∧ isB 4 (offL (offL el (4 * j)) 0))), true), (slB 4 ((R - 4 * j : Nat) : Int), true), (slA 4 ((R - 4 * j : Nat) : Int), true), (decide ((4 : Int) > ((R - 4 * j : Nat) : Int)), false), (false, false), (decide ((j : Int) < (N : Int)), true)]
    (by kernel_rfl) (by kernel_rfl) ?_
  · refine h.same rfl ?_ ⟨.refl _, ⟨rfl, rfl, by show R - 4 * j - 4 = R - 4 * (j + 1); omega, rfl, rfl, fun i hi => by show el (4 * j + (4 + i)) = el (4 * (j + 1) + i); congr 1; omega⟩, ⟨rfl, rfl, rfl, rfl, rfl, joinE_one (by show [Value.int .i64 (lsV (offL (offL el (4 * j)) 0))] = [Value.int .i64 (lsV (offL el (4 * j)))]; rw [offL_zero])⟩, trivial⟩ rfl
    show [(⟨[.c 1, .inl ([true], .bool (decide ((4 : Int) > ((R - 4 * j : Nat) : Int))))], 47, .cells⟩ : S2.Blk)] = [rdB 1 false]
    rw [decide_eq_false (by omega)]; rfl
  · exact all_cons (ob_inI (by omega)) <| all_cons (ob_app (by omega) (by decide) (by decide)) <| all_cons (ob_no (by omega)) <| all_cons (propB_ok.mpr ⟨rfl, rfl, rfl, fun k hk => hb (4 * j + (0 + k)) (by omega)⟩) <| all_cons (slB_ok (by decide) (by omega)) <| all_cons (slA_ok (by decide) (by omega)) <| all_cons (ob_no (by omega)) <| all_cons rfl <| all_cons (ob_yes (by omega)) all_nil
theorem ls_end (R : Nat) (el : Nat → List Value) (N : Nat) (w0 : S2.Base) (hG : GlobB rdE w0) : SemA rdE w0 1 1 24 lsC (lsS R el N N) (some (some 0)) (lsS R el N N) :=
  semA_iter rdE_ok hG (p := { ts := [0, 2, 7, 9, 10], bs := [0], ls := [0, 1, 2] }) (fuel := 1000) [false] [(decide ((N : Int) < (N : Int)), false)] (by kernel_rfl) (by kernel_rfl) (all_cons (ob_no (by omega)) all_nil)
noncomputable def lsU (R : Nat) (el : Nat → List Value) (j : Nat) : S2.St := { tmps := [(6, .inl ([], .slice none 0 0))], own := ⟨[rdB 1 true], [restE R el, restE (R - 4 * j) (offL el (4 * j))]⟩, lo := 0, llo := 0, mem := true, orc := [], obl := [] }
noncomputable def lsW (R : Nat) (el : Nat → List Value) (j : Nat) : S2.St := { lsU R el j with own := ⟨[⟨[.c 1, .inl ([true], .bool (decide ((4 : Int) > ((R - 4 * j : Nat) : Int))))], 47, .cells⟩], [restE R el, restE (R - 4 * j) (offL el (4 * j))]⟩ }
theorem ls_out (R : Nat) (el : Nat → List Value) (N j : Nat) (hj : j < N) (hR : R - 4 * j < 4) (w0 : S2.Base) (hG : GlobB rdE w0) : SemA rdE w0 1 1 24 lsC (lsS R el N j) (some none) (lsU R el j) := by
  have h := semA_iter rdE_ok hG (nb := 1) (nl := 1) (p := { ts := [6], bs := [0], ls := [0, 1] }) (n := 24) (c := lsC) (s := lsS R el N j) (x := some none) (fuel := 1000) (s' := lsW R el j) [true, false, true, true]
    [(decide ((4 : Int) > ((R - 4 * j : Nat) : Int)), true), (pre (decide ((0 : Int) = 0)), true), (decide ((4 : Int) > ((R - 4 * j : Nat) : Int)), true), (false, false), (decide ((j : Int) < (N : Int)), true)]
    (by kernel_rfl) (by kernel_rfl) ?_
  · refine h.same rfl ?_ (sameL.refl _) rfl
    show [(⟨[.c 1, .inl ([true], .bool (decide ((4 : Int) > ((R - 4 * j : Nat) : Int))))], 47, .cells⟩ : S2.Blk)] = [rdB 1 true]
    rw [decide_eq_true (by omega)]; rfl
  · exact all_cons (ob_yes (by omega)) <| all_cons (by rfl) <| all_cons (ob_yes (by omega)) <| all_cons rfl <| all_cons (ob_yes (by omega)) all_nil
noncomputable def ls0 (R : Nat) (el : Nat → List Value) (N : Nat) : S2.St := { tmps := [(0, .inr (0, 0, none)), (2, lsF), (7, .c 2), (9, .inl ([true], .int .i64 N)), (10, .inl ([true], .int .i64 0))], own := ⟨[rdB 1 false], [restE R el, restE R el, lsA 0 el]⟩, lo := 0, llo := 0, mem := true, orc := [], obl := [] }
theorem ls_from {R : Nat} {el : Nat → List Value} {N : Nat} {w0 : S2.Base} {c : Code} {x : X} {s' : S2.St} (h : SemA rdE w0 1 1 24 c (lsS R el N 0) x s') : SemA rdE w0 1 1 24 c (ls0 R el N) x s' :=
  h.alike rfl rfl ⟨.refl _, ⟨rfl, rfl, by show R = R - 4 * 0; omega, rfl, rfl, fun i hi => by show el i = el (4 * 0 + i); congr 1; omega⟩, .refl _, trivial⟩ rfl
theorem ls_fit (R : Nat) (el : Nat → List Value) (N : Nat) (hN : N ≤ 100000000000) (hR : 4 * N ≤ R) (hb : isB R el) : SemF Try.prog (fun _ => none) 24 [.inr (0, 0, none), .inl ([true], .int .i64 N), lsF] ⟨[rdB 0 false], [restE R el]⟩ (.c 2) ⟨[rdB 1 false], [restE R el, restE (R - 4 * N) (offL el (4 * N)), lsA N el]⟩ :=
  fnS_ok (E := rdE) rdE_ok rfl (fuel := 1000) (d := 30) (plan := [⟨liPath, lsP el, some (some 0), lsS R el N N⟩]) (orc := []) (l := []) (tr := [⟨.loop lsC, ls0 R el N, some (some 0), lsS R el N N⟩]) (by kernel_rfl) (by kernel_rfl) all_nil Try.func24 fun w0 hG t ht => by
    obtain rfl := List.mem_singleton.mp ht
    exact ls_from (sem_loop (lsS R el N) N (by simp) (fun j hj => ls_step R el N j hN hj (by omega) hb w0 hG) (ls_end R el N w0 hG))
theorem ls_miss (R : Nat) (el : Nat → List Value) (N : Nat) (hN : N ≤ 100000000000) (hR : R < 4 * N) (hb : isB R el) : SemF Try.prog (fun _ => none) 24 [.inr (0, 0, none), .inl ([true], .int .i64 N), lsF] ⟨[rdB 0 false], [restE R el]⟩ (.inl ([], .slice none 0 0)) ⟨[rdB 1 true], [restE R el, restE (R - 4 * (R / 4)) (offL el (4 * (R / 4)))]⟩ :=
  fnS_ok (E := rdE) rdE_ok rfl (fuel := 1000) (d := 30) (plan := [⟨liPath, lsP el, some none, lsU R el (R / 4)⟩]) (orc := []) (l := []) (tr := [⟨.loop lsC, ls0 R el N, some none, lsU R el (R / 4)⟩]) (by kernel_rfl) (by kernel_rfl) all_nil Try.func24 fun w0 hG t ht => by
    obtain rfl := List.mem_singleton.mp ht
    exact ls_from (sem_loop (lsS R el N) (R / 4) (by simp) (fun j hj => ls_step R el N j hN (by omega) (by omega) hb w0 hG) (ls_out R el N (R / 4) (by omega) (by omega) w0 hG))
theorem ls_gone (R : Nat) (el : Nat → List Value) (N : Nat) : SemF Try.prog (fun _ => none) 24 [.inr (0, 0, none), .inl ([true], .int .i64 N), lsF] ⟨[rdB 0 true], [restE R el]⟩ (.inl ([], .slice none 0 0)) ⟨[rdB 0 true], [restE R el]⟩ := by
  by_cases h0 : 0 < N
  · refine semF_reblk (own' := ⟨[⟨[.c 0, .inl ([false], .bool true)], 47, .cells⟩], [restE R el]⟩) ?_ rfl (fun ν => rfl) rfl
    exact fnS_ok (E := rdE) rdE_ok rfl (fuel := 1000) (d := 30) (plan := []) (orc := [true, true, true, true]) (l := [(pre (decide ((0 : Int) = 0)), true), (true, true), (decide ((0 : Int) < (N : Int)), true)]) (tr := []) (by kernel_rfl) (by kernel_rfl) (by exact all_cons rfl <| all_cons rfl <| all_cons (ob_yes (by omega)) all_nil) Try.func24 fun w0 hG t ht => by cases ht
  · exact fnS_ok (E := rdE) rdE_ok rfl (fuel := 1000) (d := 30) (plan := []) (orc := [false]) (l := [(decide ((0 : Int) < (N : Int)), false)]) (tr := []) (by kernel_rfl) (by kernel_rfl) (all_cons (ob_no (by omega)) all_nil) Try.func24 fun w0 hG t ht => by cases ht
end Go.Proofs.Ytimgongaenpgkaa
