/- Contracts of the answers by definition for layer 8: images. -/
import Derived.Test.YtimgongaenpgkaaS2I
import Derived.Test.YtimgongaenpgkaaBytesL
namespace Go.Proofs.Ytimgongaenpgkaa
open Go.RowKit Sim S2
set_option linter.unusedVariables false
set_option linter.unusedSimpArgs false

noncomputable def env8 : S2.Env := envq Try.prog (fun _ => none) noT noP noL
theorem env8_ok : CallOk env8 := envq_ok (.none _ _) (.none _ _) (.none _ _)
/-! ### Images, as arguments -/
def w32L (o : Bool) (n : Nat) (c : Nat → Int) : LE := ⟨39, 1, n, fun i => [.int .u32 (c i)], o, false, true⟩
def intL (o : Bool) (n : Nat) (c : Nat → Int) : LE := ⟨3, 1, n, fun i => [.int .i64 (c i)], o, false, true⟩
/-- Code, data, entries. -/
structure Im where
  n : Nat
  m : Nat
  h : Nat
  c : Nat → Int
  d : Nat → Int
  e : Nat → Int
def imX (o : Bool) (i : Im) : XV := .st [.inr (w32L o i.n i.c), .inr (intL o i.m i.d), .inr (intL o i.h i.e)]
def imL (i : Im) : List LE := [w32L false i.n i.c, intL false i.m i.d, intL false i.h i.e]
/-- The struct in a cell of the call's own. -/
def imB : S2.Blk := ⟨[.c 0, .c 1, .c 2], 25, .cells⟩
/-- Which error an image has. -/
def badE (i : Im) (j : Nat) : Bool := decide (i.e j < 0 ∨ i.e j > (i.n : Int) - 1)
def imE (i : Im) : Int := if i.n > 262144 ∨ i.m > 4096 then 3 else if i.n < 1 ∨ i.h < 1 ∨ i.h > 8 then 2 else if (List.range i.h).any (badE i) then 2 else 0
noncomputable def rkS (i : Im) (j : Nat) : S2.St := { tmps := [(1, .inr (0, 0, none)), (3, .inl ([true], .int .i64 j))], own := ⟨[imB], imL i⟩, lo := 0, llo := 0, mem := true, orc := [], obl := [] }
def rkPath : List Nat := [0, 1, 0, 1, 1, 1]
noncomputable def rkC : Code := codeAt (codeOf Try.prog 7) (0 :: rkPath)
def rkP : Pick := { ts := [1, 3], bs := [0], ls := [0, 1, 2], opn := [3] }
theorem rk_step (i : Im) (hh : i.h ≤ 1000000000000) (hn : i.n ≤ 1000000000000) (j : Nat) (hj : j < i.h) (hb : badE i j = false) (w : World) : S2.Sem env8 w 55 rkC (rkS i j) none (rkS i (j + 1)) := by
  unfold badE at hb
  have hb := of_decide_eq_false hb
  have h := sem_iter env8_ok (GlobOk.none w) (w0 := w) (p := { ts := [1, 3], bs := [0], ls := [0, 1, 2] }) (n := 55) (c := rkC) (s := rkS i j) (x := none) (fuel := 1000) (s' := rkS i (j + 1)) [true, false, false]
    [(pre (inI ((j : Int) + 1)), true), (decide (i.e ((j : Int).toNat) > (i.n : Int) - 1), false), (pre (inI ((i.n : Int) - 1)), true), (pre (decide ((j : Int).toNat < i.h)), true), (pre (idxB (j : Int) i.h), true), (decide (i.e ((j : Int).toNat) < 0), false), (pre (decide ((j : Int).toNat < i.h)), true), (pre (idxB (j : Int) i.h), true), (decide ((j : Int) < i.h), true)]
    (by kernel_rfl) (by kernel_rfl) ?_
  · exact h
  · rw [Int.toNat_natCast]
    exact all_cons (ob_inI (by omega)) <| all_cons (ob_no (by omega)) <| all_cons (ob_inI (by omega)) <| all_cons (ob_lt hj) <| all_cons (ob_idx (by omega)) <| all_cons (ob_no (by omega)) <| all_cons (ob_lt hj) <| all_cons (ob_idx (by omega)) <| all_cons (ob_yes (by omega)) all_nil
theorem rk_end (i : Im) (w : World) : S2.Sem env8 w 55 rkC (rkS i i.h) (some (some 0)) (rkS i i.h) :=
  sem_iter env8_ok (GlobOk.none w) (p := { ts := [1, 3], bs := [0], ls := [0, 1, 2] }) (fuel := 1000) [false] [(decide ((i.h : Int) < i.h), false)] (by kernel_rfl) (by kernel_rfl) (all_cons (ob_no (by omega)) all_nil)
def rkR : S2.St := { tmps := [(2, .inl ([], .int .i64 2))], own := ⟨[], []⟩, lo := 0, llo := 0, mem := true, orc := [], obl := [] }
theorem rk_bad (i : Im) (hh : i.h ≤ 1000000000000) (hn : i.n ≤ 1000000000000) (j : Nat) (hj : j < i.h) (hb : badE i j = true) (w : World) : S2.Sem env8 w 55 rkC (rkS i j) (some none) rkR := by
  unfold badE at hb
  have hb := of_decide_eq_true hb
  by_cases h0 : i.e j < 0
  · refine sem_iter env8_ok (GlobOk.none w) (p := { ts := [2], bs := [], ls := [] }) (fuel := 1000) [true, true] [(decide (i.e ((j : Int).toNat) < 0), true), (pre (decide ((j : Int).toNat < i.h)), true), (pre (idxB (j : Int) i.h), true), (decide ((j : Int) < i.h), true)] (by kernel_rfl) (by kernel_rfl) ?_
    rw [Int.toNat_natCast]
    exact all_cons (ob_yes h0) <| all_cons (ob_lt hj) <| all_cons (ob_idx (by omega)) <| all_cons (ob_yes (by omega)) all_nil
  · refine sem_iter env8_ok (GlobOk.none w) (p := { ts := [2], bs := [], ls := [] }) (fuel := 1000) [true, false, true] [(decide (i.e ((j : Int).toNat) > (i.n : Int) - 1), true), (pre (inI ((i.n : Int) - 1)), true), (pre (decide ((j : Int).toNat < i.h)), true), (pre (idxB (j : Int) i.h), true), (decide (i.e ((j : Int).toNat) < 0), false), (pre (decide ((j : Int).toNat < i.h)), true), (pre (idxB (j : Int) i.h), true), (decide ((j : Int) < i.h), true)] (by kernel_rfl) (by kernel_rfl) ?_
    rw [Int.toNat_natCast]
    exact all_cons (ob_yes (by omega)) <| all_cons (ob_inI (by omega)) <| all_cons (ob_lt hj) <| all_cons (ob_idx (by omega)) <| all_cons (ob_no h0) <| all_cons (ob_lt hj) <| all_cons (ob_idx (by omega)) <| all_cons (ob_yes (by omega)) all_nil
theorem first_bad (f : Nat → Bool) : ∀ (h : Nat), (List.range h).any f = true → ∃ k, k < h ∧ f k = true ∧ ∀ j, j < k → f j = false
  | 0, hf => by simp at hf
  | h + 1, hf => by
    cases hp : (List.range h).any f
    · rw [List.range_succ, List.any_append, hp] at hf
      simp at hf
      refine ⟨h, by omega, hf, fun j hj => ?_⟩
      rw [List.any_eq_false] at hp
      simpa using hp j (List.mem_range.mpr hj)
    · obtain ⟨k, h1, h2, h3⟩ := first_bad f h hp
      exact ⟨k, by omega, h2, h3⟩
theorem refCheck_ret (o : Bool) (i : Im) (hn : i.n ≤ 1000000000000) (hm : i.m ≤ 1000000000000) (hh : i.h ≤ 1000000000000) (w : World) (vals : List Value) (ha : ArgsOk w [imX o i] vals) : LRet Try.prog 7 vals false [.inl (.int .i64 (imE i))] w := by
  have hG := GlobOk.none w
  unfold imE
  by_cases c1 : i.n > 262144
  · rw [if_pos (.inl c1)]
    exact fn_ok env8_ok (fuel := 1000) (d := 30) (plan := []) (orc := [true]) (fls := [[]]) (l := [(decide ((i.n : Int) > 262144), true)]) (tr := []) (by kernel_rfl) (all_cons (ob_yes (by omega)) all_nil) Try.func7 w vals hG ha fun t ht => by cases ht
  by_cases c2 : i.m > 4096
  · rw [if_pos (.inr c2)]
    exact fn_ok env8_ok (fuel := 1000) (d := 30) (plan := []) (orc := [false, true]) (fls := [[]]) (l := [(decide ((i.m : Int) > 4096), true), (decide ((i.n : Int) > 262144), false)]) (tr := []) (by kernel_rfl) (all_cons (ob_yes (by omega)) <| all_cons (ob_no (by omega)) all_nil) Try.func7 w vals hG ha fun t ht => by cases ht
  rw [if_neg (by omega)]
  by_cases c3 : i.n < 1
  · rw [if_pos (.inl c3)]
    exact fn_ok env8_ok (fuel := 1000) (d := 30) (plan := []) (orc := [false, false, true]) (fls := [[]]) (l := [(decide ((i.n : Int) < 1), true), (decide ((i.m : Int) > 4096), false), (decide ((i.n : Int) > 262144), false)]) (tr := []) (by kernel_rfl) (all_cons (ob_yes (by omega)) <| all_cons (ob_no (by omega)) <| all_cons (ob_no (by omega)) all_nil) Try.func7 w vals hG ha fun t ht => by cases ht
  by_cases c4 : i.h < 1
  · rw [if_pos (.inr (.inl c4))]
    exact fn_ok env8_ok (fuel := 1000) (d := 30) (plan := []) (orc := [false, false, false, true]) (fls := [[]]) (l := [(decide ((i.h : Int) < 1), true), (decide ((i.n : Int) < 1), false), (decide ((i.m : Int) > 4096), false), (decide ((i.n : Int) > 262144), false)]) (tr := []) (by kernel_rfl) (all_cons (ob_yes (by omega)) <| all_cons (ob_no (by omega)) <| all_cons (ob_no (by omega)) <| all_cons (ob_no (by omega)) all_nil) Try.func7 w vals hG ha fun t ht => by cases ht
  by_cases c5 : i.h > 8
  · rw [if_pos (.inr (.inr c5))]
    exact fn_ok env8_ok (fuel := 1000) (d := 30) (plan := []) (orc := [false, false, false, false, true]) (fls := [[]]) (l := [(decide ((i.h : Int) > 8), true), (decide ((i.h : Int) < 1), false), (decide ((i.n : Int) < 1), false), (decide ((i.m : Int) > 4096), false), (decide ((i.n : Int) > 262144), false)]) (tr := []) (by kernel_rfl) (all_cons (ob_yes (by omega)) <| all_cons (ob_no (by omega)) <| all_cons (ob_no (by omega)) <| all_cons (ob_no (by omega)) <| all_cons (ob_no (by omega)) all_nil) Try.func7 w vals hG ha fun t ht => by cases ht
  rw [if_neg (by omega)]
  have T := all_cons (ob_no (show ¬ (i.h : Int) > 8 by omega)) <| all_cons (ob_no (show ¬ (i.h : Int) < 1 by omega)) <| all_cons (ob_no (show ¬ (i.n : Int) < 1 by omega)) <| all_cons (ob_no (show ¬ (i.m : Int) > 4096 by omega)) <| all_cons (ob_no (show ¬ (i.n : Int) > 262144 by omega)) all_nil
  cases hb : (List.range i.h).any (badE i)
  · rw [if_neg (by simp)]
    refine fn_ok env8_ok (fuel := 1000) (d := 30) (plan := [⟨rkPath, rkP, some (some 0), rkS i i.h⟩]) (orc := [false, false, false, false, false]) (fls := [[]]) (tr := [⟨.loop rkC, rkS i 0, some (some 0), rkS i i.h⟩]) (by kernel_rfl) T Try.func7 w vals hG ha fun t ht => ?_
    obtain rfl := List.mem_singleton.mp ht
    rw [List.any_eq_false] at hb
    exact sem_loop (rkS i) i.h (by simp) (fun j hj => rk_step i hh hn j hj (by simpa using hb j (List.mem_range.mpr hj)) w) (rk_end i w)
  · rw [if_pos rfl]
    obtain ⟨k, hk, hbk, hpre⟩ := first_bad _ _ hb
    refine fn_ok env8_ok (fuel := 1000) (d := 30) (plan := [⟨rkPath, rkP, some none, rkR⟩]) (orc := [false, false, false, false, false]) (fls := [[]]) (tr := [⟨.loop rkC, rkS i 0, some none, rkR⟩]) (by kernel_rfl) T Try.func7 w vals hG ha fun t ht => ?_
    obtain rfl := List.mem_singleton.mp ht
    exact sem_loop (rkS i) k (by simp) (fun j hj => rk_step i hh hn j (by omega) (hpre j hj) w) (rk_bad i hh hn k hk hbk w)
/-- The bytes of an image. -/
noncomputable def imgZ0 (i : Im) (p : Nat) : Int :=
  if p < 4 then [83, 80, 73, 78].getD p 0 else if p < 8 then byteZ (IntKind.u64.wrap i.n) (p - 4) else if p < 12 then byteZ (IntKind.u64.wrap i.m) (p - 8) else if p < 16 then byteZ (IntKind.u64.wrap i.h) (p - 12)
  else if p < 16 + 4 * i.n then byteZ (IntKind.u64.wrap (i.c ((p - 16) / 4))) ((p - 16) % 4)
  else if p < 16 + 4 * i.n + 8 * i.m then byteZ (IntKind.u64.wrap (i.d ((p - 16 - 4 * i.n) / 8))) ((p - 16 - 4 * i.n) % 8)
  else byteZ (IntKind.u64.wrap (i.e ((p - 16 - 4 * i.n - 8 * i.m) / 4))) ((p - 16 - 4 * i.n - 8 * i.m) % 4)
theorem imgZ_ex : ∃ f : Im → Nat → Int, ∀ i p, f i p = imgZ0 i p := ⟨_, fun _ _ => rfl⟩
noncomputable def imgZ : Im → Nat → Int := Classical.choose imgZ_ex
theorem imgZ_eq (i : Im) (p : Nat) : imgZ i p = imgZ0 i p := Classical.choose_spec imgZ_ex i p
noncomputable def env8b : S2.Env := envq Try.prog (fun _ => none) noT noP lRefBytes
theorem env8b_ok : CallOk env8b := envq_ok (.none _ _) (.none _ _) lRefBytes_ok
noncomputable def byS (i : Im) (t n j : Nat) : S2.St := { tmps := [(1, .inr (0, 0, none)), (3, .c 3), (t, .inl ([true], .int .i64 j))], own := ⟨[imB], imL i ++ [bytesE n (imgZ i)]⟩, lo := 0, llo := 0, mem := true, orc := [], obl := [] }
def byP1 : Pick := { ts := [1, 3, 4], bs := [0], ls := [0, 1, 2, 8], opn := [4] }
def byP2 : Pick := { ts := [1, 3, 5], bs := [0], ls := [0, 1, 2, 3], opn := [5] }
def byP3 : Pick := { ts := [1, 3, 6], bs := [0], ls := [0, 1, 2, 3], opn := [6] }
def byPath1 : List Nat := [0, 1, 0, 1, 1, 1, 1, 1]
def byPath2 : List Nat := [0, 1, 0, 1, 1, 1, 1, 1, 1]
def byPath3 : List Nat := [0, 1, 0, 1, 1, 1, 1, 1, 1, 1]
noncomputable def byC (p : List Nat) : Code := codeAt (codeOf Try.prog 12) (0 :: p)
noncomputable def byT (i : Im) (t n j sz : Nat) (g : Nat → Int) : S2.St := { tmps := [(1, .inr (0, 0, none)), (3, .c 3), (t, .inl ([true], .int .i64 (j + 1 : Nat)))], own := ⟨[imB], imL i ++ [⟨5, 1, n + sz, joinE n (bytesE n (imgZ i)).el (bytesE sz g).el, true, false, true⟩]⟩, lo := 0, llo := 0, mem := true, orc := [], obl := [] }
theorem ob_u64 (x n : Int) (h0 : 0 ≤ n) (h1 : n ≤ 65536) : pre (decide (0 ≤ IntKind.u64.wrap x ∧ IntKind.u64.wrap x < 18446744073709551616 ∧ 0 ≤ n ∧ n ≤ 65536)) = true := by
  unfold pre
  refine decide_eq_true ?_
  rw [IntKind.wrap_u64]
  omega
theorem by_step1 (i : Im) (n j : Nat) (hj : j < i.n) (hc : i.n ≤ 1000000000) (hn : n ≤ 100000000000) (hg : ∀ k, k < 4 → byteZ (IntKind.u64.wrap (i.c j)) k = imgZ i (n + k)) (w : World) : S2.Sem env8b w 78 (byC byPath1) (byS i 4 n j) none (byS i 4 (n + 4) (j + 1)) := by
  have h := sem_iter env8b_ok (GlobOk.none w) (w0 := w) (p := { ts := [1, 3, 4], bs := [0], ls := [0, 1, 2, 5] }) (n := 78) (c := byC byPath1) (s := byS i 4 n j) (x := none) (fuel := 1000) (s' := byT i 4 n j 4 (byteZ (IntKind.u64.wrap (i.c ((j : Int).toNat))))) [true]
    [(pre (inI ((j : Int) + 1)), true), (pre (decide (n + 4 ≤ maxLen ∧ (n + 4) * 1 ≤ 140737488355328 ∧ 0 < 4)), true), (pre (decide (0 ≤ IntKind.u64.wrap (i.c ((j : Int).toNat)) ∧ IntKind.u64.wrap (i.c ((j : Int).toNat)) < 18446744073709551616 ∧ (0 : Int) ≤ 4 ∧ (4 : Int) ≤ 65536)), true), (pre (decide ((j : Int).toNat < i.n)), true), (pre (idxB (j : Int) i.n), true), (decide ((j : Int) < i.n), true)]
    (by kernel_rfl) (by kernel_rfl) ?_
  · rw [Int.toNat_natCast] at h
    exact h.same rfl rfl ⟨.refl _, .refl _, .refl _, ⟨rfl, rfl, rfl, rfl, rfl, joinE_many (m := 4) (fun k hk => by show [Value.int .u8 (byteZ (IntKind.u64.wrap (i.c j)) k)] = [Value.int .u8 (imgZ i (n + k))]; rw [hg k hk])⟩, trivial⟩ rfl
  · rw [Int.toNat_natCast]
    exact all_cons (ob_inI (by omega)) <| all_cons (ob_app (by omega) (by decide) (by decide)) <| all_cons (ob_u64 _ 4 (by decide) (by decide)) <| all_cons (ob_lt hj) <| all_cons (ob_idx (by omega)) <| all_cons (ob_yes (by omega)) all_nil
theorem by_end1 (i : Im) (n : Nat) (w : World) : S2.Sem env8b w 78 (byC byPath1) (byS i 4 n i.n) (some (some 0)) (byS i 4 n i.n) :=
  sem_iter env8b_ok (GlobOk.none w) (p := { ts := [1, 3, 4], bs := [0], ls := [0, 1, 2, 3] }) (fuel := 1000) [false] [(decide ((i.n : Int) < i.n), false)] (by kernel_rfl) (by kernel_rfl) (all_cons (ob_no (by omega)) all_nil)
theorem by_step2 (i : Im) (n j : Nat) (hj : j < i.m) (hc : i.m ≤ 1000000000) (hn : n ≤ 100000000000) (hg : ∀ k, k < 8 → byteZ (IntKind.u64.wrap (i.d j)) k = imgZ i (n + k)) (w : World) : S2.Sem env8b w 78 (byC byPath2) (byS i 5 n j) none (byS i 5 (n + 8) (j + 1)) := by
  have h := sem_iter env8b_ok (GlobOk.none w) (w0 := w) (p := { ts := [1, 3, 5], bs := [0], ls := [0, 1, 2, 5] }) (n := 78) (c := byC byPath2) (s := byS i 5 n j) (x := none) (fuel := 1000) (s' := byT i 5 n j 8 (byteZ (IntKind.u64.wrap (i.d ((j : Int).toNat))))) [true]
    [(pre (inI ((j : Int) + 1)), true), (pre (decide (n + 8 ≤ maxLen ∧ (n + 8) * 1 ≤ 140737488355328 ∧ 0 < 8)), true), (pre (decide (0 ≤ IntKind.u64.wrap (i.d ((j : Int).toNat)) ∧ IntKind.u64.wrap (i.d ((j : Int).toNat)) < 18446744073709551616 ∧ (0 : Int) ≤ 8 ∧ (8 : Int) ≤ 65536)), true), (pre (decide ((j : Int).toNat < i.m)), true), (pre (idxB (j : Int) i.m), true), (decide ((j : Int) < i.m), true)]
    (by kernel_rfl) (by kernel_rfl) ?_
  · rw [Int.toNat_natCast] at h
    exact h.same rfl rfl ⟨.refl _, .refl _, .refl _, ⟨rfl, rfl, rfl, rfl, rfl, joinE_many (m := 8) (fun k hk => by show [Value.int .u8 (byteZ (IntKind.u64.wrap (i.d j)) k)] = [Value.int .u8 (imgZ i (n + k))]; rw [hg k hk])⟩, trivial⟩ rfl
  · rw [Int.toNat_natCast]
    exact all_cons (ob_inI (by omega)) <| all_cons (ob_app (by omega) (by decide) (by decide)) <| all_cons (ob_u64 _ 8 (by decide) (by decide)) <| all_cons (ob_lt hj) <| all_cons (ob_idx (by omega)) <| all_cons (ob_yes (by omega)) all_nil
theorem by_end2 (i : Im) (n : Nat) (w : World) : S2.Sem env8b w 78 (byC byPath2) (byS i 5 n i.m) (some (some 2)) (byS i 5 n i.m) :=
  sem_iter env8b_ok (GlobOk.none w) (p := { ts := [1, 3, 5], bs := [0], ls := [0, 1, 2, 3] }) (fuel := 1000) [false] [(decide ((i.m : Int) < i.m), false)] (by kernel_rfl) (by kernel_rfl) (all_cons (ob_no (by omega)) all_nil)
theorem by_step3 (i : Im) (n j : Nat) (hj : j < i.h) (hc : i.h ≤ 1000000000) (hn : n ≤ 100000000000) (hg : ∀ k, k < 4 → byteZ (IntKind.u64.wrap (i.e j)) k = imgZ i (n + k)) (w : World) : S2.Sem env8b w 78 (byC byPath3) (byS i 6 n j) none (byS i 6 (n + 4) (j + 1)) := by
  have h := sem_iter env8b_ok (GlobOk.none w) (w0 := w) (p := { ts := [1, 3, 6], bs := [0], ls := [0, 1, 2, 5] }) (n := 78) (c := byC byPath3) (s := byS i 6 n j) (x := none) (fuel := 1000) (s' := byT i 6 n j 4 (byteZ (IntKind.u64.wrap (i.e ((j : Int).toNat))))) [true]
    [(pre (inI ((j : Int) + 1)), true), (pre (decide (n + 4 ≤ maxLen ∧ (n + 4) * 1 ≤ 140737488355328 ∧ 0 < 4)), true), (pre (decide (0 ≤ IntKind.u64.wrap (i.e ((j : Int).toNat)) ∧ IntKind.u64.wrap (i.e ((j : Int).toNat)) < 18446744073709551616 ∧ (0 : Int) ≤ 4 ∧ (4 : Int) ≤ 65536)), true), (pre (decide ((j : Int).toNat < i.h)), true), (pre (idxB (j : Int) i.h), true), (decide ((j : Int) < i.h), true)]
    (by kernel_rfl) (by kernel_rfl) ?_
  · rw [Int.toNat_natCast] at h
    exact h.same rfl rfl ⟨.refl _, .refl _, .refl _, ⟨rfl, rfl, rfl, rfl, rfl, joinE_many (m := 4) (fun k hk => by show [Value.int .u8 (byteZ (IntKind.u64.wrap (i.e j)) k)] = [Value.int .u8 (imgZ i (n + k))]; rw [hg k hk])⟩, trivial⟩ rfl
  · rw [Int.toNat_natCast]
    exact all_cons (ob_inI (by omega)) <| all_cons (ob_app (by omega) (by decide) (by decide)) <| all_cons (ob_u64 _ 4 (by decide) (by decide)) <| all_cons (ob_lt hj) <| all_cons (ob_idx (by omega)) <| all_cons (ob_yes (by omega)) all_nil
theorem by_end3 (i : Im) (n : Nat) (w : World) : S2.Sem env8b w 78 (byC byPath3) (byS i 6 n i.h) (some (some 4)) (byS i 6 n i.h) :=
  sem_iter env8b_ok (GlobOk.none w) (p := { ts := [1, 3, 6], bs := [0], ls := [0, 1, 2, 3] }) (fuel := 1000) [false] [(decide ((i.h : Int) < i.h), false)] (by kernel_rfl) (by kernel_rfl) (all_cons (ob_no (by omega)) all_nil)
theorem img_head (i : Im) (p : Nat) (hp : p < 4) : imgZ i p = [83, 80, 73, 78].getD p 0 := by rw [imgZ_eq]; unfold imgZ0; rw [if_pos hp]
theorem img_n (i : Im) (k : Nat) (hk : k < 4) : imgZ i (4 + k) = byteZ (IntKind.u64.wrap i.n) k := by
  rw [imgZ_eq]; unfold imgZ0
  rw [if_neg (by omega), if_pos (by omega), show 4 + k - 4 = k by omega]
theorem img_m (i : Im) (k : Nat) (hk : k < 4) : imgZ i (8 + k) = byteZ (IntKind.u64.wrap i.m) k := by
  rw [imgZ_eq]; unfold imgZ0
  rw [if_neg (by omega), if_neg (by omega), if_pos (by omega), show 8 + k - 8 = k by omega]
theorem img_h (i : Im) (k : Nat) (hk : k < 4) : imgZ i (12 + k) = byteZ (IntKind.u64.wrap i.h) k := by
  rw [imgZ_eq]; unfold imgZ0
  rw [if_neg (by omega), if_neg (by omega), if_neg (by omega), if_pos (by omega), show 12 + k - 12 = k by omega]
theorem img_c (i : Im) (j k : Nat) (hj : j < i.n) (hk : k < 4) : imgZ i (16 + 4 * j + k) = byteZ (IntKind.u64.wrap (i.c j)) k := by
  rw [imgZ_eq]; unfold imgZ0
  rw [if_neg (by omega), if_neg (by omega), if_neg (by omega), if_neg (by omega), if_pos (by omega), show (16 + 4 * j + k - 16) / 4 = j by omega, show (16 + 4 * j + k - 16) % 4 = k by omega]
theorem img_d (i : Im) (j k : Nat) (hj : j < i.m) (hk : k < 8) : imgZ i (16 + 4 * i.n + 8 * j + k) = byteZ (IntKind.u64.wrap (i.d j)) k := by
  rw [imgZ_eq]; unfold imgZ0
  rw [if_neg (by omega), if_neg (by omega), if_neg (by omega), if_neg (by omega), if_neg (by omega), if_pos (by omega), show (16 + 4 * i.n + 8 * j + k - 16 - 4 * i.n) / 8 = j by omega, show (16 + 4 * i.n + 8 * j + k - 16 - 4 * i.n) % 8 = k by omega]
theorem img_e (i : Im) (j k : Nat) (hk : k < 4) : imgZ i (16 + 4 * i.n + 8 * i.m + 4 * j + k) = byteZ (IntKind.u64.wrap (i.e j)) k := by
  rw [imgZ_eq]; unfold imgZ0
  rw [if_neg (by omega), if_neg (by omega), if_neg (by omega), if_neg (by omega), if_neg (by omega), if_neg (by omega), show (16 + 4 * i.n + 8 * i.m + 4 * j + k - 16 - 4 * i.n - 8 * i.m) / 4 = j by omega, show (16 + 4 * i.n + 8 * i.m + 4 * j + k - 16 - 4 * i.n - 8 * i.m) % 4 = k by omega]
theorem byS_eq (i : Im) (t j : Nat) {n n' : Nat} (h : n = n') : byS i t n j = byS i t n' j := by rw [h]
theorem by_loop1 (i : Im) (hn : i.n ≤ 1000000000) (w : World) : S2.Sem env8b w 78 (.loop (byC byPath1)) (byS i 4 (16 + 4 * 0) 0) (some (some 0)) (byS i 4 (16 + 4 * i.n) i.n) :=
  sem_loop (fun j => byS i 4 (16 + 4 * j) j) i.n (by simp) (fun j hj => by
    have h := by_step1 i (16 + 4 * j) j hj hn (by omega) (fun k hk => (img_c i j k hj hk).symm) w
    rw [byS_eq i 4 (j + 1) (show 16 + 4 * j + 4 = 16 + 4 * (j + 1) by omega)] at h
    exact h) (by_end1 i _ w)
theorem by_loop2 (i : Im) (hn : i.n ≤ 1000000000) (hm : i.m ≤ 1000000000) (w : World) : S2.Sem env8b w 78 (.loop (byC byPath2)) (byS i 5 (16 + 4 * i.n + 8 * 0) 0) (some (some 2)) (byS i 5 (16 + 4 * i.n + 8 * i.m) i.m) :=
  sem_loop (fun j => byS i 5 (16 + 4 * i.n + 8 * j) j) i.m (by simp) (fun j hj => by
    have h := by_step2 i (16 + 4 * i.n + 8 * j) j hj hm (by omega) (fun k hk => (img_d i j k hj hk).symm) w
    rw [byS_eq i 5 (j + 1) (show 16 + 4 * i.n + 8 * j + 8 = 16 + 4 * i.n + 8 * (j + 1) by omega)] at h
    exact h) (by_end2 i _ w)
theorem by_loop3 (i : Im) (hn : i.n ≤ 1000000000) (hm : i.m ≤ 1000000000) (hh : i.h ≤ 1000000000) (w : World) : S2.Sem env8b w 78 (.loop (byC byPath3)) (byS i 6 (16 + 4 * i.n + 8 * i.m + 4 * 0) 0) (some (some 4)) (byS i 6 (16 + 4 * i.n + 8 * i.m + 4 * i.h) i.h) :=
  sem_loop (fun j => byS i 6 (16 + 4 * i.n + 8 * i.m + 4 * j) j) i.h (by simp) (fun j hj => by
    have h := by_step3 i (16 + 4 * i.n + 8 * i.m + 4 * j) j hj hh (by omega) (fun k hk => (img_e i j k hk).symm) w
    rw [byS_eq i 6 (j + 1) (show 16 + 4 * i.n + 8 * i.m + 4 * j + 4 = 16 + 4 * i.n + 8 * i.m + 4 * (j + 1) by omega)] at h
    exact h) (by_end3 i _ w)
noncomputable def by0 (i : Im) : S2.St := { tmps := [(1, .inr (0, 0, none)), (3, .c 3), (4, .inl ([true], .int .i64 0))], own := ⟨[imB], imL i ++ [⟨5, 1, 16, joinE 12 (joinE 8 (joinE 4 (tabE (chunks 1 4 [.int .u8 83, .int .u8 80, .int .u8 73, .int .u8 78])) (bytesE 4 (byteZ (IntKind.u64.wrap i.n))).el) (bytesE 4 (byteZ (IntKind.u64.wrap i.m))).el) (bytesE 4 (byteZ (IntKind.u64.wrap i.h))).el, true, false, true⟩]⟩, lo := 0, llo := 0, mem := true, orc := [], obl := [] }
theorem by0_el (i : Im) : ∀ p, p < 16 → joinE 12 (joinE 8 (joinE 4 (tabE (chunks 1 4 [.int .u8 83, .int .u8 80, .int .u8 73, .int .u8 78])) (bytesE 4 (byteZ (IntKind.u64.wrap i.n))).el) (bytesE 4 (byteZ (IntKind.u64.wrap i.m))).el) (bytesE 4 (byteZ (IntKind.u64.wrap i.h))).el p = [Value.int .u8 (imgZ i p)] := by
  have h0 : ∀ p, p < 4 → tabE (chunks 1 4 [.int .u8 83, .int .u8 80, .int .u8 73, .int .u8 78]) p = [Value.int .u8 (imgZ i p)] := fun p hp => by
    rw [img_head i p hp]
    match p, hp with
    | 0, _ => rfl
    | 1, _ => rfl
    | 2, _ => rfl
    | 3, _ => rfl
    | p + 4, hp => exact absurd hp (by omega)
  have h1 : ∀ p, p < 4 + 4 → joinE 4 (tabE (chunks 1 4 [.int .u8 83, .int .u8 80, .int .u8 73, .int .u8 78])) (bytesE 4 (byteZ (IntKind.u64.wrap i.n))).el p = [Value.int .u8 (imgZ i p)] := fun p hp => by
    unfold joinE
    cases hb : Nat.blt p 4
    · have : ¬ p < 4 := by intro hc; rw [← Nat.blt_eq, hb] at hc; cases hc
      have e := img_n i (p - 4) (by omega)
      rw [show 4 + (p - 4) = p by omega] at e
      show [Value.int .u8 (byteZ (IntKind.u64.wrap i.n) (p - 4))] = _
      rw [e]
    · exact h0 p (by simpa [Nat.blt_eq] using hb)
  have h2 : ∀ p, p < 8 + 4 → joinE 8 (joinE 4 (tabE (chunks 1 4 [.int .u8 83, .int .u8 80, .int .u8 73, .int .u8 78])) (bytesE 4 (byteZ (IntKind.u64.wrap i.n))).el) (bytesE 4 (byteZ (IntKind.u64.wrap i.m))).el p = [Value.int .u8 (imgZ i p)] := fun p hp => by
    unfold joinE
    cases hb : Nat.blt p 8
    · have : ¬ p < 8 := by intro hc; rw [← Nat.blt_eq, hb] at hc; cases hc
      have e := img_m i (p - 8) (by omega)
      rw [show 8 + (p - 8) = p by omega] at e
      show [Value.int .u8 (byteZ (IntKind.u64.wrap i.m) (p - 8))] = _
      rw [e]
    · exact h1 p (by have : p < 8 := by simpa [Nat.blt_eq] using hb
                     omega)
  intro p hp
  unfold joinE
  cases hb : Nat.blt p 12
  · have : ¬ p < 12 := by intro hc; rw [← Nat.blt_eq, hb] at hc; cases hc
    have e := img_h i (p - 12) (by omega)
    rw [show 12 + (p - 12) = p by omega] at e
    show [Value.int .u8 (byteZ (IntKind.u64.wrap i.h) (p - 12))] = _
    rw [e]
  · exact h2 p (by have : p < 12 := by simpa [Nat.blt_eq] using hb
                   omega)
theorem refImgBytes_ret (o : Bool) (i : Im) (hn : i.n ≤ 1000000000) (hm : i.m ≤ 1000000000) (hh : i.h ≤ 1000000000) (w : World) (vals : List Value) (ha : ArgsOk w [imX o i] vals) :
    LRet Try.prog 12 vals false [.inr (bytesE (16 + 4 * i.n + 8 * i.m + 4 * i.h) (imgZ i))] w := by
  refine fn_ok env8b_ok (fuel := 1000) (d := 30) (plan := [⟨byPath1, byP1, some (some 0), byS i 4 (16 + 4 * i.n) i.n⟩, ⟨byPath2, byP2, some (some 2), byS i 5 (16 + 4 * i.n + 8 * i.m) i.m⟩, ⟨byPath3, byP3, some (some 4), byS i 6 (16 + 4 * i.n + 8 * i.m + 4 * i.h) i.h⟩]) (orc := []) (fls := [[]])
    (l := [(pre (decide (12 + 4 ≤ maxLen ∧ (12 + 4) * 1 ≤ 140737488355328 ∧ 0 < 4)), true), (pre (decide (0 ≤ IntKind.u64.wrap (i.h : Int) ∧ IntKind.u64.wrap (i.h : Int) < 18446744073709551616 ∧ (0 : Int) ≤ 4 ∧ (4 : Int) ≤ 65536)), true), (pre (decide (8 + 4 ≤ maxLen ∧ (8 + 4) * 1 ≤ 140737488355328 ∧ 0 < 4)), true), (pre (decide (0 ≤ IntKind.u64.wrap (i.m : Int) ∧ IntKind.u64.wrap (i.m : Int) < 18446744073709551616 ∧ (0 : Int) ≤ 4 ∧ (4 : Int) ≤ 65536)), true), (pre (decide (4 + 4 ≤ maxLen ∧ (4 + 4) * 1 ≤ 140737488355328 ∧ 0 < 4)), true), (pre (decide (0 ≤ IntKind.u64.wrap (i.n : Int) ∧ IntKind.u64.wrap (i.n : Int) < 18446744073709551616 ∧ (0 : Int) ≤ 4 ∧ (4 : Int) ≤ 65536)), true)])
    (tr := [⟨.loop (byC byPath1), by0 i, some (some 0), byS i 4 (16 + 4 * i.n) i.n⟩, ⟨.loop (byC byPath2), byS i 5 (16 + 4 * i.n + 8 * 0) 0, some (some 2), byS i 5 (16 + 4 * i.n + 8 * i.m) i.m⟩, ⟨.loop (byC byPath3), byS i 6 (16 + 4 * i.n + 8 * i.m + 4 * 0) 0, some (some 4), byS i 6 (16 + 4 * i.n + 8 * i.m + 4 * i.h) i.h⟩])
    (by kernel_rfl) (all_cons (ob_app (by decide) (by decide) (by decide)) <| all_cons (ob_u64 _ 4 (by decide) (by decide)) <| all_cons (ob_app (by decide) (by decide) (by decide)) <| all_cons (ob_u64 _ 4 (by decide) (by decide)) <| all_cons (ob_app (by decide) (by decide) (by decide)) <| all_cons (ob_u64 _ 4 (by decide) (by decide)) all_nil) Try.func12 w vals (GlobOk.none w) ha fun t ht => ?_
  rcases List.mem_cons.mp ht with rfl | ht
  · exact (by_loop1 i hn w).alike rfl rfl ⟨.refl _, .refl _, .refl _, ⟨rfl, rfl, rfl, rfl, rfl, fun p hp => by0_el i p hp⟩, trivial⟩ rfl
  rcases List.mem_cons.mp ht with rfl | ht
  · exact by_loop2 i hn hm w
  · obtain rfl := List.mem_singleton.mp ht
    exact by_loop3 i hn hm hh w
end Go.Proofs.Ytimgongaenpgkaa
