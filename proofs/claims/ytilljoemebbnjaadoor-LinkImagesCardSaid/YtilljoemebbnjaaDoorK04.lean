/- Ref08, Same08. -/
import Derived.Test.YtilljoemebbnjaaDoorS2I
import Derived.Test.YtilljoemebbnjaaDoorK03
import Derived.Test.YtilljoemebbnjaaDoorRef01
import Derived.Test.YtilljoemebbnjaaDoorRows
set_option linter.unusedVariables false
set_option linter.unusedSimpArgs false
namespace Go.Proofs.YtilljoemebbnjaaDoor
open Go.RowKit Sim S2
noncomputable def env8 : S2.Env := envq Tryd.prog (fun _ => none) noT noP noL
theorem env8_ok : CallOk env8 := envq_ok (.none _ _) (.none _ _) (.none _ _)
def w32L (o : Bool) (n : Nat) (c : Nat -> Int) : LE := ⟨47, 1, n, fun i => [.int .u32 (c i)], o, false, true⟩
def intL (o : Bool) (n : Nat) (c : Nat -> Int) : LE := ⟨3, 1, n, fun i => [.int .i64 (c i)], o, false, true⟩
structure Im where
 n : Nat
 m : Nat
 h : Nat
 c : Nat -> Int
 d : Nat -> Int
 e : Nat -> Int
def imX (o : Bool) (i : Im) : XV := .st [.inr (w32L o i.n i.c), .inr (intL o i.m i.d), .inr (intL o i.h i.e)]
def imLs (i : Im) : List LE := [w32L false i.n i.c, intL false i.m i.d, intL false i.h i.e]
def imB : S2.Blk := ⟨[.c 0, .c 1, .c 2], 30, .cells⟩
def badE (i : Im) (j : Nat) : Bool := decide (i.e j < 0 \/ i.e j > (i.n : Int) - 1)
def imE (i : Im) : Int := if i.n > 262144 \/ i.m > 4096 then 3 else if i.n < 1 \/ i.h < 1 \/ i.h > 8 then 2 else if (List.range i.h).any (badE i) then 2 else 0
def rkR : S2.St := { tmps := [(2, .inl ([], .int .i64 2))], own := ⟨[], []⟩, lo := 0, llo := 0, mem := true, orc := [], obl := [] }
theorem first_bad (f : Nat -> Bool) : ∀ (h : Nat), (List.range h).any f = true -> ∃ k, k < h /\ f k = true /\ ∀ j, j < k -> f j = false
 | 0, hf => by simp at hf
 | h + 1, hf => by
   cases hp : (List.range h).any f
   . rw [List.range_succ, List.any_append, hp] at hf
     simp at hf
     refine ⟨h, by omega, hf, fun j hj => ?_⟩
     rw [List.any_eq_false] at hp
     simpa using hp j (List.mem_range.mpr hj)
   . obtain ⟨k, h1, h2, h3⟩ := first_bad f h hp
     exact ⟨k, by omega, h2, h3⟩
noncomputable def rkS (i : Im) (j : Nat) : S2.St := { tmps := [(1, .inr (0, 0, none)), (3, .inl ([true], .int .i64 j))], own := ⟨[imB], imLs i⟩, lo := 0, llo := 0, mem := true, orc := [], obl := [] }
def rkPath : List Nat := [0, 1, 0, 1, 1, 1]
noncomputable def rkC : Code := codeAt (codeOf Tryd.prog 12) (0 :: rkPath)
def rkP : Pick := { ts := [1, 3], bs := [0], ls := [0, 1, 2], opn := [3] }
theorem rk_step (i : Im) (hh : i.h <= 1000000000000) (hn : i.n <= 1000000000000) (j : Nat) (hj : j < i.h) (hb : badE i j = false) (w : World) : S2.Sem env8 w 55 rkC (rkS i j) none (rkS i (j + 1)) := by
 unfold badE at hb
 have hb := of_decide_eq_false hb
 have h := sem_iter env8_ok (GlobOk.none w) (w0 := w) (p := { ts := [1, 3], bs := [0], ls := [0, 1, 2] }) (n := 55) (c := rkC) (s := rkS i j) (x := none) (fuel := 1000) (s' := rkS i (j + 1)) [true, false, false]
   [(pre (inI ((j : Int) + 1)), true), (decide (i.e ((j : Int).toNat) > (i.n : Int) - 1), false), (pre (inI ((i.n : Int) - 1)), true), (pre (decide ((j : Int).toNat < i.h)), true), (pre (idxB (j : Int) i.h), true), (decide (i.e ((j : Int).toNat) < 0), false), (pre (decide ((j : Int).toNat < i.h)), true), (pre (idxB (j : Int) i.h), true), (decide ((j : Int) < i.h), true)]
   (by kernel_rfl) (by kernel_rfl) ?_
 . exact h
 . rw [qN]
   exact qA (ob_inI (by omega)) <| qA (ob_no (by omega)) <| qA (ob_inI (by omega)) <| qA (ob_lt hj) <| qA (ob_idx (by omega)) <| qA (ob_no (by omega)) <| qA (ob_lt hj) <| qA (ob_idx (by omega)) <| qA (ob_yes (by omega)) qZ
theorem rk_end (i : Im) (w : World) : S2.Sem env8 w 55 rkC (rkS i i.h) (some (some 0)) (rkS i i.h) :=
 sem_iter env8_ok (GlobOk.none w) (p := { ts := [1, 3], bs := [0], ls := [0, 1, 2] }) (fuel := 1000) [false] [(decide ((i.h : Int) < i.h), false)] (by kernel_rfl) (by kernel_rfl) (qA (ob_no (by omega)) qZ)
theorem rk_bad (i : Im) (hh : i.h <= 1000000000000) (hn : i.n <= 1000000000000) (j : Nat) (hj : j < i.h) (hb : badE i j = true) (w : World) : S2.Sem env8 w 55 rkC (rkS i j) (some none) rkR := by
 unfold badE at hb
 have hb := of_decide_eq_true hb
 by_cases h0 : i.e j < 0
 . refine sem_iter env8_ok (GlobOk.none w) (p := { ts := [2], bs := [], ls := [] }) (fuel := 1000) [true, true] [(decide (i.e ((j : Int).toNat) < 0), true), (pre (decide ((j : Int).toNat < i.h)), true), (pre (idxB (j : Int) i.h), true), (decide ((j : Int) < i.h), true)] (by kernel_rfl) (by kernel_rfl) ?_
   rw [qN]
   exact qA (ob_yes h0) <| qA (ob_lt hj) <| qA (ob_idx (by omega)) <| qA (ob_yes (by omega)) qZ
 . refine sem_iter env8_ok (GlobOk.none w) (p := { ts := [2], bs := [], ls := [] }) (fuel := 1000) [true, false, true] [(decide (i.e ((j : Int).toNat) > (i.n : Int) - 1), true), (pre (inI ((i.n : Int) - 1)), true), (pre (decide ((j : Int).toNat < i.h)), true), (pre (idxB (j : Int) i.h), true), (decide (i.e ((j : Int).toNat) < 0), false), (pre (decide ((j : Int).toNat < i.h)), true), (pre (idxB (j : Int) i.h), true), (decide ((j : Int) < i.h), true)] (by kernel_rfl) (by kernel_rfl) ?_
   rw [qN]
   exact qA (ob_yes (by omega)) <| qA (ob_inI (by omega)) <| qA (ob_lt hj) <| qA (ob_idx (by omega)) <| qA (ob_no h0) <| qA (ob_lt hj) <| qA (ob_idx (by omega)) <| qA (ob_yes (by omega)) qZ
theorem refCheck_ret (o : Bool) (i : Im) (hn : i.n <= 1000000000000) (hm : i.m <= 1000000000000) (hh : i.h <= 1000000000000) (w : World) (vals : List Value) (ha : ArgsOk w [imX o i] vals) : LRet Tryd.prog 12 vals false [.inl (.int .i64 (imE i))] w := by
 have hG := GlobOk.none w
 unfold imE
 by_cases c1 : i.n > 262144
 . rw [if_pos (.inl c1)]
   exact fn_ok env8_ok (fuel := 1000) (d := 30) (plan := []) (orc := [true]) (fls := [[]]) (l := [(decide ((i.n : Int) > 262144), true)]) (tr := []) (by kernel_rfl) (qA (ob_yes (by omega)) qZ) Tryd.func12 w vals hG ha fun t ht => by cases ht
 by_cases c2 : i.m > 4096
 . rw [if_pos (.inr c2)]
   exact fn_ok env8_ok (fuel := 1000) (d := 30) (plan := []) (orc := [false, true]) (fls := [[]]) (l := [(decide ((i.m : Int) > 4096), true), (decide ((i.n : Int) > 262144), false)]) (tr := []) (by kernel_rfl) (qA (ob_yes (by omega)) <| qA (ob_no (by omega)) qZ) Tryd.func12 w vals hG ha fun t ht => by cases ht
 rw [if_neg (by omega)]
 by_cases c3 : i.n < 1
 . rw [if_pos (.inl c3)]
   exact fn_ok env8_ok (fuel := 1000) (d := 30) (plan := []) (orc := [false, false, true]) (fls := [[]]) (l := [(decide ((i.n : Int) < 1), true), (decide ((i.m : Int) > 4096), false), (decide ((i.n : Int) > 262144), false)]) (tr := []) (by kernel_rfl) (qA (ob_yes (by omega)) <| qA (ob_no (by omega)) <| qA (ob_no (by omega)) qZ) Tryd.func12 w vals hG ha fun t ht => by cases ht
 by_cases c4 : i.h < 1
 . rw [if_pos (.inr (.inl c4))]
   exact fn_ok env8_ok (fuel := 1000) (d := 30) (plan := []) (orc := [false, false, false, true]) (fls := [[]]) (l := [(decide ((i.h : Int) < 1), true), (decide ((i.n : Int) < 1), false), (decide ((i.m : Int) > 4096), false), (decide ((i.n : Int) > 262144), false)]) (tr := []) (by kernel_rfl) (qA (ob_yes (by omega)) <| qA (ob_no (by omega)) <| qA (ob_no (by omega)) <| qA (ob_no (by omega)) qZ) Tryd.func12 w vals hG ha fun t ht => by cases ht
 by_cases c5 : i.h > 8
 . rw [if_pos (.inr (.inr c5))]
   exact fn_ok env8_ok (fuel := 1000) (d := 30) (plan := []) (orc := [false, false, false, false, true]) (fls := [[]]) (l := [(decide ((i.h : Int) > 8), true), (decide ((i.h : Int) < 1), false), (decide ((i.n : Int) < 1), false), (decide ((i.m : Int) > 4096), false), (decide ((i.n : Int) > 262144), false)]) (tr := []) (by kernel_rfl) (qA (ob_yes (by omega)) <| qA (ob_no (by omega)) <| qA (ob_no (by omega)) <| qA (ob_no (by omega)) <| qA (ob_no (by omega)) qZ) Tryd.func12 w vals hG ha fun t ht => by cases ht
 rw [if_neg (by omega)]
 have T := qA (ob_no (show ¬ (i.h : Int) > 8 by omega)) <| qA (ob_no (show ¬ (i.h : Int) < 1 by omega)) <| qA (ob_no (show ¬ (i.n : Int) < 1 by omega)) <| qA (ob_no (show ¬ (i.m : Int) > 4096 by omega)) <| qA (ob_no (show ¬ (i.n : Int) > 262144 by omega)) qZ
 cases hb : (List.range i.h).any (badE i)
 . rw [if_neg (by simp)]
   refine fn_ok env8_ok (fuel := 1000) (d := 30) (plan := [⟨rkPath, rkP, some (some 0), rkS i i.h⟩]) (orc := [false, false, false, false, false]) (fls := [[]]) (tr := [⟨.loop rkC, rkS i 0, some (some 0), rkS i i.h⟩]) (by kernel_rfl) T Tryd.func12 w vals hG ha fun t ht => ?_
   obtain rfl := List.mem_singleton.mp ht
   rw [List.any_eq_false] at hb
   exact sem_loop (rkS i) i.h (by simp) (fun j hj => rk_step i hh hn j hj (by simpa using hb j (List.mem_range.mpr hj)) w) (rk_end i w)
 . rw [if_pos rfl]
   obtain ⟨k, hk, hbk, hpre⟩ := first_bad _ _ hb
   refine fn_ok env8_ok (fuel := 1000) (d := 30) (plan := [⟨rkPath, rkP, some none, rkR⟩]) (orc := [false, false, false, false, false]) (fls := [[]]) (tr := [⟨.loop rkC, rkS i 0, some none, rkR⟩]) (by kernel_rfl) T Tryd.func12 w vals hG ha fun t ht => ?_
   obtain rfl := List.mem_singleton.mp ht
   exact sem_loop (rkS i) k (by simp) (fun j hj => rk_step i hh hn j (by omega) (hpre j hj) w) (rk_bad i hh hn k hk hbk w)
end Go.Proofs.YtilljoemebbnjaaDoor
namespace Go.Proofs.YtilljoemebbnjaaDoor
open Go.RowKit Sim S2
def sameInts (e e' : LE) : Prop := e.size = 1 /\ e'.size = 1 /\ e.n = e'.n /\ e.n <= 1000000000000 /\ ∃ g : Nat -> Int, ∀ j, j < e.n -> e.el j = [.int .i64 (g j)] /\ e'.el j = [.int .i64 (g j)]
theorem rdI_of {B : Nat} {w : World} {e : LE} {v : Value} {xs : List Int} (h : InB B w e v) (h1 : e.size = 1) (h2 : e.n = xs.length) (h3 : ∀ i, i < xs.length -> e.el i = [.int .i64 (xs.getD i 0)]) : RdI .i64 w B v xs := by
 obtain ⟨_, a, cap, hv, _, hc⟩ := h
 refine ⟨a, cap, by rw [<- h2]; exact hv, fun hp => ?_⟩
 obtain ⟨b, off, ha, hb, hcell⟩ := hc (by omega)
 refine ⟨b, off, ha, hb, fun i hi => ?_⟩
 have := hcell i (by omega) 0 (.int .i64 (xs.getD i 0)) (by rw [h3 i hi]; rfl)
 rw [h1, Nat.mul_one, Nat.add_zero] at this
 exact this
noncomputable def lRefInts : LTab := lrow 11 fun args => match args with
 | [.inr e, .inr e'] => some (false, [.inl (.bool true)], pre (propB (sameInts e e')))
 | _ => none
theorem lRefInts_ok {gl : Nat -> Option (List Value)} : LTabOk Tryd.prog gl lRefInts := .row fun args tup res h w vals hG ha => by
 split at h
 . rename_i e e'
   simp only [qS, qP] at h
   obtain ⟨rfl, rfl, hp⟩ := h
   obtain ⟨h1, h2, h3, h4, g, h5⟩ := propB_ok.mp hp
   cases vals with
   | nil => exact ha.elim
   | cons u r =>
     cases r with
     | nil => exact ha.2.elim
     | cons v r =>
       cases r with
       | cons _ _ => exact ha.2.2.elim
       | nil =>
         have hl : ((List.range e.n).map g).length = e.n := by simp
         have hg : ∀ i, i < e.n -> ((List.range e.n).map g).getD i 0 = g i := fun i hi => by
           rw [List.getD_eq_getElem?_getD, List.getElem?_map, List.getElem?_range hi]; rfl
         have r1 := rdI_of (xs := (List.range e.n).map g) ha.1 h1 hl.symm (fun i hi => by rw [hl] at hi; rw [hg i hi]; exact (h5 i hi).1)
         have r2 := rdI_of (xs := (List.range e.n).map g) ha.2.1 h2 (by rw [hl]; exact h3.symm) (fun i hi => by rw [hl] at hi; rw [hg i hi]; exact (h5 i hi).2)
         exact (refInts_yes (by rw [hl]; omega) r1 r2).mono fun e w' ⟨he, m, hm⟩ => ⟨[.bool true], he, outOk_val _ _ _, hm ▸ below_draws (Below.refl _ _) m⟩
 . cases h
noncomputable def env8s : S2.Env := envq Tryd.prog (fun _ => none) noT noP lRefInts
theorem env8s_ok : CallOk env8s := envq_ok (.none _ _) (.none _ _) lRefInts_ok
def imB2 : S2.Blk := ⟨[.c 3, .c 4, .c 5], 30, .cells⟩
def smS (i k : Im) (j : Nat) : S2.St := { tmps := [(2, .inr (0, 0, none)), (3, .inr (1, 0, none)), (5, .inl ([true], .int .i64 j))], own := ⟨[imB, imB2], imLs i ++ imLs k⟩, lo := 0, llo := 0, mem := true, orc := [], obl := [] }
def smP : Pick := { ts := [2, 3, 5], bs := [0, 1], ls := [0, 1, 2, 3, 4, 5], opn := [5] }
def smPath : List Nat := [0, 1, 0, 1, 1]
noncomputable def smC : Code := codeAt (codeOf Tryd.prog 10) (0 :: smPath)
structure ImSame (i k : Im) : Prop where
 n : i.n = k.n
 m : i.m = k.m
 h : i.h = k.h
 c : ∀ j, j < i.n -> i.c j = k.c j
 d : ∀ j, j < i.m -> i.d j = k.d j
 e : ∀ j, j < i.h -> i.e j = k.e j
theorem sm_step (i k : Im) (h : ImSame i k) (hn : i.n <= 1000000000) (j : Nat) (hj : j < i.n) (w : World) : S2.Sem env8s w 47 smC (smS i k j) none (smS i k (j + 1)) := by
 refine sem_iter env8s_ok (GlobOk.none w) (p := { ts := [2, 3, 5], bs := [0, 1], ls := [0, 1, 2, 3, 4, 5] }) (fuel := 1000) [true, false]
   [(pre (inI ((j : Int) + 1)), true), (i.c ((j : Int).toNat) != k.c ((j : Int).toNat), false), (pre (decide ((j : Int).toNat < k.n)), true), (pre (idxB (j : Int) k.n), true), (pre (decide ((j : Int).toNat < i.n)), true), (pre (idxB (j : Int) i.n), true), (decide ((j : Int) < i.n), true)]
   (by kernel_rfl) (by kernel_rfl) ?_
 rw [qN]
 have h1 := h.n
 exact qA (ob_inI (by omega)) <| qA (by rw [h.c j hj]; simp) <| qA (ob_lt (by omega)) <| qA (ob_idx (by omega)) <| qA (ob_lt hj) <| qA (ob_idx (by omega)) <| qA (ob_yes (by omega)) qZ
theorem sm_end (i k : Im) (w : World) : S2.Sem env8s w 47 smC (smS i k i.n) (some (some 0)) (smS i k i.n) :=
 sem_iter env8s_ok (GlobOk.none w) (p := { ts := [2, 3, 5], bs := [0, 1], ls := [0, 1, 2, 3, 4, 5] }) (fuel := 1000) [false] [(decide ((i.n : Int) < i.n), false)] (by kernel_rfl) (by kernel_rfl) (qA (ob_no (by omega)) qZ)
theorem refSameIm_ret (o o' : Bool) (i k : Im) (h : ImSame i k) (hn : i.n <= 1000000000) (hm : i.m <= 1000000000) (hh : i.h <= 1000000000) (w : World) (vals : List Value) (ha : ArgsOk w [imX o i, imX o' k] vals) : LRet Tryd.prog 10 vals false [.inl (.bool true)] w := by
 have d : pre (propB (sameInts (intL false i.m i.d) (intL false k.m k.d))) = true := propB_ok.mpr ⟨rfl, rfl, h.m, by show i.m <= _; omega, i.d, fun j hj => ⟨rfl, by show [Value.int .i64 (k.d j)] = _; rw [h.d j hj]⟩⟩
 have e : pre (propB (sameInts (intL false i.h i.e) (intL false k.h k.e))) = true := propB_ok.mpr ⟨rfl, rfl, h.h, by show i.h <= _; omega, i.e, fun j hj => ⟨rfl, by show [Value.int .i64 (k.e j)] = _; rw [h.e j hj]⟩⟩
 have c : ((i.n : Int) != (k.n : Int)) = false := by rw [h.n]; simp
 refine fn_ok env8s_ok (fuel := 1000) (d := 30) (plan := [⟨smPath, smP, some (some 0), smS i k i.n⟩]) (orc := [false, false, false]) (fls := [[], []])
   (l := [(false, false), (pre (propB (sameInts (intL false i.h i.e) (intL false k.h k.e))), true), (false, false), (pre (propB (sameInts (intL false i.m i.d) (intL false k.m k.d))), true), ((i.n : Int) != (k.n : Int), false)])
   (tr := [⟨.loop smC, smS i k 0, some (some 0), smS i k i.n⟩]) (by kernel_rfl) (qA rfl <| qA e <| qA rfl <| qA d <| qA c qZ) Tryd.func10 w vals (GlobOk.none w) ha fun t ht => ?_
 obtain rfl := List.mem_singleton.mp ht
 exact sem_loop (smS i k) i.n (by simp) (fun j hj => sm_step i k h hn j hj w) (sm_end i k w)
def isIm (i : Im) (cs : List (Sum Value LE)) : Prop := ∃ a b c, cs = [.inr a, .inr b, .inr c] /\ { a with own := false } = w32L false i.n i.c /\ { b with own := false } = intL false i.m i.d /\ { c with own := false } = intL false i.h i.e
def smallIm (i : Im) : Prop := i.n <= 1000000000 /\ i.m <= 1000000000 /\ i.h <= 1000000000
theorem inB_own {B : Nat} {w : World} {e : LE} {v : Value} {e' : LE} (h : InB B w e v) (he : { e with own := false } = e') : InB B w e' v := by
 subst he
 exact h
theorem isIm_args {i : Im} {cs : List (Sum Value LE)} (h : isIm i cs) {w : World} {us : List Value} (hc : CellsOk w cs us) : ∃ u0 u1 u2, us = [u0, u1, u2] /\ InB w.heap.size w (w32L false i.n i.c) u0 /\ InB w.heap.size w (intL false i.m i.d) u1 /\ InB w.heap.size w (intL false i.h i.e) u2 := by
 obtain ⟨a, b, c, rfl, h0, h1, h2⟩ := h
 match us, hc with
 | [u0, u1, u2], hc => exact ⟨u0, u1, u2, rfl, inB_own hc.1 h0, inB_own hc.2.1 h1, inB_own hc.2.2.1 h2⟩
theorem isIm_ok {i : Im} {cs : List (Sum Value LE)} (h : isIm i cs) {w : World} {r : List XV} {vals : List Value} (ha : ArgsOk w (.st cs :: r) vals) : ∃ v vs, vals = v :: vs /\ ArgsOk w [imX false i] [v] /\ ArgsOk w r vs := by
 cases vals with
 | nil => exact ha.elim
 | cons v vs =>
   obtain ⟨⟨us, rfl, hc⟩, hr⟩ := ha
   obtain ⟨u0, u1, u2, rfl, g0, g1, g2⟩ := isIm_args h hc
   exact ⟨_, vs, rfl, ⟨⟨[u0, u1, u2], rfl, g0, g1, g2, trivial⟩, trivial⟩, hr⟩
theorem args_nil {w : World} {vs : List Value} (h : ArgsOk w [] vs) : vs = [] := by cases vs <;> first | rfl | exact h.elim
noncomputable def lRefCheck (i : Im) : LTab := lrow 12 fun args => match args with
 | [.st cs] => some (false, [.inl (.int .i64 (imE i))], pre (propB (isIm i cs /\ smallIm i)))
 | _ => none
theorem lRefCheck_ok {gl : Nat -> Option (List Value)} (i : Im) : LTabOk Tryd.prog gl (lRefCheck i) := .row fun args tup res h w vals hG ha => by
 split at h
 . rename_i cs
   simp only [qS, qP] at h
   obtain ⟨rfl, rfl, hp⟩ := h
   obtain ⟨h1, h2, h3, h4⟩ := propB_ok.mp hp
   obtain ⟨v, vs, rfl, g1, g2⟩ := isIm_ok h1 ha
   obtain rfl := args_nil g2
   exact refCheck_ret false i (by omega) (by omega) (by omega) w [v] g1
 . cases h
noncomputable def lRefSameIm (i k : Im) : LTab := lrow 10 fun args => match args with
 | [.st cs, .st ds] => some (false, [.inl (.bool true)], pre (propB (isIm i cs /\ isIm k ds /\ ImSame i k /\ smallIm i)))
 | _ => none
theorem lRefSameIm_ok {gl : Nat -> Option (List Value)} (i k : Im) : LTabOk Tryd.prog gl (lRefSameIm i k) := .row fun args tup res h w vals hG ha => by
 split at h
 . rename_i cs ds
   simp only [qS, qP] at h
   obtain ⟨rfl, rfl, hp⟩ := h
   obtain ⟨h1, h0, hs, h2, h3, h4⟩ := propB_ok.mp hp
   obtain ⟨v, vs, rfl, g1, g2⟩ := isIm_ok h1 ha
   obtain ⟨v', vs', rfl, g3, g4⟩ := isIm_ok h0 g2
   obtain rfl := args_nil g4
   exact refSameIm_ret false false i k hs h2 h3 h4 w [v, v'] ⟨g1.1, g3.1, trivial⟩
 . cases h
end Go.Proofs.YtilljoemebbnjaaDoor
