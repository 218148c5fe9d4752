/- Wide10, Law10, Lays10, Leads10. -/
import Derived.Test.YtilljoemebbnjaaDoorK07
import Derived.Test.YtilljoemebbnjaaDoorLay10
set_option linter.unusedVariables false
set_option linter.unusedSimpArgs false
namespace Go.Proofs.YtilljoemebbnjaaDoor
open Go.RowKit Sim S2
theorem LRet.sameL1 {P : Program} {f : FuncId} {vals : List Value} {e e' : LE} {w : World} (h : LRet P f vals false [.inr e] w) (hs : sameE e e') : LRet P f vals false [.inr e'] w := h.mono fun r w' ⟨vs, h1, h2, h3⟩ => by
 obtain ⟨u, rfl, h4⟩ := outOk_l h2
 exact ⟨[u], h1, outOk_one (h4.same hs), h3⟩
end Go.Proofs.YtilljoemebbnjaaDoor
namespace Go.Proofs.YtilljoemebbnjaaDoor
open Go.RowKit Sim S2
def tOpP : Tab := row 86 decI fun x => .int .i64 (oppZ x)
theorem ne_self10 (x : Int) : (x != x) = false := by simp
end Go.Proofs.YtilljoemebbnjaaDoor
namespace Go.Proofs.YtilljoemebbnjaaDoor
open Go.RowKit Sim S2
def inI10 (n : Nat) (g : Nat -> Int) : LE := ⟨3, 1, n, fun j => [.int .i64 (g j)], false, false, true⟩
noncomputable def envI10 : S2.Env := envk Tryd.prog (fun _ => none) true noT noP noL
theorem envI10_ok : CallOk envI10 := envk_ok (nw := true) (.none _ _) (.none _ _) (.none _ _)
def itS10 (n : Nat) (g : Nat -> Int) (i : Nat) : S2.St := { tmps := [(0, .c 0), (1, .c 1), (5, .inl ([true], .int .i64 i))], own := ⟨[], [inI10 n g, inI10 n g]⟩, lo := 0, llo := 0, mem := true, orc := [], obl := [] }
def itQ10 : Pick := { ts := [0, 1, 5], bs := [], ls := [0, 1], opn := [5] }
def itP10 : List Nat := [0, 1, 0, 1, 1]
noncomputable def itC10 : Code := codeAt (codeOf Tryd.prog 11) (0 :: itP10)
theorem it_0 (n : Nat) (g : Nat -> Int) (i : Nat) (hi : i < n) (hn : n <= 1000000000) (w : World) : S2.Sem envI10 w 26 itC10 (itS10 n g i) none (itS10 n g (i + 1)) := by
 refine sem_iter envI10_ok (GlobOk.none w) (p := itQ10) (fuel := 1000) [true, false] [(pre (S2.inI ((i : Int) + 1)), true), (g ((i : Int)).toNat != g ((i : Int)).toNat, false), (pre (decide (((i : Int)).toNat < n)), true), (pre (idxB ((i : Int)) n), true), (pre (decide (((i : Int)).toNat < n)), true), (pre (idxB ((i : Int)) n), true), (decide ((i : Int) < (n : Int)), true)] (by kernel_rfl) (by kernel_rfl) ?_
 try simp only [qN]
 refine qF ?_ ?_ ?_ ?_ <| qA ?_ <| qA ?_ <| qA ?_ <| qZ
 . exact ob_inI (by omega)
 . exact ne_self10 _
 . exact ob_lt (by omega)
 . exact ob_idx (by omega)
 . exact ob_lt (by omega)
 . exact ob_idx (by omega)
 . exact ob_yes (by omega)
theorem it_1 (n : Nat) (g : Nat -> Int) (w : World) : S2.Sem envI10 w 26 itC10 (itS10 n g n) (some (some 0)) (itS10 n g n) := by
 refine sem_iter envI10_ok (GlobOk.none w) (p := itQ10) (fuel := 1000) [false] [(decide ((n : Int) < (n : Int)), false)] (by kernel_rfl) (by kernel_rfl) ?_
 try simp only [qN]
 refine qA ?_ <| qZ
 . exact ob_no (by omega)
theorem ints10_ret (n : Nat) (g : Nat -> Int) (hn : n <= 1000000000) (w : World) (vals : List Value) (ha : ArgsOk w [.inr (inI10 n g), .inr (inI10 n g)] vals) : LRet Tryd.prog 11 vals false [.inl (.bool true)] w := by
 refine fn_ok envI10_ok (fuel := 1000) (d := 30) (plan := [⟨itP10, itQ10, some (some 0), itS10 n g n⟩]) (orc := [false]) (fls := [[], []]) (l := [(((n : Int) != (n : Int)), false)]) (tr := [⟨.loop itC10, itS10 n g 0, some (some 0), itS10 n g n⟩]) (by kernel_rfl) (qA (ne_self10 _) qZ) Tryd.func11 w vals (GlobOk.none w) ha fun t ht => ?_
 obtain rfl := List.mem_singleton.mp ht
 exact sem_loop (fun j => itS10 n g j) n (by simp) (fun j hj => it_0 n g j hj hn w) (it_1 n g w)
def isInts (e : LE) (n : Nat) (g : Nat -> Int) : Prop := e.size = 1 /\ e.n = n /\ ∀ j, j < n -> e.el j = [.int .i64 (g j)]
theorem InB.ints10 {B : Nat} {w : World} {e : LE} {v : Value} {n : Nat} {g : Nat -> Int} (h : InB B w e v) (he : isInts e n g) : InB B w (inI10 n g) v := by
 obtain ⟨h1, h2, h3⟩ := he
 subst h2
 obtain ⟨_, a, cap, hv, hcap, hc⟩ := h
 refine ⟨⟨by show 0 < 1; decide, fun j hj => ⟨rfl, rfl⟩⟩, a, cap, hv, hcap, fun hp => ?_⟩
 obtain ⟨b, off, ha, hb, hcell⟩ := hc hp
 refine ⟨b, off, ha, hb, fun j hj o c ho => ?_⟩
 have := hcell j hj o c (by rw [h3 j hj]; exact ho)
 rw [h1] at this
 exact this
noncomputable def lInts10 : LTab := lrow 11 fun args => match args with
 | [.inr e, .inr e'] => some (false, [.inl (.bool true)], pre (propB (∃ n g, n <= 1000000000 /\ isInts e n g /\ isInts e' n g)))
 | _ => none
theorem lInts10_ok {gl : Gl} : LTabOk Tryd.prog gl lInts10 := .row fun args tup res h w vals hG ha => by
 split at h
 . rename_i e e'
   simp only [qS, qP] at h
   obtain ⟨rfl, rfl, hp⟩ := h
   obtain ⟨n, g, h1, h2, h3⟩ := propB_ok.mp hp
   match vals, ha with
   | [u, v], ha => exact ints10_ret n g h1 w [u, v] ⟨InB.ints10 ha.1 h2, InB.ints10 ha.2.1 h3, trivial⟩
   | [], ha => exact ha.elim
   | [_], ha => exact ha.2.elim
   | _ :: _ :: _ :: _, ha => exact ha.2.2.elim
 . cases h
theorem isInts_nt (L : List Int) : isInts (ntE L) L.length (fun j => (L[j]?).getD 0) := ⟨rfl, rfl, fun _ _ => rfl⟩
theorem may_ifOp {n : Nat} {f : Nat -> It} (h : mayU n f = true) : ifOp n f := by
 unfold mayU at h
 intro i hi hk hop
 cases e : fstN (fun j => (f j).kind == 4) n with
 | some j => rw [e] at h; cases h
 | none =>
   rw [e] at h
   have h : (unitR n f).2 = 0 := eq_of_beq h
   unfold unitR at h
   cases e1 : fstN (bad1 f) n with
   | some j => rw [e1] at h; cases h
   | none =>
     have hb := fst_none e1 i hi
     unfold bad1 rightB at hb
     rw [hk] at hb
     have : ((3 : Int) == 0) = false /\ ((3 : Int) == 1) = false /\ ((3 : Int) == 2) = false /\ ((3 : Int) == 3) = true := by decide
     simp only [this, cond_false, cond_true, hop] at hb
     have : (formZ 3 == 4) = false := by decide
     rw [this] at hb
     cases hb
noncomputable def lLyP (n : Nat) (f : Nat -> It) : LTab := lrow 28 fun args => match args with
 | [.inr e] => some (true, [.inr (wdE (layA f (lgG n f) n n)), .inr (ntE (layN f (lgG n f) n n)), .inl (.int .i64 0)], pre (propB (isItE e n f /\ n <= 1000000 /\ (∀ j, j < n -> wfIt (f j)) /\ mayU n f = true /\ fstN (badJ f (lgG n f) n) n = none)))
 | _ => none
noncomputable def lLyF (n : Nat) (f : Nat -> It) : LTab := lrow 28 fun args => match args with
 | [.inr e] => some (false, [.inl (.tuple #[.slice none 0 0, .slice none 0 0, .int .i64 33])], pre (propB (isItE e n f /\ n <= 1000000 /\ (∀ j, j < n -> wfIt (f j)) /\ mayU n f = true /\ fstN (badJ f (lgG n f) n) n ≠ none)))
 | _ => none
noncomputable def lRyP (n : Nat) (f : Nat -> It) : LTab := lrow 21 fun args => match args with
 | [.inr e] => some (true, [.inr (wdE (layA f (lgG n f) n n)), .inr (ntE (layN f (lgG n f) n n)), .inl (.bool true)], pre (propB (isItE e n f /\ n <= 1000000 /\ mayU n f = true /\ fstN (badJ f (lgG n f) n) n = none)))
 | _ => none
noncomputable def lRyF (n : Nat) (f : Nat -> It) : LTab := lrow 21 fun args => match args with
 | [.inr e] => some (false, [.inl (.tuple #[.slice none 0 0, .slice none 0 0, .bool false])], pre (propB (isItE e n f /\ n <= 1000000 /\ mayU n f = true /\ fstN (badJ f (lgG n f) n) n ≠ none)))
 | _ => none
theorem lRyP_ok {gl : Gl} (n : Nat) (f : Nat -> It) : LTabOk Tryd.prog gl (lRyP n f) := .row fun args tup res h w vals hG ha => by
 split at h
 . rename_i e
   simp only [qS, qP] at h
   obtain ⟨rfl, rfl, hp⟩ := h
   obtain ⟨h1, h2, h3, h4⟩ := propB_ok.mp hp
   match vals, ha with
   | [u], ha => exact refLay_ret n f (by omega) (may_ifOp h3) h4 w [u] ⟨InB.it ha.1 h1, trivial⟩
   | [], ha => exact ha.elim
   | _ :: _ :: _, ha => exact ha.2.elim
 . cases h
theorem lRyF_ok {gl : Gl} (n : Nat) (f : Nat -> It) : LTabOk Tryd.prog gl (lRyF n f) := .row fun args tup res h w vals hG ha => by
 split at h
 . rename_i e
   simp only [qS, qP] at h
   obtain ⟨rfl, rfl, hp⟩ := h
   obtain ⟨h1, h2, h3, h4⟩ := propB_ok.mp hp
   match vals, ha with
   | [u], ha => 
     cases e1 : fstN (badJ f (lgG n f) n) n with
     | none => exact absurd e1 h4
     | some i => exact refLay_far n f (by omega) (may_ifOp h3) i e1 w [u] ⟨InB.it ha.1 h1, trivial⟩
   | [], ha => exact ha.elim
   | _ :: _ :: _, ha => exact ha.2.elim
 . cases h
end Go.Proofs.YtilljoemebbnjaaDoor
namespace Go.Proofs.YtilljoemebbnjaaDoor
open Go.RowKit Sim S2
theorem mayU_ok {n : Nat} {f : Nat -> It} (h : mayU n f = true) : (∀ j, j < n -> (f j).kind ≠ 4) /\ (∀ j, j < n -> bad1 f j = false) /\ (∀ j, j < n -> bad2 f j = false) /\ ∀ j, j < n -> bad3 n f j = false := by
 unfold mayU at h
 cases e : fstN (fun j => (f j).kind == 4) n with
 | some j => rw [e] at h; cases h
 | none =>
   rw [e] at h
   have h : (unitR n f).2 = 0 := eq_of_beq h
   refine ⟨fun j hj hc => by have := fst_none e j hj; simp [hc] at this, ?_⟩
   unfold unitR at h
   cases e1 : fstN (bad1 f) n with
   | some j => rw [e1] at h; cases h
   | none =>
     rw [e1] at h
     cases e2 : fstN (bad2 f) n with
     | some j => rw [e2] at h; cases h
     | none =>
       rw [e2] at h
       cases e3 : fstN (bad3 n f) n with
       | some j => rw [e3] at h; cases h
       | none => exact ⟨fst_none e1, fst_none e2, fst_none e3⟩
theorem right_kind {i : It} (h : rightB i = true) (h4 : i.kind ≠ 4) : i.kind = 0 \/ i.kind = 1 \/ i.kind = 2 \/ i.kind = 3 := by
 unfold rightB at h
 by_cases k0 : i.kind = 0
 . exact .inl k0
 by_cases k1 : i.kind = 1
 . exact .inr (.inl k1)
 by_cases k2 : i.kind = 2
 . exact .inr (.inr (.inl k2))
 by_cases k3 : i.kind = 3
 . exact .inr (.inr (.inr k3))
 rw [show (i.kind == 0) = false by simpa using k0, show (i.kind == 1) = false by simpa using k1, show (i.kind == 2) = false by simpa using k2, show (i.kind == 3) = false by simpa using k3, show (i.kind == 4) = false by simpa using h4] at h
 cases h
def layKind (f : Nat -> It) (g : Nat -> Bool) (i : Nat) : Prop := ((f i).kind = 0 \/ (f i).kind = 1 \/ (f i).kind = 2 \/ (f i).kind = 3) /\ (g i = true -> (f i).kind = 3)
theorem may_kind {n : Nat} {f : Nat -> It} (h : mayU n f = true) (i : Nat) (hi : i < n) : layKind f (lgG n f) i := by
 obtain ⟨h1, h2, _, _⟩ := mayU_ok h
 exact ⟨right_kind (by have := h2 i hi; unfold bad1 at this; simpa using this) (h1 i hi), fun hg => (lgG_kind hg).2⟩
def toZ (f : Nat -> It) (g : Nat -> Bool) (x : Int) : Nat -> Int
 | 0 => -1
 | k + 1 => bif labB f x k then (ahN f g k : Int) else toZ f g x k
theorem toZ_lab {f : Nat -> It} {g : Nat -> Bool} {x : Int} {k : Nat} (hk : labB f x k = true) : ∀ {n : Nat}, k < n -> (∀ j, k < j -> j < n -> labB f x j = false) -> toZ f g x n = ahN f g k
 | 0, h, _ => by omega
 | n + 1, h, hu => by
   show (bif labB f x n then (ahN f g n : Int) else toZ f g x n) = _
   by_cases e : k = n
   . subst e; rw [hk]; rfl
   . rw [hu n (by omega) (by omega)]
     exact toZ_lab hk (by omega) fun j h1 h2 => hu j h1 (by omega)
theorem may_lab {n : Nat} {f : Nat -> It} (h : mayU n f = true) {i : Nat} (hi : i < n) (hk : (f i).kind = 2 \/ (f i).kind = 3) (g : Nat -> Bool) : ∃ k, labAt f n (f i).n = some k /\ k < n /\ toZ f g (f i).n n = ahN f g k := by
 obtain ⟨_, _, h2, h3⟩ := mayU_ok h
 have hb := h3 i hi
 unfold bad3 at hb
 have hkb : ((f i).kind == 2 || (f i).kind == 3) = true := by rcases hk with hk | hk <;> rw [hk] <;> rfl
 rw [hkb, Bool.true_and] at hb
 have hs : standsB f (f i).n n = true := by simpa using hb
 obtain ⟨k, hkn, hl, hpre⟩ := first_yes _ _ hs
 have hex : labAt f n (f i).n = some k := by
   unfold labAt fstN
   rw [List.find?_range_eq_some]
   exact ⟨hl, List.mem_range.mpr hkn, fun j hj => by rw [hpre j hj]; rfl⟩
 refine ⟨k, hex, hkn, toZ_lab hl hkn fun j h1 h4 => ?_⟩
 cases hj : labB f (f i).n j
 . rfl
 . have hb2 := h2 j h4
   unfold bad2 at hb2
   unfold labB at hj
   obtain ⟨q1, q2⟩ := Bool.and_eq_true_iff.mp hj
   rw [q1, Bool.true_and, eq_of_beq q2] at hb2
   have := any_no hb2 k h1
   rw [hl] at this
   cases this
theorem lg_inv {n : Nat} {f : Nat -> It} {g : Nat -> Bool} (hs : subB n g (lgG n f)) {i : Nat} (hi : i < n) (hk : (f i).kind = 3) (hf : (decide (disN f g n i < -4096) || decide (disN f g n i > 4094)) = true) : lgG n f i = true := by
 have hc := lgG_closed n f i hi
 unfold lgB at hc
 rw [hk, far_mono hs hi hf, Bool.and_true] at hc
 simpa using hc
theorem lg_eq {n : Nat} {f : Nat -> It} {g : Nat -> Bool} (hs : subB n g (lgG n f)) (hc : ∀ i, i < n -> lgB n f g i = false) (i : Nat) (hi : i < n) : g i = lgG n f i := by
 cases hg : g i
 . cases hl : lgG n f i
   . rfl
   . have := lgG_least hc i hi hl
     rw [hg] at this
     cases this
 . exact (hs i hi hg).symm
theorem disN_at {n : Nat} {f : Nat -> It} {g : Nat -> Bool} {i k : Nat} (h : labAt f n (f i).n = some k) : disN f g n i = 4 * ((ahN f g k : Int) - (ahN f g i : Int)) := by unfold disN; rw [h]
end Go.Proofs.YtilljoemebbnjaaDoor
