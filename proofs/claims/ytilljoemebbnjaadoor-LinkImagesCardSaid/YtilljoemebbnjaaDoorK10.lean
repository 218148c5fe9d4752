/- Lab09, ExpLaw09, Stub11. -/
import Derived.Test.YtilljoemebbnjaaDoorRlx10
import Derived.Test.YtilljoemebbnjaaDoorExp09
set_option linter.unusedVariables false
set_option linter.unusedSimpArgs false
namespace Go.Proofs.YtilljoemebbnjaaDoor
open Go.RowKit Sim S2
def labM (f : Nat -> It) : Nat -> Int
 | 0 => -1
 | j + 1 => bif (f j).kind == 1 then (if (f j).n > labM f j then (f j).n else labM f j) else labM f j
theorem labM_congr {f g : Nat -> It} : ∀ {j : Nat}, (∀ i, i < j -> f i = g i) -> labM f j = labM g j
 | 0, _ => rfl
 | j + 1, h => by
   show (bif (f j).kind == 1 then _ else _) = (bif (g j).kind == 1 then _ else _)
   rw [h j (by omega), labM_congr (j := j) fun i hi => h i (by omega)]
def elI (L : List It) (j : Nat) : It := (L[j]?).getD zIt
theorem elI_old {L : List It} {i : It} {p : Nat} (h : p < L.length) : elI (L ++ [i]) p = elI L p := by unfold elI; rw [List.getElem?_append_left h]
theorem elI_new (L : List It) (i : It) : elI (L ++ [i]) L.length = i := by unfold elI; rw [List.getElem?_append_right (Nat.le_refl _), Nat.sub_self]; rfl
theorem isIt_its (L : List It) (h : L.length <= 1000000000000) : isItE (itsE L) L.length (elI L) := ⟨rfl, rfl, fun _ _ => rfl, h⟩
theorem stands_congr {f g : Nat -> It} {x : Int} {k : Nat} (h : ∀ i, i < k -> f i = g i) : standsB f x k = standsB g x k := by
 unfold standsB
 rw [Bool.eq_iff_iff, List.any_eq_true, List.any_eq_true]
 constructor
 . rintro ⟨i, hi, hl⟩
   refine ⟨i, hi, ?_⟩
   unfold labB at hl ⊢; rw [<- h i (List.mem_range.mp hi)]; exact hl
 . rintro ⟨i, hi, hl⟩
   refine ⟨i, hi, ?_⟩
   unfold labB at hl ⊢; rw [h i (List.mem_range.mp hi)]; exact hl
theorem stands_succ (f : Nat -> It) (x : Int) (k : Nat) : standsB f x (k + 1) = (standsB f x k || ((f k).kind == 1 && (f k).n == x)) := by
 unfold standsB; rw [List.range_succ, List.any_append]; simp [labB]
theorem stands_snoc (L : List It) (i : It) (x : Int) : standsB (elI (L ++ [i])) x (L ++ [i]).length = (standsB (elI L) x L.length || (i.kind == 1 && i.n == x)) := by
 rw [List.length_append, List.length_singleton, stands_succ, elI_new, stands_congr fun p hp => elI_old hp]
theorem labM_snoc (L : List It) (i : It) : labM (elI (L ++ [i])) (L ++ [i]).length = bif i.kind == 1 then (if i.n > labM (elI L) L.length then i.n else labM (elI L) L.length) else labM (elI L) L.length := by
 rw [List.length_append, List.length_singleton]
 show (bif (elI (L ++ [i]) L.length).kind == 1 then _ else _) = _
 rw [elI_new, labM_congr fun p hp => elI_old hp]
theorem bad2_old {L : List It} {i : It} {p : Nat} (h : p < L.length) : bad2 (elI (L ++ [i])) p = bad2 (elI L) p := by
 unfold bad2
 rw [elI_old h, stands_congr fun q hq => elI_old (by omega)]
theorem bad2_new (L : List It) (i : It) : bad2 (elI (L ++ [i])) L.length = (i.kind == 1 && standsB (elI L) i.n L.length) := by
 unfold bad2
 rw [elI_new, stands_congr fun q hq => elI_old hq]
inductive Expd (f : Nat -> It) : Nat -> List It -> Prop
 | nil : Expd f 0 []
 | keep {j L} : Expd f j L -> ((f j).kind == 4) = false -> Expd f (j + 1) (L ++ [f j])
 | skip {j L} : Expd f j L -> ((f j).kind == 4) = true -> Expd f (j + 1) L
 | ins {j L i} : Expd f j L -> i.kind = 0 -> rightB i = true -> wfIt i -> Expd f j (L ++ [i])
structure Keeps (n : Nat) (f : Nat -> It) (j : Nat) (L : List It) : Prop where
 st : ∀ x, standsB (elI L) x L.length = standsB f x j
 b1 : ∀ p, p < L.length -> rightB (elI L p) = true
 b2 : ∀ p, p < L.length -> bad2 (elI L) p = false
 b3 : ∀ p, p < L.length -> ((elI L p).kind == 2 || (elI L p).kind == 3) = true -> standsB f (elI L p).n n = true
 lab : labM (elI L) L.length = labM f j
 wf : ∀ p, p < L.length -> wfIt (elI L p)
theorem snoc_all {Q : It -> Prop} {L : List It} {i : It} (h : ∀ p, p < L.length -> Q (elI L p)) (hi : Q i) : ∀ p, p < (L ++ [i]).length -> Q (elI (L ++ [i]) p) := fun p hp => by
 rw [List.length_append, List.length_singleton] at hp
 rcases Nat.lt_or_ge p L.length with h1 | h1
 . rw [elI_old h1]; exact h p h1
 . obtain rfl : p = L.length := by omega
   rw [elI_new]; exact hi
theorem Expd.keeps {n : Nat} {f : Nat -> It} (h1 : ∀ j, j < n -> bad1 f j = false) (h2 : ∀ j, j < n -> bad2 f j = false) (h3 : ∀ j, j < n -> bad3 n f j = false) (hw : ∀ j, j < n -> wfIt (f j)) {j : Nat} {L : List It} (h : Expd f j L) : j <= n -> Keeps n f j L := by
 induction h with
 | nil => exact fun _ => ⟨fun _ => rfl, fun _ h => (by cases h), fun _ h => (by cases h), fun _ h => (by cases h), rfl, fun _ h => (by cases h)⟩
 | @keep j L _ h4 ih =>
   intro hj
   have K := ih (by omega)
   have r1 : rightB (f j) = true := by have := h1 j (by omega); unfold bad1 at this; simpa using this
   refine ⟨fun x => ?_, snoc_all (Q := fun i => rightB i = true) K.b1 r1, fun p hp => ?_, snoc_all (Q := fun i => (i.kind == 2 || i.kind == 3) = true -> standsB f i.n n = true) K.b3 fun hk => ?_, ?_, snoc_all (Q := wfIt) K.wf (hw j (by omega))⟩
   . rw [stands_snoc, K.st, stands_succ]
   . rw [List.length_append, List.length_singleton] at hp
     rcases Nat.lt_or_ge p L.length with h | h
     . rw [bad2_old h]; exact K.b2 p h
     . obtain rfl : p = L.length := by omega
       rw [bad2_new, K.st]; exact h2 j (by omega)
   . have := h3 j (by omega)
     unfold bad3 at this
     rw [hk, Bool.true_and] at this
     simpa using this
   . rw [labM_snoc, K.lab]; rfl
 | @skip j L _ h4 ih =>
   intro hj
   have K := ih (by omega)
   have hk : ((f j).kind == 1) = false := by
     have : (f j).kind = 4 := by simpa using h4
     rw [this]; rfl
   refine ⟨fun x => ?_, K.b1, K.b2, K.b3, ?_, K.wf⟩
   . rw [K.st, stands_succ, hk]; simp
   . rw [K.lab]
     show _ = bif (f j).kind == 1 then _ else _
     rw [hk]; rfl
 | @ins j L i _ hk hr hwi ih =>
   intro hj
   have K := ih hj
   have hk1 : (i.kind == 1) = false := by rw [hk]; rfl
   refine ⟨fun x => ?_, snoc_all (Q := fun i => rightB i = true) K.b1 hr, fun p hp => ?_, snoc_all (Q := fun i => (i.kind == 2 || i.kind == 3) = true -> standsB f i.n n = true) K.b3 fun hk' => ?_, ?_, snoc_all (Q := wfIt) K.wf hwi⟩
   . rw [stands_snoc, K.st, hk1]; simp
   . rw [List.length_append, List.length_singleton] at hp
     rcases Nat.lt_or_ge p L.length with h | h
     . rw [bad2_old h]; exact K.b2 p h
     . obtain rfl : p = L.length := by omega
       rw [bad2_new, hk1]; rfl
   . rw [hk] at hk'; cases hk'
   . rw [labM_snoc, K.lab, hk1]; rfl
theorem Expd.many {f : Nat -> It} {j : Nat} {L : List It} (h : Expd f j L) : ∀ (M : List It), (∀ i ∈ M, i.kind = 0 /\ rightB i = true /\ wfIt i) -> Expd f j (L ++ M)
 | [], _ => by rw [List.append_nil]; exact h
 | i :: r, hM => by
   obtain ⟨a, b, c⟩ := hM i List.mem_cons_self
   have := (Expd.ins h a b c).many r fun k hk => hM k (List.mem_cons_of_mem _ hk)
   rwa [List.append_assoc] at this
theorem const_right {i : It} (hk : (i.kind == 4) = true) (hr : rightB i = true) : (0 <= i.ins.rd /\ i.ins.rd <= 31) /\ 0 <= i.note := by
 have hk : i.kind = 4 := by simpa using hk
 unfold rightB at hr
 rw [hk] at hr
 simp only [show ((4 : Int) == 0) = false from rfl, show ((4 : Int) == 1) = false from rfl, show ((4 : Int) == 2) = false from rfl, show ((4 : Int) == 3) = false from rfl, show ((4 : Int) == 4) = true from rfl, cond_false, cond_true, Bool.and_eq_true, decide_eq_true_eq] at hr
 exact ⟨⟨hr.1, hr.2.1⟩, hr.2.2.2⟩
theorem expd_all {n : Nat} {f : Nat -> It} (h1 : ∀ j, j < n -> bad1 f j = false) (hw : ∀ j, j < n -> wfIt (f j)) : ∀ j, j <= n -> Expd f j (xpL f j)
 | 0, _ => .nil
 | j + 1, hj => by
   have ih := expd_all h1 hw j (by omega)
   show Expd f (j + 1) (xpL f j ++ xpd (f j))
   unfold xpd
   cases h4 : (f j).kind == 4
   . exact ih.keep h4
   . have r1 : rightB (f j) = true := by have := h1 j (by omega); unfold bad1 at this; simpa using this
     obtain ⟨hrd, hnote⟩ := const_right h4 r1
     refine (ih.skip h4).many _ fun i hi => ?_
     obtain ⟨k, hk, rfl⟩ := List.mem_map.mp hi
     have hg := ld_good 3 (f j).ins.rd (f j).n hrd (lvB_top (hw j (by omega)) 3 (Nat.le_refl _)) k hk
     refine ⟨rfl, ?_, ⟨by show -9223372036854775808 <= (0 : Int); decide, by show (0 : Int) <= 9223372036854775807; decide⟩⟩
     unfold rightB mkI
     simp only [show ((0 : Int) == 0) = true from rfl, cond_true, hg.2.2.1, Bool.true_and]
     exact decide_eq_true hnote
theorem fst_all {p : Nat -> Bool} {n : Nat} (h : ∀ j, j < n -> p j = false) : fstN p n = none := by
 unfold fstN
 rw [List.find?_eq_none]
 intro j hj
 rw [h j (List.mem_range.mp hj)]; simp
theorem unitR_ok {n : Nat} {f : Nat -> It} (h : (unitR n f).2 = 0) : (∀ j, j < n -> bad1 f j = false) /\ (∀ j, j < n -> bad2 f j = false) /\ ∀ j, j < n -> bad3 n f j = false := by
 unfold unitR at h
 split at h
 . cases h
 . rename_i e1
   split at h
   . cases h
   . rename_i e2
     split at h
     . cases h
     . rename_i e3
       exact ⟨fst_none e1, fst_none e2, fst_none e3⟩
theorem unitR_zero {n : Nat} {f : Nat -> It} (h1 : ∀ j, j < n -> bad1 f j = false) (h2 : ∀ j, j < n -> bad2 f j = false) (h3 : ∀ j, j < n -> bad3 n f j = false) : unitR n f = (0, 0) := by
 unfold unitR
 rw [fst_all h1, fst_all h2, fst_all h3]
theorem expand_keeps {n : Nat} {f : Nat -> It} (h : (unitR n f).2 = 0) (hw : ∀ j, j < n -> wfIt (f j)) : Keeps n f n (xpL f n) := by
 obtain ⟨h1, h2, h3⟩ := unitR_ok h
 exact (expd_all h1 hw n (Nat.le_refl _)).keeps h1 h2 h3 hw (Nat.le_refl _)
theorem expand_unit {n : Nat} {f : Nat -> It} (h : (unitR n f).2 = 0) (hw : ∀ j, j < n -> wfIt (f j)) : unitR (xpL f n).length (elI (xpL f n)) = (0, 0) := by
 have K := expand_keeps h hw
 refine unitR_zero (fun p hp => ?_) K.b2 fun p hp => ?_
 . unfold bad1; rw [K.b1 p hp]; rfl
 . unfold bad3
   rw [K.st]
   cases hk : ((elI (xpL f n) p).kind == 2 || (elI (xpL f n) p).kind == 3)
   . rfl
   . rw [K.b3 p hp hk]; rfl
end Go.Proofs.YtilljoemebbnjaaDoor
namespace Go.Proofs.YtilljoemebbnjaaDoor
open Go.RowKit Sim S2
noncomputable def XL (n : Nat) (f : Nat -> It) : List It := xpL f n
def cstOk (n : Nat) (f : Nat -> It) : Prop := ∀ j, j < n -> ((f j).kind != 4) = false -> (0 <= (f j).ins.rd /\ (f j).ins.rd <= 31) /\ isI (f j).n
noncomputable def lEx (n : Nat) (f : Nat -> It) : LTab := lrow 29 fun args => match args with
 | [.inr e] => some (false, [.inr (itsE (XL n f))], pre (propB (isItE e n f /\ n <= 1000000 /\ cstOk n f)))
 | _ => none
noncomputable def lEy (n : Nat) (f : Nat -> It) : LTab := lrow 22 fun args => match args with
 | [.inr e] => some (false, [.inr (itsE (XL n f))], pre (propB (isItE e n f /\ n <= 1000000 /\ cstOk n f)))
 | _ => none
theorem lEx_ok (n : Nat) (f : Nat -> It) : LTabOk Tryd.prog gl9 (lEx n f) := .row fun args tup res h w vals hG ha => by
 split at h
 . rename_i e
   simp only [qS, qP] at h
   obtain ⟨rfl, rfl, hp⟩ := h
   obtain ⟨h1, h2, h3⟩ := propB_ok.mp hp
   match vals, ha with
   | [u], ha => exact ex_ret n f h2 h3 w hG [u] ⟨InB.it ha.1 h1, trivial⟩
   | [], ha => exact ha.elim
   | _ :: _ :: _, ha => exact ha.2.elim
 . cases h
theorem lEy_ok (n : Nat) (f : Nat -> It) : LTabOk Tryd.prog gl9 (lEy n f) := .row fun args tup res h w vals hG ha => by
 split at h
 . rename_i e
   simp only [qS, qP] at h
   obtain ⟨rfl, rfl, hp⟩ := h
   obtain ⟨h1, h2, h3⟩ := propB_ok.mp hp
   match vals, ha with
   | [u], ha => exact ey_ret n f h2 h3 w hG [u] ⟨InB.it ha.1 h1, trivial⟩
   | [], ha => exact ha.elim
   | _ :: _ :: _, ha => exact ha.2.elim
 . cases h
end Go.Proofs.YtilljoemebbnjaaDoor
namespace Go.Proofs.YtilljoemebbnjaaDoor
open Go.RowKit Sim S2
def stbI (rd n : Int) : It := ⟨4, ⟨0, rd, 0, 0, 0, false, false⟩, n, 0⟩
def stbF (d : Int) (f : Nat -> It) : Nat -> It
 | 0 => stbI 4 16777216
 | 1 => stbI 2 (16777216 + 8 * d)
 | k + 2 => f k
theorem stb_stands (d : Int) (f : Nat -> It) (x : Int) : ∀ k, standsB (stbF d f) x (k + 2) = standsB f x k
 | 0 => by
   show standsB (stbF d f) x (0 + 1 + 1) = _
   rw [stands_succ, stands_succ]
   rfl
 | k + 1 => by
   show standsB (stbF d f) x ((k + 2) + 1) = _
   rw [stands_succ, stb_stands d f x k, stands_succ f x k]
   rfl
theorem stb_unit {n : Nat} {f : Nat -> It} (d : Int) (h : (unitR n f).2 = 0) : (unitR (n + 2) (stbF d f)).2 = 0 := by
 obtain ⟨h1, h2, h3⟩ := unitR_ok h
 have e : unitR (n + 2) (stbF d f) = (0, 0) := unitR_zero (fun j hj => by
   match j with
   | 0 => rfl
   | 1 => rfl
   | k + 2 => exact h1 k (by omega)) (fun j hj => by
   match j with
   | 0 => rfl
   | 1 => rfl
   | k + 2 =>
     show ((f k).kind == 1 && standsB (stbF d f) (f k).n (k + 2)) = false
     rw [stb_stands]; exact h2 k (by omega)) fun j hj => by
   match j with
   | 0 => rfl
   | 1 => rfl
   | k + 2 =>
     show (((f k).kind == 2 || (f k).kind == 3) && !standsB (stbF d f) (f k).n (n + 2)) = false
     rw [stb_stands]; exact h3 k (by omega)
 rw [e]
theorem stb_wf {n : Nat} {f : Nat -> It} {d : Int} (h : ∀ j, j < n -> wfIt (f j)) (h0 : 0 <= d) (h1 : d <= 1000000000000) : ∀ j, j < n + 2 -> wfIt (stbF d f j) := fun j hj => by
 match j with
 | 0 => exact ⟨by show _ <= (16777216 : Int); decide, by show (16777216 : Int) <= _; decide⟩
 | 1 => exact ⟨by show _ <= 16777216 + 8 * d; omega, by show 16777216 + 8 * d <= _; omega⟩
 | k + 2 => exact h k (by omega)
theorem cst_of {n : Nat} {f : Nat -> It} (h : (unitR n f).2 = 0) (hw : ∀ j, j < n -> wfIt (f j)) : cstOk n f := fun j hj h4 => by
 have h1 := (unitR_ok h).1 j hj
 unfold bad1 at h1
 have hk : ((f j).kind == 4) = true := by
   cases e : (f j).kind == 4
   . unfold bne at h4; rw [e] at h4; cases h4
   . rfl
 exact ⟨(const_right hk (by simpa using h1)).1, (hw j hj).1, (hw j hj).2⟩
theorem xp_kind (f : Nat -> It) : ∀ j, ∀ i ∈ xpL f j, (i.kind == 4) = false
 | 0, i, hi => by cases hi
 | j + 1, i, hi => by
   have hi : i ∈ xpL f j ++ xpd (f j) := hi
   rcases List.mem_append.mp hi with hi | hi
   . exact xp_kind f j i hi
   . unfold xpd at hi
     cases e : (f j).kind == 4
     . rw [e] at hi
       have : i = f j := List.mem_singleton.mp hi
       rw [this]; exact e
     . rw [e] at hi
       obtain ⟨a, _, rfl⟩ := List.mem_map.mp hi
       rfl
theorem elI_mem {L : List It} {p : Nat} (h : p < L.length) : elI L p ∈ L := by
 unfold elI; rw [List.getElem?_eq_getElem h]; exact List.getElem_mem h
theorem xp_may {n : Nat} {f : Nat -> It} (h : (unitR n f).2 = 0) (hw : ∀ j, j < n -> wfIt (f j)) : mayU (xpL f n).length (elI (xpL f n)) = true := by
 unfold mayU
 rw [fst_all fun j hj => xp_kind f n _ (elI_mem hj)]
 show ((unitR _ _).2 == 0) = true
 rw [expand_unit h hw]; rfl
theorem words_may {n : Nat} {f : Nat -> It} (hy : mayU n f = true) {i : Nat} (hi : i < n) (hb : badJ f (lgG n f) n i = false) : ∀ x ∈ layW f (lgG n f) n i, mayB x = true := fun x hx => by
 obtain ⟨hk, hgk⟩ := may_kind hy i hi
 have hno : (f i).kind ≠ 3 -> lgG n f i = false := fun hc => by
   cases e : lgG n f i
   . rfl
   . exact absurd (hgk e) hc
 rcases hk with hk | hk | hk | hk
 . have e : layW f (lgG n f) n i = [(f i).ins] := by unfold layW; rw [hk]; rfl
   rw [e] at hx
   rw [List.mem_singleton.mp hx]
   exact may_ins hy hi hk
 . have e : layW f (lgG n f) n i = [] := by unfold layW; rw [hk, hno (by omega)]; rfl
   rw [e] at hx; cases hx
 . have e : layW f (lgG n f) n i = [jalI (disN f (lgG n f) n i)] := by unfold layW; rw [hk]; rfl
   rw [e] at hx
   rw [List.mem_singleton.mp hx]
   obtain ⟨z, hz⟩ := dis4 (g := lgG n f) hy hi (.inl hk)
   rw [hz, may_jal]
   unfold badJ at hb
   rw [hk, hz] at hb
   have hb : ((true && farJ (4 * z)) || (lgG n f i && farJ (4 * z - 4))) = false := hb
   rw [Bool.true_and, Bool.or_eq_false_iff] at hb
   rw [hb.1]; rfl
 . obtain ⟨ho, hra, hrb⟩ := may_br hy hi hk
   obtain ⟨z, hz⟩ := dis4 (g := lgG n f) hy hi (.inr hk)
   cases hg : lgG n f i
   . have e : layW f (lgG n f) n i = [ifI (f i).ins.op (f i).ins.a (f i).ins.b (disN f (lgG n f) n i)] := by unfold layW; rw [hk, hg]; rfl
     rw [e] at hx
     rw [List.mem_singleton.mp hx]
     have hc := lgG_closed n f i hi
     unfold lgB at hc
     rw [hk, hg, hz] at hc
     have hc : (decide (4 * z < -4096) || decide (4 * z > 4094)) = false := hc
     rw [<- fit13] at hc
     refine may_if ho hra hrb ?_
     rw [hz, even4, Bool.true_and]
     simpa using hc
   . have e : layW f (lgG n f) n i = [ifI (oppZ (f i).ins.op) (f i).ins.a (f i).ins.b 8, jalI (disN f (lgG n f) n i - 4)] := by unfold layW; rw [hk, hg]; rfl
     rw [e] at hx
     rcases List.mem_cons.mp hx with rfl | hx
     . exact may_if (opp4 ho) hra hrb (by decide)
     . rw [List.mem_singleton.mp hx, hz, show 4 * z - 4 = 4 * (z - 1) by omega, may_jal]
       unfold badJ at hb
       rw [hk, hg, hz, show 4 * z - 4 = 4 * (z - 1) by omega] at hb
       have hb : ((false && farJ (4 * z)) || (true && farJ (4 * (z - 1)))) = false := hb
       simp at hb
       rw [hb]; rfl
theorem layA_may {n : Nat} {f : Nat -> It} (hy : mayU n f = true) (hb : fstN (badJ f (lgG n f) n) n = none) : ∀ i, i <= n -> ∀ x ∈ layA f (lgG n f) n i, mayB x = true
 | 0, _, x, hx => by cases hx
 | i + 1, hi, x, hx => by
   have hx : x ∈ layA f (lgG n f) n i ++ layW f (lgG n f) n i := hx
   rcases List.mem_append.mp hx with hx | hx
   . exact layA_may hy hb i (by omega) x hx
   . exact words_may hy (show i < n by omega) (fst_none hb i (by omega)) x hx
theorem base_pos (rd n : Int) : 0 < (baseL rd n).length := by
 unfold baseL
 cases fitZ n 12
 . exact Nat.succ_pos _
 . exact Nat.succ_pos _
theorem ldL_pos : ∀ (d : Nat) (rd n : Int), 0 < (ldL d rd n).length
 | 0, rd, n => base_pos rd n
 | d + 1, rd, n => by
   show 0 < (bif fitZ n 12 || fitZ n 32 then baseL rd n else ldL d rd (oddH n) ++ _).length
   cases fitZ n 12 || fitZ n 32
   . show 0 < (ldL d rd (oddH n) ++ _).length
     rw [List.length_append]
     have := ldL_pos d rd (oddH n)
     omega
   . exact base_pos rd n
theorem xp_first (d : Int) (f : Nat -> It) : ∀ j, ∃ i r, xpL (stbF d f) (j + 1) = i :: r /\ i.kind = 0
 | 0 => by
   have hp := ldL_pos 3 4 16777216
   have e : xpL (stbF d f) (0 + 1) = (LD 4 16777216).map (mkI 0) := rfl
   cases h : LD 4 16777216 with
   | nil => unfold LD at h; rw [h] at hp; cases hp
   | cons a l => exact ⟨_, _, by rw [e, h, List.map_cons], rfl⟩
 | j + 1 => by
   obtain ⟨i, r, h, hk⟩ := xp_first d f j
   exact ⟨i, r ++ xpd (stbF d f (j + 1)), by show xpL (stbF d f) (j + 1) ++ _ = _; rw [h]; rfl, hk⟩
theorem layA_grow (f : Nat -> It) (g : Nat -> Bool) (n : Nat) : ∀ i, (layA f g n 1).length <= (layA f g n (i + 1)).length
 | 0 => Nat.le_refl _
 | i + 1 => by
   have := layA_grow f g n i
   show _ <= (layA f g n (i + 1) ++ layW f g n (i + 1)).length
   rw [List.length_append]; omega
theorem stb_pos (d : Int) (f : Nat -> It) (n : Nat) (g : Nat -> Bool) (m : Nat) : 0 < (layA (elI (xpL (stbF d f) (n + 2))) g m (xpL (stbF d f) (n + 2)).length).length := by
 obtain ⟨i, r, h, hk⟩ := xp_first d f (n + 1)
 rw [h]
 have h1 : (layA (elI (i :: r)) g m 1).length = 1 := by
   show ([] ++ layW (elI (i :: r)) g m 0).length = 1
   unfold layW
   have : (elI (i :: r) 0).kind = 0 := hk
   rw [this]; rfl
 have := layA_grow (elI (i :: r)) g m r.length
 rw [h1] at this
 rw [List.length_cons]; omega
end Go.Proofs.YtilljoemebbnjaaDoor
