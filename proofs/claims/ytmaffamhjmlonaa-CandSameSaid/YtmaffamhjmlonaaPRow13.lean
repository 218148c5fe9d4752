/- Layer 13: package cand: the rows of a candidate. -/
import Derived.Test.YtmaffamhjmlonaaPRec13
import Derived.Test.YtmaffamhjmlonaaBnd13
import Derived.Test.YtmaffamhjmlonaaTree13
import Derived.DeepKeys4
set_option linter.unusedVariables false
set_option linter.unusedSimpArgs false
namespace Go.Proofs.Ytmaffamhjmlonaa
open Go.RowKit Sim S2
def rwP : List Nat := [0, 1, 0, 1, 1]
def rwI : List Nat := [0, 1, 1, 1, 0, 0, 1, 1]
noncomputable def rwK (p : List Nat) : Code := codeAt (codeOf Try.prog 25) (0 :: p)
def mpB (l : List (Value × Value)) : S2.Blk := ⟨[], 0, .mapV 80 l⟩
noncomputable def lgK (gl : Gl) (c : Cn) (i : Nat) (b : List (Value × Value)) : Nat -> List (Value × Value)
 | 0 => b
 | k + 1 => (.agg #[.int .i64 (rfG gl (c.rv gl i) k).h, .int .i64 (rfG gl (c.rv gl i) k).a], .agg #[]) :: lgK gl c i b k
noncomputable def lgR (gl : Gl) (c : Cn) : Nat -> List (Value × Value)
 | 0 => []
 | i + 1 => lgK gl c i (lgR gl c i) (lenV (c.rv gl i))
noncomputable abbrev lgA (gl : Gl) (c : Cn) (i k : Nat) : List (Value × Value) := lgK gl c i (lgR gl c i) k
def rwH (c : Cn) (i : Nat) : List (Nat × S2.SV) := [(1, .inr (0, 0, none)), (3, .mp 1), (12, .inl ([true], .slice c.ra c.rn c.rc)), (13, .inl ([true], .int .i64 c.rn)), (14, .inl ([true], .int .i64 i))]
noncomputable def rwS (c : Cn) (i : Nat) (m : List (Value × Value)) (l : List (Nat × S2.SV)) : S2.St := { tmps := rwH c i ++ l, own := ⟨[cnB c, mpB m], []⟩, lo := 0, llo := 0, mem := true, orc := [], obl := [] }
noncomputable def rwL (gl : Gl) (c : Cn) (i k : Nat) : List (Nat × S2.SV) := [(40, .inl ([true], slG gl (.slice c.ra c.rn c.rc) 2 1 i)), (41, .inl ([true], .int .i64 (lenV (c.rv gl i) : Nat))), (42, .inl ([true], .int .i64 k))]
def rwQ (l : List Nat) : Pick := { ts := [1, 3, 12, 13, 14] ++ l, bs := [0, 1], ls := [], opn := [14, 42] }
def rwZ : Pick := { ts := [2], bs := [], ls := [] }
def rwT : S2.St := { tmps := [(2, .inl ([], .bool false))], own := ⟨[], []⟩, lo := 0, llo := 0, mem := true, orc := [], obl := [] }
theorem refKeyed : Go.Maps.Keyed Try.prog 46 := .of_law (deep_law_laid (m := 3) (by kernel_rfl) (by decide) (by decide) (by kernel_rfl) (by kernel_rfl))
noncomputable def klB (n : Int) : Option (List Lit) := if IntKind.i64 = IntKind.i64 /\ (Lit.int .i64 n).wf = true then some [.int .i64 n] else none
theorem refKey (h a : Int) : keyOf Try.prog 46 (.agg #[.int .i64 h, .int .i64 a]) = (Option.map List.flatten ((klB h).bind fun x => (klB a).bind fun y => some [x, y])).map fun ls => .string (keyBytes ls) := by kernel_rfl
theorem refKey_in {h a : Int} (h1 : inI h = true) (h2 : inI a = true) : ∃ l, keyOf Try.prog 46 (.agg #[.int .i64 h, .int .i64 a]) = some l := by
 rw [refKey]
 unfold klB
 rw [if_pos ⟨rfl, wf_inI h1⟩, if_pos ⟨rfl, wf_inI h2⟩]
 exact ⟨_, rfl⟩
def RfIn (gl : Gl) (c : Cn) : Prop := ∀ i, i < c.rn -> ∀ k, k < lenV (c.rv gl i) -> inI (rfG gl (c.rv gl i) k).h = true /\ inI (rfG gl (c.rv gl i) k).a = true
theorem lgK_mem {gl : Gl} {c : Cn} {i : Nat} {b : List (Value × Value)} {p : Value × Value} : ∀ {k : Nat}, p ∈ lgK gl c i b k -> p ∈ b \/ ∃ j, j < k /\ p = (.agg #[.int .i64 (rfG gl (c.rv gl i) j).h, .int .i64 (rfG gl (c.rv gl i) j).a], .agg #[])
 | 0, h => .inl h
 | k + 1, h => by
   rcases List.mem_cons.mp h with h | h
   . exact .inr ⟨k, by omega, h⟩
   . rcases lgK_mem h with h | ⟨j, hj, h⟩
     . exact .inl h
     . exact .inr ⟨j, by omega, h⟩
theorem lgR_mem {gl : Gl} {c : Cn} {p : Value × Value} : ∀ {i : Nat}, p ∈ lgR gl c i -> ∃ y j, y < i /\ j < lenV (c.rv gl y) /\ p = (.agg #[.int .i64 (rfG gl (c.rv gl y) j).h, .int .i64 (rfG gl (c.rv gl y) j).a], .agg #[])
 | 0, h => by cases h
 | i + 1, h => by
   rcases lgK_mem h with h | ⟨j, hj, h⟩
   . obtain ⟨y, j, h1, h2, h3⟩ := lgR_mem h
     exact ⟨y, j, by omega, h2, h3⟩
   . exact ⟨i, j, by omega, hj, h⟩
theorem lgA_mem {gl : Gl} {c : Cn} {p : Value × Value} {i k : Nat} (h : p ∈ lgA gl c i k) : ∃ y j, y <= i /\ (y < i /\ j < lenV (c.rv gl y) \/ y = i /\ j < k) /\ p = (.agg #[.int .i64 (rfG gl (c.rv gl y) j).h, .int .i64 (rfG gl (c.rv gl y) j).a], .agg #[]) := by
 rcases lgK_mem h with h | ⟨j, hj, h⟩
 . obtain ⟨y, j, h1, h2, h3⟩ := lgR_mem h
   exact ⟨y, j, by omega, .inl ⟨h1, h2⟩, h3⟩
 . exact ⟨i, j, Nat.le_refl _, .inr ⟨rfl, hj⟩, h⟩
theorem lgK_in {gl : Gl} {c : Cn} {i : Nat} {b : List (Value × Value)} : ∀ {k : Nat}, (∀ p ∈ b, p ∈ lgK gl c i b k) /\ ∀ j, j < k -> (.agg #[.int .i64 (rfG gl (c.rv gl i) j).h, .int .i64 (rfG gl (c.rv gl i) j).a], .agg #[]) ∈ lgK gl c i b k
 | 0 => ⟨fun _ h => h, fun j hj => absurd hj (Nat.not_lt_zero _)⟩
 | k + 1 => by
   obtain ⟨h1, h2⟩ := lgK_in (gl := gl) (c := c) (i := i) (b := b) (k := k)
   refine ⟨fun p hp => List.mem_cons_of_mem _ (h1 p hp), fun j hj => ?_⟩
   by_cases hk : j = k
   . rw [hk]; exact List.mem_cons_self
   . exact List.mem_cons_of_mem _ (h2 j (by omega))
theorem lgR_in {gl : Gl} {c : Cn} : ∀ {i y j : Nat}, y < i -> j < lenV (c.rv gl y) -> (.agg #[.int .i64 (rfG gl (c.rv gl y) j).h, .int .i64 (rfG gl (c.rv gl y) j).a], .agg #[]) ∈ lgR gl c i
 | 0, y, j, h, _ => absurd h (Nat.not_lt_zero _)
 | i + 1, y, j, h, hj => by
   by_cases hy : y = i
   . subst hy; exact lgK_in.2 j hj
   . exact lgK_in.1 _ (lgR_in (by omega) hj)
theorem lg_keys {gl : Gl} {c : Cn} (ri : RfIn gl c) {i k : Nat} (hi : i < c.rn) (hk : k < lenV (c.rv gl i)) : KeysIn Try.prog 46 (.agg #[.int .i64 (rfG gl (c.rv gl i) k).h, .int .i64 (rfG gl (c.rv gl i) k).a] :: (lgA gl c i k).map Prod.fst) :=
 ⟨refKeyed, fun a ha => by
   rcases List.mem_cons.mp ha with rfl | ha
   . exact refKey_in (ri i hi k hk).1 (ri i hi k hk).2
   . obtain ⟨p, hp, rfl⟩ := List.mem_map.mp ha
     obtain ⟨y, j, h1, h2, rfl⟩ := lgA_mem hp
     have hj : j < lenV (c.rv gl y) := by
       rcases h2 with h2 | ⟨rfl, h2⟩
       . exact h2.2
       . omega
     exact refKey_in (ri y (by omega) j hj).1 (ri y (by omega) j hj).2⟩
theorem lg_fmt {gl : Gl} {c : Cn} {i k : Nat} : FmtV (lgA gl c i k) (.agg #[]) := fun p hp => by
 obtain ⟨y, j, h1, h2, rfl⟩ := lgA_mem hp
 rfl
theorem logV_none {l : List (Value × Value)} {a : Value} : logV l a = none ↔ ∀ p ∈ l, p.1 ≠ a := by
 induction l with
 | nil => exact ⟨fun _ p hp => (by cases hp), fun _ => rfl⟩
 | cons p r ih =>
   obtain ⟨k, v⟩ := p
   rw [logV_put]
   by_cases hk : k = a
   . rw [if_pos hk]
     exact ⟨fun h => (by cases h), fun h => absurd hk (h (k, v) List.mem_cons_self)⟩
   . rw [if_neg hk, ih]
     exact ⟨fun h p hp => by
       rcases List.mem_cons.mp hp with rfl | hp
       . exact hk
       . exact h p hp, fun h p hp => h p (List.mem_cons_of_mem _ hp)⟩
theorem hasV_false {l : List (Value × Value)} {a : Value} : hasV l a = false ↔ ∀ p ∈ l, p.1 ≠ a := by
 rw [hasV_eq, <- logV_none]
 cases logV l a <;> simp
theorem refV_inj {h a x y : Int} : (Value.agg #[.int .i64 h, .int .i64 a] = .agg #[.int .i64 x, .int .i64 y]) ↔ h = x /\ a = y := by
 simp
theorem twi_of {gl : Gl} {c : Cn} {w a : Nat} (ha : a < lenV (c.rv gl w)) (h : ∀ i k, i <= w -> k < lenV (c.rv gl i) -> (i < w \/ k < a) -> ¬ ((rfG gl (c.rv gl i) k).h = (rfG gl (c.rv gl w) a).h /\ (rfG gl (c.rv gl i) k).a = (rfG gl (c.rv gl w) a).a)) : twiZ gl c (w : Int) (a : Int) = false := by
 rw [twiZ_eq]
 unfold twB
 simp only [qN]
 have full : ∀ {P : Nat -> Bool} {n : Nat}, (∀ i, i < n -> P i = true) -> Nat.beq (skipN P n 0) n = true := fun {P n} h => skip_iff.mpr h
 have hall : ∀ i, i < w + 1 -> tw2 gl c (rfG gl (c.rv gl w) a) w a i = true := fun i hi => by
   unfold tw2
   refine full fun k hk => ?_
   unfold tw1
   by_cases hb : i < w \/ k < a
   . have := h i k (by omega) hk hb
     cases h1 : ((rfG gl (c.rv gl i) k).h == (rfG gl (c.rv gl w) a).h) <;> cases h2 : ((rfG gl (c.rv gl i) k).a == (rfG gl (c.rv gl w) a).a) <;> simp_all
   . rw [decide_eq_false (show ¬ (i : Int) < (w : Int) by omega), decide_eq_false (show ¬ (k : Int) < (a : Int) by omega)]
     rfl
 rw [full hall]; rfl
theorem lg_has {gl : Gl} {c : Cn} {i k : Nat} (hk : k < lenV (c.rv gl i)) : hasV (lgA gl c i k) (.agg #[.int .i64 (rfG gl (c.rv gl i) k).h, .int .i64 (rfG gl (c.rv gl i) k).a]) = twiZ gl c (i : Int) (k : Int) := by
 cases ht : twiZ gl c (i : Int) (k : Int)
 . refine hasV_false.mpr fun p hp => ?_
   obtain ⟨y, j, h1, h2, rfl⟩ := lgA_mem hp
   have hj : j < lenV (c.rv gl y) := by
     rcases h2 with h2 | ⟨rfl, h2⟩
     . exact h2.2
     . omega
   have := twi_apart ht h1 hj (by omega)
   show ¬ (Value.agg _ = Value.agg _)
   rw [refV_inj]
   omega
 . cases hh : hasV (lgA gl c i k) (.agg #[.int .i64 (rfG gl (c.rv gl i) k).h, .int .i64 (rfG gl (c.rv gl i) k).a])
   . exfalso
     have hf := hasV_false.mp hh
     have : twiZ gl c (i : Int) (k : Int) = false := twi_of hk fun y j hy hj hb he => by
       have hm : (.agg #[.int .i64 (rfG gl (c.rv gl y) j).h, .int .i64 (rfG gl (c.rv gl y) j).a], .agg #[]) ∈ lgA gl c i k := by
         by_cases hyi : y = i
         . subst hyi; exact lgK_in.2 j (by omega)
         . exact lgK_in.1 _ (lgR_in (by omega) hj)
       exact hf _ hm (refV_inj.mpr he)
     rw [ht] at this; cases this
   . rfl
def codV : Value -> Nat
 | .agg ⟨[.int _ h, .int _ a]⟩ => h.toNat * 1024 + a.toNat
 | _ => 0
def LgInv (l : List (Value × Value)) : Prop := (∀ p ∈ l, ∃ h a : Nat, p.1 = .agg #[.int .i64 h, .int .i64 a] /\ h < 8 /\ a < 1024) /\ l.Pairwise fun p q => p.1 ≠ q.1
theorem LgInv.length {l : List (Value × Value)} (h : LgInv l) : l.length <= 8192 := by
 have key : ∀ p ∈ l, codV p.1 < 8192 := fun p hp => by
   obtain ⟨x, y, he, hx, hy⟩ := h.1 p hp
   rw [he]
   show (x : Int).toNat * 1024 + (y : Int).toNat < 8192
   rw [qN, qN]
   omega
 have inj : ∀ p ∈ l, ∀ q ∈ l, codV p.1 = codV q.1 -> p.1 = q.1 := fun p hp q hq he => by
   obtain ⟨x, y, e1, hx, hy⟩ := h.1 p hp
   obtain ⟨u, v, e2, hu, hv⟩ := h.1 q hq
   rw [e1, e2] at he ⊢
   have he : (x : Int).toNat * 1024 + (y : Int).toNat = (u : Int).toNat * 1024 + (v : Int).toNat := he
   rw [qN, qN, qN, qN] at he
   obtain ⟨rfl, rfl⟩ := code_apart hy hv he
   rfl
 refine pigeon 8192 l.length (fun i => codV ((l[i]?.map Prod.fst).getD (.bool true))) (fun i hi => ?_) (fun i j hij hj => ?_)
 . show codV ((l[i]?.map Prod.fst).getD (.bool true)) < 8192
   rw [List.getElem?_eq_getElem hi]
   exact key _ (List.getElem_mem hi)
 . show codV ((l[i]?.map Prod.fst).getD (.bool true)) ≠ codV ((l[j]?.map Prod.fst).getD (.bool true))
   rw [List.getElem?_eq_getElem (show i < l.length by omega), List.getElem?_eq_getElem hj]
   exact fun he => (List.pairwise_iff_getElem.mp h.2 i j (by omega) hj hij) (inj _ (List.getElem_mem _) _ (List.getElem_mem hj) he)
theorem LgInv.lgK {gl : Gl} {c : Cn} (h8 : c.hn <= 8) (hm : ∀ i, i < c.hn -> lenV (c.hv gl i) <= 1024) {i : Nat} {b : List (Value × Value)} (hb : b = lgR gl c i) (h0 : LgInv b) : ∀ {k : Nat}, k <= lenV (c.rv gl i) -> (∀ j, j < k -> ck5B gl c i j = true) -> LgInv (lgK gl c i b k)
 | 0, _, _ => h0
 | k + 1, hk, h => by
   have ih := LgInv.lgK h8 hm hb h0 (k := k) (by omega) fun j hj => h j (by omega)
   have hc := h k (by omega)
   unfold ck5B at hc
   have t1 : thZ gl c (rfG gl (c.rv gl i) k).h (rfG gl (c.rv gl i) k).a = true := by
     cases ht : thZ gl c (rfG gl (c.rv gl i) k).h (rfG gl (c.rv gl i) k).a
     . rw [ht] at hc; cases hc
     . rfl
   have t2 : twiZ gl c (i : Int) (k : Int) = false := by
     rw [t1] at hc
     cases ht : twiZ gl c (i : Int) (k : Int)
     . rfl
     . rw [ht] at hc; cases hc
   obtain ⟨q1, q2, q3, q4⟩ := thZ_in t1
   have q5 := hm (rfG gl (c.rv gl i) k).h.toNat (by omega)
   refine ⟨fun p hp => ?_, List.pairwise_cons.mpr ⟨fun p hp he => ?_, ih.2⟩⟩
   . rcases List.mem_cons.mp hp with rfl | hp
     . refine ⟨(rfG gl (c.rv gl i) k).h.toNat, (rfG gl (c.rv gl i) k).a.toNat, ?_, by omega, by omega⟩
       rw [Int.toNat_of_nonneg q1, Int.toNat_of_nonneg q3]
     . exact ih.1 p hp
   . have := lg_has (gl := gl) (c := c) (i := i) (k := k) (by omega)
     rw [t2] at this
     subst hb
     exact hasV_false.mp this p hp he.symm
theorem LgInv.lgR {gl : Gl} {c : Cn} (h8 : c.hn <= 8) (hm : ∀ i, i < c.hn -> lenV (c.hv gl i) <= 1024) : ∀ {i : Nat}, (∀ j, j < i -> ck4B gl c j = true) -> LgInv (lgR gl c i)
 | 0, _ => ⟨fun p hp => (by cases hp), List.Pairwise.nil⟩
 | i + 1, h => LgInv.lgK h8 hm rfl (LgInv.lgR h8 hm fun j hj => h j (by omega)) (Nat.le_refl _) fun j hj => by
   have hc := h i (by omega)
   have : Nat.beq (skipN (ck5B gl c i) (lenV (c.rv gl i)) 0) (lenV (c.rv gl i)) = true := by
     unfold ck4B at hc
     cases h1 : (((lenV (c.rv gl i) : Nat) : Int) == 0) <;> rw [h1] at hc
     . cases h2 : decide ((i : Int) > 0) <;> rw [h2] at hc
       . exact hc
       . cases h3 : decide (raG gl c.r i <= raG gl c.r ((i : Int) - 1).toNat) <;> rw [h3] at hc
         . exact hc
         . cases hc
     . cases hc
   exact skipN_full this j hj
theorem lg_len {gl : Gl} {c : Cn} (h8 : c.hn <= 8) (hm : ∀ i, i < c.hn -> lenV (c.hv gl i) <= 1024) {i k : Nat} (hb : ∀ j, j < i -> ck4B gl c j = true) (hk : k <= lenV (c.rv gl i)) (h : ∀ j, j < k -> ck5B gl c i j = true) : (lgA gl c i k).length < maxLen := by
 have : (lgA gl c i k).length <= 8192 := (LgInv.lgK h8 hm rfl (LgInv.lgR h8 hm hb) hk h).length
 unfold maxLen
 omega
theorem rwi_tff (gl : Gl) (c : Cn) (hc : CnOk gl c) (sc : CnSm gl c) (i : Nat) (hi : i < c.rn) (k : Nat) (hk : k < lenV (c.rv gl i)) (hks : KeysIn Try.prog 46 ((.agg #[.int .i64 (rfG gl (c.rv gl i) k).h, .int .i64 (rfG gl (c.rv gl i) k).a]) :: (lgA gl c i k).map Prod.fst)) (hfm : FmtV (lgA gl c i k) (.agg #[])) (hln : (lgA gl c i k).length < maxLen) (h1 : (hasV (lgA gl c i k) (Value.agg #[Value.int IntKind.i64 (rfG gl (c.rv gl i) k).h, Value.int IntKind.i64 (rfG gl (c.rv gl i) k).a])) = false) (h2 : (!thZ gl c (rfG gl (c.rv gl i) k).h (rfG gl (c.rv gl i) k).a) = false) (W : World) (hG : GlobOk gl W) : S2.Sem (enX gl) W 64 (rwK (rwI ++ (0 :: rwP))) (rwS c i (lgA gl c i k) (rwL gl c i k)) none (rwS c i (lgA gl c i (k + 1)) (rwL gl c i (k + 1))) := by
 have s1 := sc.1
 have s2 := sc.2.1
 have s3 := sc.2.2.2 i hi
 refine sem_iter (enX_ok gl) hG (p := (rwQ [40, 41, 42])) (fuel := 1000) [true, false, false] [(pre (inI ((k : Int) + 1)), true), (pre (decide ((lgA gl c i k).length < maxLen)), true), (pre (keysB Try.prog 46 (Value.agg #[Value.int IntKind.i64 (rfG gl (c.rv gl i) k).h, Value.int IntKind.i64 (rfG gl (c.rv gl i) k).a]) (lgA gl c i k)), true), (!thZ gl c (rfG gl (c.rv gl i) k).h (rfG gl (c.rv gl i) k).a, false), (pre (okC gl (c, (rfG gl (c.rv gl i) k).h, (rfG gl (c.rv gl i) k).a).fst), true), (hasV (lgA gl c i k) (Value.agg #[Value.int IntKind.i64 (rfG gl (c.rv gl i) k).h, Value.int IntKind.i64 (rfG gl (c.rv gl i) k).a]), false), (pre (fmtVB (lgA gl c i k) (Value.agg #[])), true), (pre (keysB Try.prog 46 (Value.agg #[Value.int IntKind.i64 (rfG gl (c.rv gl i) k).h, Value.int IntKind.i64 (rfG gl (c.rv gl i) k).a]) (lgA gl c i k)), true), (pre (rowB gl (c.rv gl i) (rfE gl (c.rv gl i))), true), (pre (decide (k < (lenV (c.rv gl i)))), true), (pre (rowB gl (c.rv gl i) (rfE gl (c.rv gl i))), true), (pre (idxB ((k : Int)) (lenV (c.rv gl i))), true), (decide ((k : Int) < ((lenV (c.rv gl i) : Nat) : Int)), true)] (by kernel_rfl) (by kernel_rfl) ?_
 refine qF ?_ ?_ ?_ ?_ <| qF ?_ ?_ ?_ ?_ <| qF ?_ ?_ ?_ ?_ <| qA ?_ <| qZ
 . exact ob_inI (by omega)
 . exact ob_lt hln
 . exact keysB_ok.mpr hks
 . assumption
 . exact propB_ok.mpr hc
 . assumption
 . exact fmtVB_ok.mpr hfm
 . exact keysB_ok.mpr hks
 . exact rowB_ok.mpr (by first | exact hc.hs | exact hc.rw | exact hc.rc _ (by omega) | exact hc.rf _ (by omega))
 . exact ob_lt (by omega)
 . exact rowB_ok.mpr (by first | exact hc.hs | exact hc.rw | exact hc.rc _ (by omega) | exact hc.rf _ (by omega))
 . exact ob_idx (by omega)
 . exact ob_yes (by omega)
theorem rwi_tft (gl : Gl) (c : Cn) (hc : CnOk gl c) (sc : CnSm gl c) (i : Nat) (hi : i < c.rn) (k : Nat) (hk : k < lenV (c.rv gl i)) (hks : KeysIn Try.prog 46 ((.agg #[.int .i64 (rfG gl (c.rv gl i) k).h, .int .i64 (rfG gl (c.rv gl i) k).a]) :: (lgA gl c i k).map Prod.fst)) (hfm : FmtV (lgA gl c i k) (.agg #[])) (hln : (lgA gl c i k).length < maxLen) (h1 : (hasV (lgA gl c i k) (Value.agg #[Value.int IntKind.i64 (rfG gl (c.rv gl i) k).h, Value.int IntKind.i64 (rfG gl (c.rv gl i) k).a])) = false) (h2 : (!thZ gl c (rfG gl (c.rv gl i) k).h (rfG gl (c.rv gl i) k).a) = true) (W : World) (hG : GlobOk gl W) : S2.Sem (enX gl) W 64 (rwK (rwI ++ (0 :: rwP))) (rwS c i (lgA gl c i k) (rwL gl c i k)) (some none) (rwT) := by
 have s1 := sc.1
 have s2 := sc.2.1
 have s3 := sc.2.2.2 i hi
 refine sem_iter (enX_ok gl) hG (p := rwZ) (fuel := 1000) [true, false, true] [(!thZ gl c (rfG gl (c.rv gl i) k).h (rfG gl (c.rv gl i) k).a, true), (pre (okC gl (c, (rfG gl (c.rv gl i) k).h, (rfG gl (c.rv gl i) k).a).fst), true), (hasV (lgA gl c i k) (Value.agg #[Value.int IntKind.i64 (rfG gl (c.rv gl i) k).h, Value.int IntKind.i64 (rfG gl (c.rv gl i) k).a]), false), (pre (fmtVB (lgA gl c i k) (Value.agg #[])), true), (pre (keysB Try.prog 46 (Value.agg #[Value.int IntKind.i64 (rfG gl (c.rv gl i) k).h, Value.int IntKind.i64 (rfG gl (c.rv gl i) k).a]) (lgA gl c i k)), true), (pre (rowB gl (c.rv gl i) (rfE gl (c.rv gl i))), true), (pre (decide (k < (lenV (c.rv gl i)))), true), (pre (rowB gl (c.rv gl i) (rfE gl (c.rv gl i))), true), (pre (idxB ((k : Int)) (lenV (c.rv gl i))), true), (decide ((k : Int) < ((lenV (c.rv gl i) : Nat) : Int)), true)] (by kernel_rfl) (by kernel_rfl) ?_
 refine qF ?_ ?_ ?_ ?_ <| qF ?_ ?_ ?_ ?_ <| qA ?_ <| qA ?_ <| qZ
 . assumption
 . exact propB_ok.mpr hc
 . assumption
 . exact fmtVB_ok.mpr hfm
 . exact keysB_ok.mpr hks
 . exact rowB_ok.mpr (by first | exact hc.hs | exact hc.rw | exact hc.rc _ (by omega) | exact hc.rf _ (by omega))
 . exact ob_lt (by omega)
 . exact rowB_ok.mpr (by first | exact hc.hs | exact hc.rw | exact hc.rc _ (by omega) | exact hc.rf _ (by omega))
 . exact ob_idx (by omega)
 . exact ob_yes (by omega)
theorem rwi_tt (gl : Gl) (c : Cn) (hc : CnOk gl c) (sc : CnSm gl c) (i : Nat) (hi : i < c.rn) (k : Nat) (hk : k < lenV (c.rv gl i)) (hks : KeysIn Try.prog 46 ((.agg #[.int .i64 (rfG gl (c.rv gl i) k).h, .int .i64 (rfG gl (c.rv gl i) k).a]) :: (lgA gl c i k).map Prod.fst)) (hfm : FmtV (lgA gl c i k) (.agg #[])) (hln : (lgA gl c i k).length < maxLen) (h1 : (hasV (lgA gl c i k) (Value.agg #[Value.int IntKind.i64 (rfG gl (c.rv gl i) k).h, Value.int IntKind.i64 (rfG gl (c.rv gl i) k).a])) = true) (W : World) (hG : GlobOk gl W) : S2.Sem (enX gl) W 64 (rwK (rwI ++ (0 :: rwP))) (rwS c i (lgA gl c i k) (rwL gl c i k)) (some none) (rwT) := by
 have s1 := sc.1
 have s2 := sc.2.1
 have s3 := sc.2.2.2 i hi
 refine sem_iter (enX_ok gl) hG (p := rwZ) (fuel := 1000) [true, true] [(hasV (lgA gl c i k) (Value.agg #[Value.int IntKind.i64 (rfG gl (c.rv gl i) k).h, Value.int IntKind.i64 (rfG gl (c.rv gl i) k).a]), true), (pre (fmtVB (lgA gl c i k) (Value.agg #[])), true), (pre (keysB Try.prog 46 (Value.agg #[Value.int IntKind.i64 (rfG gl (c.rv gl i) k).h, Value.int IntKind.i64 (rfG gl (c.rv gl i) k).a]) (lgA gl c i k)), true), (pre (rowB gl (c.rv gl i) (rfE gl (c.rv gl i))), true), (pre (decide (k < (lenV (c.rv gl i)))), true), (pre (rowB gl (c.rv gl i) (rfE gl (c.rv gl i))), true), (pre (idxB ((k : Int)) (lenV (c.rv gl i))), true), (decide ((k : Int) < ((lenV (c.rv gl i) : Nat) : Int)), true)] (by kernel_rfl) (by kernel_rfl) ?_
 refine qF ?_ ?_ ?_ ?_ <| qF ?_ ?_ ?_ ?_ <| qZ
 . assumption
 . exact fmtVB_ok.mpr hfm
 . exact keysB_ok.mpr hks
 . exact rowB_ok.mpr (by first | exact hc.hs | exact hc.rw | exact hc.rc _ (by omega) | exact hc.rf _ (by omega))
 . exact ob_lt (by omega)
 . exact rowB_ok.mpr (by first | exact hc.hs | exact hc.rw | exact hc.rc _ (by omega) | exact hc.rf _ (by omega))
 . exact ob_idx (by omega)
 . exact ob_yes (by omega)
theorem rwi_end (gl : Gl) (c : Cn) (hc : CnOk gl c) (sc : CnSm gl c) (i : Nat) (hi : i < c.rn) (W : World) (hG : GlobOk gl W) : S2.Sem (enX gl) W 64 (rwK (rwI ++ (0 :: rwP))) (rwS c i (lgA gl c i (lenV (c.rv gl i))) (rwL gl c i (lenV (c.rv gl i)))) (some (some 2)) (rwS c i (lgA gl c i (lenV (c.rv gl i))) (rwL gl c i (lenV (c.rv gl i)))) := by
 have s1 := sc.1
 have s2 := sc.2.1
 have s3 := sc.2.2.2 i hi
 refine sem_iter (enX_ok gl) hG (p := (rwQ [40, 41, 42])) (fuel := 1000) [false] [(decide (((lenV (c.rv gl i) : Nat) : Int) < ((lenV (c.rv gl i) : Nat) : Int)), false)] (by kernel_rfl) (by kernel_rfl) ?_
 refine qA ?_ <| qZ
 . exact ob_no (by omega)
theorem rwi_step (gl : Gl) (c : Cn) (hc : CnOk gl c) (sc : CnSm gl c) (ri : RfIn gl c) (i : Nat) (hi : i < c.rn) (k : Nat) (hk : k < lenV (c.rv gl i)) (hln : (lgA gl c i k).length < maxLen) (h : ck5B gl c i k = true) (W : World) (hG : GlobOk gl W) : S2.Sem (enX gl) W 64 (rwK (rwI ++ (0 :: rwP))) (rwS c i (lgA gl c i k) (rwL gl c i k)) none (rwS c i (lgA gl c i (k + 1)) (rwL gl c i (k + 1))) := by
 unfold ck5B at h
 cases t1 : thZ gl c (rfG gl (c.rv gl i) k).h (rfG gl (c.rv gl i) k).a <;> rw [t1] at h
 . cases h
 . cases t2 : twiZ gl c (i : Int) (k : Int) <;> rw [t2] at h
   . exact rwi_tff gl c hc sc i hi k hk (lg_keys ri hi hk) lg_fmt hln (by rw [<- t2]; exact lg_has hk) (by rw [t1]; rfl) W hG
   . cases h
theorem rwi_out (gl : Gl) (c : Cn) (hc : CnOk gl c) (sc : CnSm gl c) (ri : RfIn gl c) (i : Nat) (hi : i < c.rn) (k : Nat) (hk : k < lenV (c.rv gl i)) (hln : (lgA gl c i k).length < maxLen) (h : ck5B gl c i k = false) (W : World) (hG : GlobOk gl W) : S2.Sem (enX gl) W 64 (rwK (rwI ++ (0 :: rwP))) (rwS c i (lgA gl c i k) (rwL gl c i k)) (some none) rwT := by
 unfold ck5B at h
 cases t2 : twiZ gl c (i : Int) (k : Int)
 . cases t1 : thZ gl c (rfG gl (c.rv gl i) k).h (rfG gl (c.rv gl i) k).a <;> rw [t1] at h
   . exact rwi_tft gl c hc sc i hi k hk (lg_keys ri hi hk) lg_fmt hln (by rw [<- t2]; exact lg_has hk) (by rw [t1]; rfl) W hG
   . rw [t2] at h; cases h
 . exact rwi_tt gl c hc sc i hi k hk (lg_keys ri hi hk) lg_fmt hln (by rw [<- t2]; exact lg_has hk) W hG
theorem rwi_yes (gl : Gl) (c : Cn) (hc : CnOk gl c) (sc : CnSm gl c) (ri : RfIn gl c) (h8 : c.hn <= 8) (hm : ∀ i, i < c.hn -> lenV (c.hv gl i) <= 1024) (i : Nat) (hi : i < c.rn) (hb : ∀ j, j < i -> ck4B gl c j = true) (h : skipN (ck5B gl c i) (lenV (c.rv gl i)) 0 = lenV (c.rv gl i)) (W : World) (hG : GlobOk gl W) : S2.Sem (enX gl) W 64 (.loop (rwK (rwI ++ (0 :: rwP)))) (rwS c i (lgA gl c i 0) (rwL gl c i 0)) (some (some 2)) (rwS c i (lgA gl c i (lenV (c.rv gl i))) (rwL gl c i (lenV (c.rv gl i)))) :=
 sem_loop (E := enX gl) (w0 := base0 W) (nb := 0) (nl := 0) (n := 64) (c := rwK (rwI ++ (0 :: rwP))) (x := some (some 2)) (fun z => rwS c i (lgA gl c i z) (rwL gl c i z)) (lenV (c.rv gl i)) (by simp) (fun z hz => rwi_step gl c hc sc ri i hi z hz (lg_len h8 hm hb (by omega) fun j hj => skipN_all (ck5B gl c i) (lenV (c.rv gl i)) 0 j (by omega) (by omega)) (skipN_all (ck5B gl c i) (lenV (c.rv gl i)) 0 z (by omega) (by omega)) W hG) (rwi_end gl c hc sc i hi W hG)
theorem rwi_no (gl : Gl) (c : Cn) (hc : CnOk gl c) (sc : CnSm gl c) (ri : RfIn gl c) (h8 : c.hn <= 8) (hm : ∀ i, i < c.hn -> lenV (c.hv gl i) <= 1024) (i : Nat) (hi : i < c.rn) (hb : ∀ j, j < i -> ck4B gl c j = true) (h : skipN (ck5B gl c i) (lenV (c.rv gl i)) 0 ≠ lenV (c.rv gl i)) (W : World) (hG : GlobOk gl W) : S2.Sem (enX gl) W 64 (.loop (rwK (rwI ++ (0 :: rwP)))) (rwS c i (lgA gl c i 0) (rwL gl c i 0)) (some none) rwT := by
 have g4 := skipN_le (ck5B gl c i) (lenV (c.rv gl i)) 0
 exact sem_loop (E := enX gl) (w0 := base0 W) (nb := 0) (nl := 0) (n := 64) (c := rwK (rwI ++ (0 :: rwP))) (x := some none) (s' := rwT) (fun z => rwS c i (lgA gl c i z) (rwL gl c i z)) (skipN (ck5B gl c i) (lenV (c.rv gl i)) 0) (by simp) (fun z hz => rwi_step gl c hc sc ri i hi z (by omega) (lg_len h8 hm hb (by omega) fun j hj => skipN_all (ck5B gl c i) (lenV (c.rv gl i)) 0 j (by omega) (by omega)) (skipN_all (ck5B gl c i) (lenV (c.rv gl i)) 0 z (by omega) hz) W hG) (rwi_out gl c hc sc ri i hi _ (by omega) (lg_len h8 hm hb (by omega) fun j hj => skipN_all (ck5B gl c i) (lenV (c.rv gl i)) 0 j (by omega) hj) (skipN_hit (by omega)) W hG)
theorem rwo_tffy (gl : Gl) (c : Cn) (hc : CnOk gl c) (sc : CnSm gl c) (ri : RfIn gl c) (h8 : c.hn <= 8) (hm : ∀ i, i < c.hn -> lenV (c.hv gl i) <= 1024) (i : Nat) (hi : i < c.rn) (hb : ∀ j, j < i -> ck4B gl c j = true) (h1 : (((lenV (c.rv gl i) : Nat) : Int) == 0) = false) (h2 : (decide ((i : Int) > 0)) = false) (h : skipN (ck5B gl c i) (lenV (c.rv gl i)) 0 = lenV (c.rv gl i)) (W : World) (hG : GlobOk gl W) : S2.Sem (enX gl) W 64 (rwK rwP) (rwS c i (lgR gl c i) []) none (rwS c (i + 1) (lgR gl c (i + 1)) []) := by
 have s1 := sc.1
 have s2 := sc.2.1
 have s3 := sc.2.2.2 i hi
 have g2 := of_decide_eq_false h2
 refine sem_iterP (enX_ok gl) hG (fuel := 1000) (d := 30) (p := (rwQ [])) [⟨rwI, (rwQ [40, 41, 42]), (some (some 2)), (rwS c i (lgA gl c i (lenV (c.rv gl i))) (rwL gl c i (lenV (c.rv gl i))))⟩] [true, false, false] [(pre (inI ((i : Int) + 1)), true), (pre (rowB gl (c.rv gl i) (rfE gl (c.rv gl i))), true), (decide ((i : Int) > 0), false), (((lenV (c.rv gl i) : Nat) : Int) == 0, false), (pre (rowB gl (c.rv gl i) (rfE gl (c.rv gl i))), true), (pre (rowB gl c.r (rwE gl c.r)), true), (pre (decide (i < c.rn)), true), (pre (rowB gl c.r (rwE gl c.r)), true), (pre (idxB ((i : Int)) c.rn), true), (decide ((i : Int) < (c.rn : Int)), true)] [⟨.loop (rwK (rwI ++ (0 :: rwP))), rwS c i (lgA gl c i 0) (rwL gl c i 0), (some (some 2)), (rwS c i (lgA gl c i (lenV (c.rv gl i))) (rwL gl c i (lenV (c.rv gl i))))⟩] (by kernel_rfl) (by kernel_rfl) ?_ (fun t ht => by obtain rfl := List.mem_singleton.mp ht; exact rwi_yes gl c hc sc ri h8 hm i hi hb h W hG)
 refine qF ?_ ?_ ?_ ?_ <| qF ?_ ?_ ?_ ?_ <| qA ?_ <| qA ?_ <| qZ
 . exact ob_inI (by omega)
 . exact rowB_ok.mpr (by first | exact hc.hs | exact hc.rw | exact hc.rc _ (by omega) | exact hc.rf _ (by omega))
 . assumption
 . assumption
 . exact rowB_ok.mpr (by first | exact hc.hs | exact hc.rw | exact hc.rc _ (by omega) | exact hc.rf _ (by omega))
 . exact rowB_ok.mpr (by first | exact hc.hs | exact hc.rw | exact hc.rc _ (by omega) | exact hc.rf _ (by omega))
 . exact ob_lt (by omega)
 . exact rowB_ok.mpr (by first | exact hc.hs | exact hc.rw | exact hc.rc _ (by omega) | exact hc.rf _ (by omega))
 . exact ob_idx (by omega)
 . exact ob_yes (by omega)
theorem rwo_tffn (gl : Gl) (c : Cn) (hc : CnOk gl c) (sc : CnSm gl c) (ri : RfIn gl c) (h8 : c.hn <= 8) (hm : ∀ i, i < c.hn -> lenV (c.hv gl i) <= 1024) (i : Nat) (hi : i < c.rn) (hb : ∀ j, j < i -> ck4B gl c j = true) (h1 : (((lenV (c.rv gl i) : Nat) : Int) == 0) = false) (h2 : (decide ((i : Int) > 0)) = false) (h : skipN (ck5B gl c i) (lenV (c.rv gl i)) 0 ≠ lenV (c.rv gl i)) (W : World) (hG : GlobOk gl W) : S2.Sem (enX gl) W 64 (rwK rwP) (rwS c i (lgR gl c i) []) (some none) (rwT) := by
 have s1 := sc.1
 have s2 := sc.2.1
 have s3 := sc.2.2.2 i hi
 have g2 := of_decide_eq_false h2
 refine sem_iterP (enX_ok gl) hG (fuel := 1000) (d := 30) (p := rwZ) [⟨rwI, (rwQ [40, 41, 42]), some none, rwT⟩] [true, false, false] [(pre (rowB gl (c.rv gl i) (rfE gl (c.rv gl i))), true), (decide ((i : Int) > 0), false), (((lenV (c.rv gl i) : Nat) : Int) == 0, false), (pre (rowB gl (c.rv gl i) (rfE gl (c.rv gl i))), true), (pre (rowB gl c.r (rwE gl c.r)), true), (pre (decide (i < c.rn)), true), (pre (rowB gl c.r (rwE gl c.r)), true), (pre (idxB ((i : Int)) c.rn), true), (decide ((i : Int) < (c.rn : Int)), true)] [⟨.loop (rwK (rwI ++ (0 :: rwP))), rwS c i (lgA gl c i 0) (rwL gl c i 0), some none, rwT⟩] (by kernel_rfl) (by kernel_rfl) ?_ (fun t ht => by obtain rfl := List.mem_singleton.mp ht; exact rwi_no gl c hc sc ri h8 hm i hi hb h W hG)
 refine qF ?_ ?_ ?_ ?_ <| qF ?_ ?_ ?_ ?_ <| qA ?_ <| qZ
 . exact rowB_ok.mpr (by first | exact hc.hs | exact hc.rw | exact hc.rc _ (by omega) | exact hc.rf _ (by omega))
 . assumption
 . assumption
 . exact rowB_ok.mpr (by first | exact hc.hs | exact hc.rw | exact hc.rc _ (by omega) | exact hc.rf _ (by omega))
 . exact rowB_ok.mpr (by first | exact hc.hs | exact hc.rw | exact hc.rc _ (by omega) | exact hc.rf _ (by omega))
 . exact ob_lt (by omega)
 . exact rowB_ok.mpr (by first | exact hc.hs | exact hc.rw | exact hc.rc _ (by omega) | exact hc.rf _ (by omega))
 . exact ob_idx (by omega)
 . exact ob_yes (by omega)
theorem rwo_tftfy (gl : Gl) (c : Cn) (hc : CnOk gl c) (sc : CnSm gl c) (ri : RfIn gl c) (h8 : c.hn <= 8) (hm : ∀ i, i < c.hn -> lenV (c.hv gl i) <= 1024) (i : Nat) (hi : i < c.rn) (hb : ∀ j, j < i -> ck4B gl c j = true) (h1 : (((lenV (c.rv gl i) : Nat) : Int) == 0) = false) (h2 : (decide ((i : Int) > 0)) = true) (h3 : (decide (raG gl c.r i <= raG gl c.r ((i : Int) - 1).toNat)) = false) (h : skipN (ck5B gl c i) (lenV (c.rv gl i)) 0 = lenV (c.rv gl i)) (W : World) (hG : GlobOk gl W) : S2.Sem (enX gl) W 64 (rwK rwP) (rwS c i (lgR gl c i) []) none (rwS c (i + 1) (lgR gl c (i + 1)) []) := by
 have s1 := sc.1
 have s2 := sc.2.1
 have s3 := sc.2.2.2 i hi
 have g2 := of_decide_eq_true h2
 have g3 := of_decide_eq_false h3
 refine sem_iterP (enX_ok gl) hG (fuel := 1000) (d := 30) (p := (rwQ [])) [⟨rwI, (rwQ [40, 41, 42]), (some (some 2)), (rwS c i (lgA gl c i (lenV (c.rv gl i))) (rwL gl c i (lenV (c.rv gl i))))⟩] [true, false, true, false] [(pre (inI ((i : Int) + 1)), true), (pre (rowB gl (c.rv gl i) (rfE gl (c.rv gl i))), true), (decide (raG gl c.r i <= raG gl c.r ((i : Int) - 1).toNat), false), (pre (rowB gl c.r (rwE gl c.r)), true), (pre (decide (((i : Int) - 1).toNat < c.rn)), true), (pre (rowB gl c.r (rwE gl c.r)), true), (pre (decide (((i : Int) - 1).toNat < c.rn)), true), (pre (rowB gl c.r (rwE gl c.r)), true), (pre (idxB ((i : Int) - 1) c.rn), true), (pre (inI ((i : Int) - 1)), true), (decide ((i : Int) > 0), true), (((lenV (c.rv gl i) : Nat) : Int) == 0, false), (pre (rowB gl (c.rv gl i) (rfE gl (c.rv gl i))), true), (pre (rowB gl c.r (rwE gl c.r)), true), (pre (decide (i < c.rn)), true), (pre (rowB gl c.r (rwE gl c.r)), true), (pre (idxB ((i : Int)) c.rn), true), (decide ((i : Int) < (c.rn : Int)), true)] [⟨.loop (rwK (rwI ++ (0 :: rwP))), rwS c i (lgA gl c i 0) (rwL gl c i 0), (some (some 2)), (rwS c i (lgA gl c i (lenV (c.rv gl i))) (rwL gl c i (lenV (c.rv gl i))))⟩] (by kernel_rfl) (by kernel_rfl) ?_ (fun t ht => by obtain rfl := List.mem_singleton.mp ht; exact rwi_yes gl c hc sc ri h8 hm i hi hb h W hG)
 refine qF ?_ ?_ ?_ ?_ <| qF ?_ ?_ ?_ ?_ <| qF ?_ ?_ ?_ ?_ <| qF ?_ ?_ ?_ ?_ <| qA ?_ <| qA ?_ <| qZ
 . exact ob_inI (by omega)
 . exact rowB_ok.mpr (by first | exact hc.hs | exact hc.rw | exact hc.rc _ (by omega) | exact hc.rf _ (by omega))
 . assumption
 . exact rowB_ok.mpr (by first | exact hc.hs | exact hc.rw | exact hc.rc _ (by omega) | exact hc.rf _ (by omega))
 . exact ob_lt (by omega)
 . exact rowB_ok.mpr (by first | exact hc.hs | exact hc.rw | exact hc.rc _ (by omega) | exact hc.rf _ (by omega))
 . exact ob_lt (by omega)
 . exact rowB_ok.mpr (by first | exact hc.hs | exact hc.rw | exact hc.rc _ (by omega) | exact hc.rf _ (by omega))
 . exact ob_idx (by omega)
 . exact ob_inI (by omega)
 . assumption
 . assumption
 . exact rowB_ok.mpr (by first | exact hc.hs | exact hc.rw | exact hc.rc _ (by omega) | exact hc.rf _ (by omega))
 . exact rowB_ok.mpr (by first | exact hc.hs | exact hc.rw | exact hc.rc _ (by omega) | exact hc.rf _ (by omega))
 . exact ob_lt (by omega)
 . exact rowB_ok.mpr (by first | exact hc.hs | exact hc.rw | exact hc.rc _ (by omega) | exact hc.rf _ (by omega))
 . exact ob_idx (by omega)
 . exact ob_yes (by omega)
theorem rwo_tftfn (gl : Gl) (c : Cn) (hc : CnOk gl c) (sc : CnSm gl c) (ri : RfIn gl c) (h8 : c.hn <= 8) (hm : ∀ i, i < c.hn -> lenV (c.hv gl i) <= 1024) (i : Nat) (hi : i < c.rn) (hb : ∀ j, j < i -> ck4B gl c j = true) (h1 : (((lenV (c.rv gl i) : Nat) : Int) == 0) = false) (h2 : (decide ((i : Int) > 0)) = true) (h3 : (decide (raG gl c.r i <= raG gl c.r ((i : Int) - 1).toNat)) = false) (h : skipN (ck5B gl c i) (lenV (c.rv gl i)) 0 ≠ lenV (c.rv gl i)) (W : World) (hG : GlobOk gl W) : S2.Sem (enX gl) W 64 (rwK rwP) (rwS c i (lgR gl c i) []) (some none) (rwT) := by
 have s1 := sc.1
 have s2 := sc.2.1
 have s3 := sc.2.2.2 i hi
 have g2 := of_decide_eq_true h2
 have g3 := of_decide_eq_false h3
 refine sem_iterP (enX_ok gl) hG (fuel := 1000) (d := 30) (p := rwZ) [⟨rwI, (rwQ [40, 41, 42]), some none, rwT⟩] [true, false, true, false] [(pre (rowB gl (c.rv gl i) (rfE gl (c.rv gl i))), true), (decide (raG gl c.r i <= raG gl c.r ((i : Int) - 1).toNat), false), (pre (rowB gl c.r (rwE gl c.r)), true), (pre (decide (((i : Int) - 1).toNat < c.rn)), true), (pre (rowB gl c.r (rwE gl c.r)), true), (pre (decide (((i : Int) - 1).toNat < c.rn)), true), (pre (rowB gl c.r (rwE gl c.r)), true), (pre (idxB ((i : Int) - 1) c.rn), true), (pre (inI ((i : Int) - 1)), true), (decide ((i : Int) > 0), true), (((lenV (c.rv gl i) : Nat) : Int) == 0, false), (pre (rowB gl (c.rv gl i) (rfE gl (c.rv gl i))), true), (pre (rowB gl c.r (rwE gl c.r)), true), (pre (decide (i < c.rn)), true), (pre (rowB gl c.r (rwE gl c.r)), true), (pre (idxB ((i : Int)) c.rn), true), (decide ((i : Int) < (c.rn : Int)), true)] [⟨.loop (rwK (rwI ++ (0 :: rwP))), rwS c i (lgA gl c i 0) (rwL gl c i 0), some none, rwT⟩] (by kernel_rfl) (by kernel_rfl) ?_ (fun t ht => by obtain rfl := List.mem_singleton.mp ht; exact rwi_no gl c hc sc ri h8 hm i hi hb h W hG)
 refine qF ?_ ?_ ?_ ?_ <| qF ?_ ?_ ?_ ?_ <| qF ?_ ?_ ?_ ?_ <| qF ?_ ?_ ?_ ?_ <| qA ?_ <| qZ
 . exact rowB_ok.mpr (by first | exact hc.hs | exact hc.rw | exact hc.rc _ (by omega) | exact hc.rf _ (by omega))
 . assumption
 . exact rowB_ok.mpr (by first | exact hc.hs | exact hc.rw | exact hc.rc _ (by omega) | exact hc.rf _ (by omega))
 . exact ob_lt (by omega)
 . exact rowB_ok.mpr (by first | exact hc.hs | exact hc.rw | exact hc.rc _ (by omega) | exact hc.rf _ (by omega))
 . exact ob_lt (by omega)
 . exact rowB_ok.mpr (by first | exact hc.hs | exact hc.rw | exact hc.rc _ (by omega) | exact hc.rf _ (by omega))
 . exact ob_idx (by omega)
 . exact ob_inI (by omega)
 . assumption
 . assumption
 . exact rowB_ok.mpr (by first | exact hc.hs | exact hc.rw | exact hc.rc _ (by omega) | exact hc.rf _ (by omega))
 . exact rowB_ok.mpr (by first | exact hc.hs | exact hc.rw | exact hc.rc _ (by omega) | exact hc.rf _ (by omega))
 . exact ob_lt (by omega)
 . exact rowB_ok.mpr (by first | exact hc.hs | exact hc.rw | exact hc.rc _ (by omega) | exact hc.rf _ (by omega))
 . exact ob_idx (by omega)
 . exact ob_yes (by omega)
theorem rwo_tftt (gl : Gl) (c : Cn) (hc : CnOk gl c) (sc : CnSm gl c) (ri : RfIn gl c) (h8 : c.hn <= 8) (hm : ∀ i, i < c.hn -> lenV (c.hv gl i) <= 1024) (i : Nat) (hi : i < c.rn) (hb : ∀ j, j < i -> ck4B gl c j = true) (h1 : (((lenV (c.rv gl i) : Nat) : Int) == 0) = false) (h2 : (decide ((i : Int) > 0)) = true) (h3 : (decide (raG gl c.r i <= raG gl c.r ((i : Int) - 1).toNat)) = true) (W : World) (hG : GlobOk gl W) : S2.Sem (enX gl) W 64 (rwK rwP) (rwS c i (lgR gl c i) []) (some none) (rwT) := by
 have s1 := sc.1
 have s2 := sc.2.1
 have s3 := sc.2.2.2 i hi
 have g2 := of_decide_eq_true h2
 have g3 := of_decide_eq_true h3
 refine sem_iter (enX_ok gl) hG (p := rwZ) (fuel := 1000) [true, false, true, true] [(decide (raG gl c.r i <= raG gl c.r ((i : Int) - 1).toNat), true), (pre (rowB gl c.r (rwE gl c.r)), true), (pre (decide (((i : Int) - 1).toNat < c.rn)), true), (pre (rowB gl c.r (rwE gl c.r)), true), (pre (decide (((i : Int) - 1).toNat < c.rn)), true), (pre (rowB gl c.r (rwE gl c.r)), true), (pre (idxB ((i : Int) - 1) c.rn), true), (pre (inI ((i : Int) - 1)), true), (decide ((i : Int) > 0), true), (((lenV (c.rv gl i) : Nat) : Int) == 0, false), (pre (rowB gl (c.rv gl i) (rfE gl (c.rv gl i))), true), (pre (rowB gl c.r (rwE gl c.r)), true), (pre (decide (i < c.rn)), true), (pre (rowB gl c.r (rwE gl c.r)), true), (pre (idxB ((i : Int)) c.rn), true), (decide ((i : Int) < (c.rn : Int)), true)] (by kernel_rfl) (by kernel_rfl) ?_
 refine qF ?_ ?_ ?_ ?_ <| qF ?_ ?_ ?_ ?_ <| qF ?_ ?_ ?_ ?_ <| qF ?_ ?_ ?_ ?_ <| qZ
 . assumption
 . exact rowB_ok.mpr (by first | exact hc.hs | exact hc.rw | exact hc.rc _ (by omega) | exact hc.rf _ (by omega))
 . exact ob_lt (by omega)
 . exact rowB_ok.mpr (by first | exact hc.hs | exact hc.rw | exact hc.rc _ (by omega) | exact hc.rf _ (by omega))
 . exact ob_lt (by omega)
 . exact rowB_ok.mpr (by first | exact hc.hs | exact hc.rw | exact hc.rc _ (by omega) | exact hc.rf _ (by omega))
 . exact ob_idx (by omega)
 . exact ob_inI (by omega)
 . assumption
 . assumption
 . exact rowB_ok.mpr (by first | exact hc.hs | exact hc.rw | exact hc.rc _ (by omega) | exact hc.rf _ (by omega))
 . exact rowB_ok.mpr (by first | exact hc.hs | exact hc.rw | exact hc.rc _ (by omega) | exact hc.rf _ (by omega))
 . exact ob_lt (by omega)
 . exact rowB_ok.mpr (by first | exact hc.hs | exact hc.rw | exact hc.rc _ (by omega) | exact hc.rf _ (by omega))
 . exact ob_idx (by omega)
 . exact ob_yes (by omega)
theorem rwo_tt (gl : Gl) (c : Cn) (hc : CnOk gl c) (sc : CnSm gl c) (ri : RfIn gl c) (h8 : c.hn <= 8) (hm : ∀ i, i < c.hn -> lenV (c.hv gl i) <= 1024) (i : Nat) (hi : i < c.rn) (hb : ∀ j, j < i -> ck4B gl c j = true) (h1 : (((lenV (c.rv gl i) : Nat) : Int) == 0) = true) (W : World) (hG : GlobOk gl W) : S2.Sem (enX gl) W 64 (rwK rwP) (rwS c i (lgR gl c i) []) (some none) (rwT) := by
 have s1 := sc.1
 have s2 := sc.2.1
 have s3 := sc.2.2.2 i hi
 refine sem_iter (enX_ok gl) hG (p := rwZ) (fuel := 1000) [true, true] [(((lenV (c.rv gl i) : Nat) : Int) == 0, true), (pre (rowB gl (c.rv gl i) (rfE gl (c.rv gl i))), true), (pre (rowB gl c.r (rwE gl c.r)), true), (pre (decide (i < c.rn)), true), (pre (rowB gl c.r (rwE gl c.r)), true), (pre (idxB ((i : Int)) c.rn), true), (decide ((i : Int) < (c.rn : Int)), true)] (by kernel_rfl) (by kernel_rfl) ?_
 refine qF ?_ ?_ ?_ ?_ <| qA ?_ <| qA ?_ <| qA ?_ <| qZ
 . assumption
 . exact rowB_ok.mpr (by first | exact hc.hs | exact hc.rw | exact hc.rc _ (by omega) | exact hc.rf _ (by omega))
 . exact rowB_ok.mpr (by first | exact hc.hs | exact hc.rw | exact hc.rc _ (by omega) | exact hc.rf _ (by omega))
 . exact ob_lt (by omega)
 . exact rowB_ok.mpr (by first | exact hc.hs | exact hc.rw | exact hc.rc _ (by omega) | exact hc.rf _ (by omega))
 . exact ob_idx (by omega)
 . exact ob_yes (by omega)
theorem rwo_step (gl : Gl) (c : Cn) (hc : CnOk gl c) (sc : CnSm gl c) (ri : RfIn gl c) (h8 : c.hn <= 8) (hm : ∀ i, i < c.hn -> lenV (c.hv gl i) <= 1024) (i : Nat) (hi : i < c.rn) (hb : ∀ j, j < i -> ck4B gl c j = true) (h : ck4B gl c i = true) (W : World) (hG : GlobOk gl W) : S2.Sem (enX gl) W 64 (rwK rwP) (rwS c i (lgR gl c i) []) none (rwS c (i + 1) (lgR gl c (i + 1)) []) := by
 cases h1 : (((lenV (c.rv gl i) : Nat) : Int) == 0)
 case' false =>
   cases h2 : (decide ((i : Int) > 0))
   case' false =>
     unfold ck4B at h; rw [h1, h2] at h; exact rwo_tffy gl c hc sc ri h8 hm i hi hb h1 h2 (qB h) W hG
   case' true =>
     cases h3 : (decide (raG gl c.r i <= raG gl c.r ((i : Int) - 1).toNat))
     case' false =>
       unfold ck4B at h; rw [h1, h2, h3] at h; exact rwo_tftfy gl c hc sc ri h8 hm i hi hb h1 h2 h3 (qB h) W hG
     case' true =>
       exfalso; unfold ck4B at h; rw [h1, h2, h3] at h; first | (cases h; done) | simp at h
 case' true =>
   exfalso; unfold ck4B at h; rw [h1] at h; first | (cases h; done) | simp at h
theorem rwo_out (gl : Gl) (c : Cn) (hc : CnOk gl c) (sc : CnSm gl c) (ri : RfIn gl c) (h8 : c.hn <= 8) (hm : ∀ i, i < c.hn -> lenV (c.hv gl i) <= 1024) (i : Nat) (hi : i < c.rn) (hb : ∀ j, j < i -> ck4B gl c j = true) (h : ck4B gl c i = false) (W : World) (hG : GlobOk gl W) : S2.Sem (enX gl) W 64 (rwK rwP) (rwS c i (lgR gl c i) []) (some none) (rwT) := by
 cases h1 : (((lenV (c.rv gl i) : Nat) : Int) == 0)
 case' false =>
   cases h2 : (decide ((i : Int) > 0))
   case' false =>
     unfold ck4B at h; rw [h1, h2] at h; exact rwo_tffn gl c hc sc ri h8 hm i hi hb h1 h2 (fun hh => by rw [hh] at h; simp at h) W hG
   case' true =>
     cases h3 : (decide (raG gl c.r i <= raG gl c.r ((i : Int) - 1).toNat))
     case' false =>
       unfold ck4B at h; rw [h1, h2, h3] at h; exact rwo_tftfn gl c hc sc ri h8 hm i hi hb h1 h2 h3 (fun hh => by rw [hh] at h; simp at h) W hG
     case' true =>
       exact rwo_tftt gl c hc sc ri h8 hm i hi hb h1 h2 h3 W hG
 case' true =>
   exact rwo_tt gl c hc sc ri h8 hm i hi hb h1 W hG
theorem rwo_end (gl : Gl) (c : Cn) (hc : CnOk gl c) (sc : CnSm gl c) (W : World) (hG : GlobOk gl W) : S2.Sem (enX gl) W 64 (rwK rwP) (rwS c c.rn (lgR gl c c.rn) []) (some (some 0)) (rwS c c.rn (lgR gl c c.rn) []) := by
 refine sem_iter (enX_ok gl) hG (p := (rwQ [])) (fuel := 1000) [false] [(decide (((c.rn : Nat) : Int) < (c.rn : Int)), false)] (by kernel_rfl) (by kernel_rfl) ?_
 refine qA ?_ <| qZ
 . exact ob_no (by omega)
theorem rowsFit_ret {gl : Gl} (c : Cn) (hc : CnOk gl c) (sc : CnSm gl c) (ri : RfIn gl c) (h8 : c.hn <= 8) (hm : ∀ i, i < c.hn -> lenV (c.hv gl i) <= 1024) (w : World) (hG : GlobOk gl w) : Ret Try.prog 25 #[cnV c] (.bool (Nat.beq (skipN (ck4B gl c) c.rn 0) c.rn)) w := by
 refine LRet.plain (?_ : LRet Try.prog 25 [cnV c] false [.inl (.bool _)] w)
 have ha : ArgsOk w [.inl (cnV c)] [cnV c] := ⟨rfl, trivial⟩
 have g4 := skipN_le (ck4B gl c) c.rn 0
 have hall : ∀ z, z < skipN (ck4B gl c) c.rn 0 -> ∀ j, j < z -> ck4B gl c j = true := fun z hz j hj => skipN_all (ck4B gl c) c.rn 0 j (by omega) (by omega)
 by_cases h : skipN (ck4B gl c) c.rn 0 = c.rn
 . rw [show Nat.beq (skipN (ck4B gl c) c.rn 0) c.rn = true from by rw [h]; exact Nat.beq_refl _]
   have hl := sem_loop (E := enX gl) (w0 := base0 w) (nb := 0) (nl := 0) (n := 64) (c := rwK rwP) (x := some (some 0)) (s' := rwS c c.rn (lgR gl c c.rn) []) (fun z => rwS c z (lgR gl c z) []) c.rn (by simp) (fun z hz => rwo_step gl c hc sc ri h8 hm z hz (hall z (by omega)) (skipN_all (ck4B gl c) c.rn 0 z (by omega) (by omega)) w hG) (rwo_end gl c hc sc w hG)
   refine fn_ok (enX_ok gl) (fuel := 1000) (d := 30) (plan := [⟨rwP, rwQ [], some (some 0), rwS c c.rn (lgR gl c c.rn) []⟩]) (orc := []) (fls := [[true, true]]) (l := [(pre (rowB gl c.r (rwE gl c.r)), true)]) (tr := [⟨.loop (rwK rwP), rwS c 0 [] [], some (some 0), rwS c c.rn (lgR gl c c.rn) []⟩]) (by kernel_rfl) ?_ Try.func25 w _ hG ha fun t ht => ?_
   . refine qA ?_ <| qZ
     . exact rowB_ok.mpr hc.rw
   . obtain rfl := List.mem_singleton.mp ht
     exact hl
 . rw [show Nat.beq (skipN (ck4B gl c) c.rn 0) c.rn = false from by rw [<- Bool.not_eq_true]; exact fun hb => h (qB hb)]
   have hl := sem_loop (E := enX gl) (w0 := base0 w) (nb := 0) (nl := 0) (n := 64) (c := rwK rwP) (x := some none) (s' := rwT) (fun z => rwS c z (lgR gl c z) []) (skipN (ck4B gl c) c.rn 0) (by simp) (fun z hz => rwo_step gl c hc sc ri h8 hm z (by omega) (hall z hz) (skipN_all (ck4B gl c) c.rn 0 z (by omega) hz) w hG) (rwo_out gl c hc sc ri h8 hm _ (by omega) (fun j hj => skipN_all (ck4B gl c) c.rn 0 j (by omega) hj) (skipN_hit (by omega)) w hG)
   refine fn_ok (enX_ok gl) (fuel := 1000) (d := 30) (plan := [⟨rwP, rwQ [], some none, rwT⟩]) (orc := []) (fls := [[true, true]]) (l := [(pre (rowB gl c.r (rwE gl c.r)), true)]) (tr := [⟨.loop (rwK rwP), rwS c 0 [] [], some none, rwT⟩]) (by kernel_rfl) ?_ Try.func25 w _ hG ha fun t ht => ?_
   . refine qA ?_ <| qZ
     . exact rowB_ok.mpr hc.rw
   . obtain rfl := List.mem_singleton.mp ht
     exact hl
noncomputable def pRowFit (gl : Gl) : PTab := prow 25 decC1 (fun x => .bool (Nat.beq (skipN (ck4B gl x) x.rn 0) x.rn)) (fun x => propB (CnOk gl x /\ CnSm gl x /\ RfIn gl x /\ x.hn <= 8 /\ ∀ i, i < x.hn -> lenV (x.hv gl i) <= 1024))
theorem pRowFit_ok {gl : Gl} : PTabOk Try.prog gl (pRowFit gl) := .row decC1_eq fun x h w hG => by
 obtain ⟨h1, h2, h3, h4, h5⟩ := propB_ok.mp h
 exact rowsFit_ret x h1 h2 h3 h4 h5 w hG
end Go.Proofs.Ytmaffamhjmlonaa
