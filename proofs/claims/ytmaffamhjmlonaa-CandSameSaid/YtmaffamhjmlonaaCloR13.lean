/- Layer 13: package cand: Clone: the regions that draw their order. -/
import Derived.Test.YtmaffamhjmlonaaCloT13
import Derived.Test.YtmaffamhjmlonaaDynP
set_option linter.unusedVariables false
set_option linter.unusedSimpArgs false
namespace Go.Proofs.Ytmaffamhjmlonaa
open Go Go.RowKit Sim S2
noncomputable def coB : Code := codeOf Try.prog 16
noncomputable def coC (p : List Nat) : Code := codeAt coB p
noncomputable def coK1 : Code := coC [0, 0, 1, 0, 1, 1]
noncomputable def coK2 : Code := coC [0, 0, 1, 0, 1, 1, 1]
noncomputable def co5 : Code := codeAt coK1 [1, 0, 0, 1, 1]
noncomputable def co10 : Code := codeAt coK2 [1, 0, 0, 1, 1]
noncomputable def opY (c : Code) (k : Nat) : Oper := ((regO c).toList[k]?).getD default
noncomputable def enO (gl : Gl) : S2.Env := enD gl noT noP (orL (lch gl) (orL (lcw gl) (orL (lcr gl) (lcf gl))))
theorem enO_ok (gl : Gl) : CallOk (enO gl) := enD_ok (.none _ _) (.none _ _) (lch_ok.or (lcw_ok.or (lcr_ok.or lcf_ok)))
theorem enO_bt (gl : Gl) : (enO gl).bt = none := rfl
def coS (T : List (Nat × S2.SV)) (bs : List S2.Blk) (ls : List LE) : S2.St := { tmps := T, own := ⟨bs, ls⟩, lo := 0, llo := 0, mem := true, orc := [], obl := [] }
def zC (v u : S2.SV) : S2.Blk := ⟨[v, u], 25, .cells⟩
def zW (v u : S2.SV) : S2.Blk := ⟨[v, u], 43, .cells⟩
def pV (v : Value) : S2.SV := .inl ([true], v)
def coM (c : Cn) : List S2.Blk := [zC (pV (.slice c.ha c.hn c.hc)) (pV (.slice c.ra c.rn c.rc)), zC (pV (.slice none 0 0)) (pV (.slice none 0 0)), zC (.c 0) (.c 1)]
def coL (c : Cn) (e1 e2 : Nat -> List Value) : List LE := [chL c.hn e1 true, cwL c.rn e2 true]
def coT1 (c : Cn) (i : Nat) : List (Nat × S2.SV) := [(1, .inr (0, 0, none)), (2, .inr (1, 0, none)), (3, .inr (2, 0, none)), (16, pV (.slice c.ha c.hn c.hc)), (17, pV (.int .i64 c.hn)), (18, pV (.int .i64 i))]
def coS5 (c : Cn) (e1 e2 : Nat -> List Value) (i : Nat) (v : Value) : S2.St := coS (coT1 c i ++ [(4, pV (.int .i64 i)), (5, pV v)]) (coM c) (coL c e1 e2)
def co5S (c : Cn) (e1 e2 : Nat -> List Value) (T : List (Nat × S2.SV)) : S2.St := coS T (coM c) (coL c e1 e2)
def co5X (i : Nat) (v : Value) : Nat -> S2.SV
 | 0 => .inr (2, 0, none)
 | 1 => .c 0
 | 2 => pV (.int .i64 i)
 | 3 => pV v
 | 5 => .lp 0 i 0 1
 | _ => .any
theorem co5_at {i : Nat} {o : Oper} (h : (regO co5)[i]? = some o) (k : Nat) (hk : (regO co5)[k]? = some (opY co5 k)) (e : i = k) : o = opY co5 k := by
 subst e
 exact Option.some.inj (h.symm.trans hk)
theorem co5_end (gl : Gl) (c : Cn) (e1 e2 : Nat -> List Value) (i : Nat) (a : Option Addr) (m k : Nat) : runOps (enO gl) 1000 48 (regO co5) [opY co5 6] { ts := [1, 2, 3, 16, 17, 18], bs := [0, 1, 2], ls := [0, 1] } [] (co5S c e1 e2 (coT1 c i ++ [(27, pV (.slice a m k)), (28, .lp 0 i 0 1)])) = some (coS (coT1 c i) (coM c) (coL c (setE e1 i (putL (e1 i) 0 [.slice a m k])) e2), [(pre (decide (i < c.hn)), true)]) := by kernel_rfl
theorem co5_cx (gl : Gl) (c : Cn) (e1 e2 : Nat -> List Value) (i : Nat) (hi : i < c.hn) (hn : c.hn <= 1000000) (a0 : Option Addr) (m k : Nat) (hv : fitV gl (.slice a0 m k) (rcE gl (.slice a0 m k)) 40) (w0 : S2.Base) (hG : GlobB (enO gl) w0) :
   CX Try.prog 48 0 0 w0 (coS5 c e1 e2 i (.slice a0 m k)) (.region (regI co5) (regO co5) true) fun x w1 s1 => x = none /\ w1.toWorld = w0.toWorld /\ FLe w0.F w1.F /\ ∃ u, FRow w1.F u (crE gl (.slice a0 m k) m) /\ s1 = coS (coT1 c i) (coM c) (coL c (setE e1 i (putL (e1 i) 0 [u])) e2) := fun Q ν a w ht hw hQ => by
 have no : ∀ {ν ν' : Nu}, S2.Agree 0 0 ν ν' := ⟨fun i hi => absurd hi (Nat.not_lt_zero _), fun i hi => absurd hi (Nat.not_lt_zero _)⟩
 have slot : ∀ {a' : Act} (t : Nat) (x : S2.SV), noDst (regO co5) t = true -> S2.look (coS5 c e1 e2 i (.slice a0 m k)).tmps t = x -> based (regO co5) a a' -> Is ν x (a'.tmps.getD t undef) := fun {a'} t x h1 h2 h3 => by
   rw [h3 t (noDst_ok h1), <- h2]
   exact ht.tm t
 refine region_put (E := enO gl) (by kernel_rfl) (by kernel_rfl) 6 (by kernel_rfl) (by kernel_rfl) (dstB_ok (n := 48) (by kernel_rfl)) hG ht.size ht.df hw (co5X i (.slice a0 m k)) 4 (crE gl (.slice a0 m k) m) (fun j o a' hj hne ho h1 h2 h3 h4 => ?_) (fun o a' W ho hb hW h1 h2 h3 h4 => ?_) (fun o a' W ho hb hW h1 h2 h3 h5 h4 => ?_)
 . match j, hj, hne, ho with
   | 0, _, _, ho =>
     obtain rfl := co5_at ho 0 (by kernel_rfl) rfl
     exact ⟨co5S c e1 e2 [(3, .inr (2, 0, none))], [], by kernel_rfl, by kernel_rfl, qZ, (show 2 < 3 by decide), rfl, TR.some h1 h2 fun p hp => by
       obtain rfl := List.mem_singleton.mp hp
       exact slot 3 _ (by kernel_rfl) rfl h4⟩
   | 1, _, _, ho =>
     obtain rfl := co5_at ho 1 (by kernel_rfl) rfl
     exact ⟨co5S c e1 e2 [(23, .inr (2, 0, none))], [], by kernel_rfl, by kernel_rfl, qZ, (show 0 < 2 by decide), rfl, TR.some h1 h2 fun p hp => by
       obtain rfl := List.mem_singleton.mp hp
       exact h3 0 (opY co5 0) 23 (by kernel_rfl) (by kernel_rfl) (by decide) (depOn_ok (by kernel_rfl))⟩
   | 2, _, _, ho =>
     obtain rfl := co5_at ho 2 (by kernel_rfl) rfl
     exact ⟨co5S c e1 e2 [(4, pV (.int .i64 i))], [], by kernel_rfl, by kernel_rfl, qZ, trivial, rfl, TR.some h1 h2 fun p hp => by
       obtain rfl := List.mem_singleton.mp hp
       exact slot 4 _ (by kernel_rfl) rfl h4⟩
   | 3, _, _, ho =>
     obtain rfl := co5_at ho 3 (by kernel_rfl) rfl
     exact ⟨co5S c e1 e2 [(5, pV (.slice a0 m k))], [], by kernel_rfl, by kernel_rfl, qZ, trivial, rfl, TR.some h1 h2 fun p hp => by
       obtain rfl := List.mem_singleton.mp hp
       exact slot 5 _ (by kernel_rfl) rfl h4⟩
   | 4, _, hne, _ => exact absurd rfl hne
   | 5, _, _, ho =>
     obtain rfl := co5_at ho 5 (by kernel_rfl) rfl
     refine ⟨co5S c e1 e2 [(24, .c 0), (25, pV (.int .i64 i))], [(pre (idxB (i : Int) c.hn), true)], by kernel_rfl, by kernel_rfl, qA (ob_idx (by omega)) qZ, (show 0 < 2 by decide), rfl, TR.some h1 h2 fun p hp => ?_⟩
     simp only [List.mem_cons, List.not_mem_nil, or_false] at hp
     rcases hp with rfl | rfl
     . exact h3 1 (opY co5 1) 24 (by kernel_rfl) (by kernel_rfl) (by decide) (depOn_ok (by kernel_rfl))
     . exact h3 2 (opY co5 2) 25 (by kernel_rfl) (by kernel_rfl) (by decide) (depOn_ok (by kernel_rfl))
 . obtain rfl := co5_at ho 4 (by kernel_rfl) rfl
   have hGW : GlobOk gl W := GlobOk.below (w := w0.toWorld) hG.glob hW.below
   refine op_mid (n := 48) (s := co5S c e1 e2 [(26, pV (.slice a0 m k))]) (s1 := co5S c e1 e2 [(26, pV (.slice a0 m k))]) (f := 39) (args := [pV (.slice a0 m k)]) (ν := ν) ho (by kernel_rfl) (fun p hp => by cases hp) (by kernel_rfl) (TR.some h1 h2 fun p hp => by
       obtain rfl := List.mem_singleton.mp hp
       exact h3 3 (opY co5 3) 26 (by kernel_rfl) (by kernel_rfl) (by decide) (depOn_ok (by kernel_rfl))) ⟨_, Try.func39, by kernel_rfl, by kernel_rfl⟩ fun vs hvs => ?_
   have hvv : vs = [.slice a0 m k] := by
     match vs, hvs with
     | [v], hvs => rw [show v = _ from hvs.1]; rfl
   subst hvv
   refine (cr_ret a0 m k hv W hGW [.slice a0 m k] ⟨rfl, trivial⟩).mono fun e W2 ⟨us, he, ho2, hb2⟩ => ?_
   obtain ⟨u, rfl, hu⟩ := outOk_l ho2
   exact ⟨u, he, u, rfl, hb2, hu⟩
 . obtain rfl := co5_at ho 6 (by kernel_rfl) rfl
   have hu := h5 (opY co5 4) 27 (by decide) (by kernel_rfl) (by kernel_rfl)
   generalize hud : a'.tmps.getD 27 undef = u at hu
   have hadd := hw.addNew (u := u) hb (e := crE gl (.slice a0 m k) m) rfl hu
   obtain ⟨F', hF, hw2, hrow⟩ := hadd.seal (k := 2) (e := crE gl (.slice a0 m k) m) rfl rfl rfl
   have hnu : (extV ν 2 u).v 2 = u := extV_new _ _ _
   have hrow : FRow F' u (crE gl (.slice a0 m k) m) := by rw [<- hnu]; exact hrow
   obtain ⟨x, cap, hux⟩ := outE_one hrow
   have hw3 : S2.WR (setF w0 F') ν (co5S c e1 e2 []).own true W := hw2.restrict (own := (co5S c e1 e2 []).own) hw.okb (extV_old _ _ _ _) (Nat.le_refl _) (fun i hi => rfl) (fun i hi => by
     have hi : i < 2 := hi
     match i, hi with
     | 0, _ => rfl
     | 1, _ => rfl)
   refine op_end (enO_ok gl) (hG.setF (enO_bt gl) F') (n := 48) [] _ ho (by kernel_rfl) (co5_end gl c e1 e2 i x m cap) (qA (ob_lt hi) qZ) (ν := ν) (TR.some h1 h2 fun p hp => ?_) hw3 fun ν' a2 W2 ht2 hw4 => hQ none (setF w0 F') _ ν' a2 W2 ⟨rfl, rfl, hF, u, hrow, ?_⟩ no ht2 hw4
   . simp only [coT1, List.mem_append, List.mem_cons, List.not_mem_nil, or_false] at hp
     rcases hp with (rfl | rfl | rfl | rfl | rfl | rfl) | rfl | rfl
     . exact slot 1 _ (by kernel_rfl) rfl h4
     . exact slot 2 _ (by kernel_rfl) rfl h4
     . exact slot 3 _ (by kernel_rfl) rfl h4
     . exact slot 16 _ (by kernel_rfl) rfl h4
     . exact slot 17 _ (by kernel_rfl) rfl h4
     . exact slot 18 _ (by kernel_rfl) rfl h4
     . show a'.tmps.getD 27 undef = .slice x m cap
       rw [hud]; exact hux
     . exact h3 5 (opY co5 5) 28 (by kernel_rfl) (by kernel_rfl) (by decide) (show 5 < 6 by decide)
   . rw [hux]; rfl
def coT2 (c : Cn) (i : Nat) : List (Nat × S2.SV) := [(1, .inr (0, 0, none)), (2, .inr (1, 0, none)), (3, .inr (2, 0, none)), (31, pV (.slice c.ra c.rn c.rc)), (32, pV (.int .i64 c.rn)), (33, pV (.int .i64 i))]
def co10S (c : Cn) (e1 e2 : Nat -> List Value) (y : Int) (v : Value) (T : List (Nat × S2.SV)) : S2.St := coS T (coM c ++ [zW (pV (.int .i64 y)) (pV v)]) (coL c e1 e2)
def coS10 (c : Cn) (e1 e2 : Nat -> List Value) (i : Nat) (y : Int) (v : Value) : S2.St := co10S c e1 e2 y v (coT2 c i ++ [(6, pV (.int .i64 i)), (7, .inr (3, 0, none))])
def co10X (i : Nat) (v : Value) : Nat -> S2.SV
 | 0 => .inr (2, 1, none)
 | 1 => .c 1
 | 2 => pV (.int .i64 i)
 | 3 => .inr (3, 1, none)
 | 4 => pV v
 | 6 => .lp 1 i 0 2
 | 7 => .lp 1 i 1 2
 | _ => .any
theorem co10_at {i : Nat} {o : Oper} (h : (regO co10)[i]? = some o) (k : Nat) (hk : (regO co10)[k]? = some (opY co10 k)) (e : i = k) : o = opY co10 k := by
 subst e
 exact Option.some.inj (h.symm.trans hk)
theorem co10_end (gl : Gl) (c : Cn) (e1 e2 : Nat -> List Value) (i : Nat) (y : Int) (v : Value) (a : Option Addr) (m k : Nat) : runOps (enO gl) 1000 48 (regO co10) [opY co10 8] { ts := [1, 2, 3, 31, 32, 33], bs := [0, 1, 2], ls := [0, 1] } [] (co10S c e1 e2 y v (coT2 c i ++ [(43, pV (.slice a m k)), (45, .lp 1 i 1 2)])) = some (coS (coT2 c i) (coM c) (coL c e1 (setE e2 i (putL (e2 i) 1 [.slice a m k]))), [(pre (decide (i < c.rn)), true)]) := by kernel_rfl
theorem co10_cx (gl : Gl) (c : Cn) (e1 e2 : Nat -> List Value) (i : Nat) (hi : i < c.rn) (hn : c.rn <= 1000000) (y : Int) (a0 : Option Addr) (m k : Nat) (hv : fitV gl (.slice a0 m k) (rfE gl (.slice a0 m k)) 16) (w0 : S2.Base) (hG : GlobB (enO gl) w0) :
   CX Try.prog 48 0 0 w0 (coS10 c e1 e2 i y (.slice a0 m k)) (.region (regI co10) (regO co10) true) fun x w1 s1 => x = none /\ w1.toWorld = w0.toWorld /\ FLe w0.F w1.F /\ ∃ u, FRow w1.F u (cfE gl (.slice a0 m k) m) /\ s1 = coS (coT2 c i) (coM c) (coL c e1 (setE e2 i (putL (e2 i) 1 [u]))) := fun Q ν a w ht hw hQ => by
 have no : ∀ {ν ν' : Nu}, S2.Agree 0 0 ν ν' := ⟨fun i hi => absurd hi (Nat.not_lt_zero _), fun i hi => absurd hi (Nat.not_lt_zero _)⟩
 have slot : ∀ {a' : Act} (t : Nat) (x : S2.SV), noDst (regO co10) t = true -> S2.look (coS10 c e1 e2 i y (.slice a0 m k)).tmps t = x -> based (regO co10) a a' -> Is ν x (a'.tmps.getD t undef) := fun {a'} t x h1 h2 h3 => by
   rw [h3 t (noDst_ok h1), <- h2]
   exact ht.tm t
 refine region_put (E := enO gl) (by kernel_rfl) (by kernel_rfl) 8 (by kernel_rfl) (by kernel_rfl) (dstB_ok (n := 48) (by kernel_rfl)) hG ht.size ht.df hw (co10X i (.slice a0 m k)) 5 (cfE gl (.slice a0 m k) m) (fun j o a' hj hne ho h1 h2 h3 h4 => ?_) (fun o a' W ho hb hW h1 h2 h3 h4 => ?_) (fun o a' W ho hb hW h1 h2 h3 h5 h4 => ?_)
 . match j, hj, hne, ho with
   | 0, _, _, ho =>
     obtain rfl := co10_at ho 0 (by kernel_rfl) rfl
     exact ⟨co10S c e1 e2 y (.slice a0 m k) [(3, .inr (2, 0, none))], [], by kernel_rfl, by kernel_rfl, qZ, (show 2 < 4 by decide), rfl, TR.some h1 h2 fun p hp => by
       obtain rfl := List.mem_singleton.mp hp
       exact slot 3 _ (by kernel_rfl) rfl h4⟩
   | 1, _, _, ho =>
     obtain rfl := co10_at ho 1 (by kernel_rfl) rfl
     exact ⟨co10S c e1 e2 y (.slice a0 m k) [(38, .inr (2, 1, none))], [], by kernel_rfl, by kernel_rfl, qZ, (show 1 < 2 by decide), rfl, TR.some h1 h2 fun p hp => by
       obtain rfl := List.mem_singleton.mp hp
       exact h3 0 (opY co10 0) 38 (by kernel_rfl) (by kernel_rfl) (by decide) (depOn_ok (by kernel_rfl))⟩
   | 2, _, _, ho =>
     obtain rfl := co10_at ho 2 (by kernel_rfl) rfl
     exact ⟨co10S c e1 e2 y (.slice a0 m k) [(6, pV (.int .i64 i))], [], by kernel_rfl, by kernel_rfl, qZ, trivial, rfl, TR.some h1 h2 fun p hp => by
       obtain rfl := List.mem_singleton.mp hp
       exact slot 6 _ (by kernel_rfl) rfl h4⟩
   | 3, _, _, ho =>
     obtain rfl := co10_at ho 3 (by kernel_rfl) rfl
     exact ⟨co10S c e1 e2 y (.slice a0 m k) [(7, .inr (3, 0, none))], [], by kernel_rfl, by kernel_rfl, qZ, (show 3 < 4 by decide), rfl, TR.some h1 h2 fun p hp => by
       obtain rfl := List.mem_singleton.mp hp
       exact slot 7 _ (by kernel_rfl) rfl h4⟩
   | 4, _, _, ho =>
     obtain rfl := co10_at ho 4 (by kernel_rfl) rfl
     exact ⟨co10S c e1 e2 y (.slice a0 m k) [(41, .inr (3, 1, none))], [], by kernel_rfl, by kernel_rfl, qZ, trivial, rfl, TR.some h1 h2 fun p hp => by
       obtain rfl := List.mem_singleton.mp hp
       exact h3 3 (opY co10 3) 41 (by kernel_rfl) (by kernel_rfl) (by decide) (depOn_ok (by kernel_rfl))⟩
   | 5, _, hne, _ => exact absurd rfl hne
   | 6, _, _, ho =>
     obtain rfl := co10_at ho 6 (by kernel_rfl) rfl
     refine ⟨co10S c e1 e2 y (.slice a0 m k) [(39, .c 1), (40, pV (.int .i64 i))], [(pre (idxB (i : Int) c.rn), true)], by kernel_rfl, by kernel_rfl, qA (ob_idx (by omega)) qZ, (show 1 < 2 by decide), rfl, TR.some h1 h2 fun p hp => ?_⟩
     simp only [List.mem_cons, List.not_mem_nil, or_false] at hp
     rcases hp with rfl | rfl
     . exact h3 1 (opY co10 1) 39 (by kernel_rfl) (by kernel_rfl) (by decide) (depOn_ok (by kernel_rfl))
     . exact h3 2 (opY co10 2) 40 (by kernel_rfl) (by kernel_rfl) (by decide) (depOn_ok (by kernel_rfl))
   | 7, _, _, ho =>
     obtain rfl := co10_at ho 7 (by kernel_rfl) rfl
     exact ⟨co10S c e1 e2 y (.slice a0 m k) [(44, .lp 1 i 0 2)], [(pre (decide (i < c.rn)), true)], by kernel_rfl, by kernel_rfl, qA (ob_lt hi) qZ, (show 1 < 2 by decide), rfl, TR.some h1 h2 fun p hp => by
       obtain rfl := List.mem_singleton.mp hp
       exact h3 6 (opY co10 6) 44 (by kernel_rfl) (by kernel_rfl) (by decide) (depOn_ok (by kernel_rfl))⟩
 . obtain rfl := co10_at ho 5 (by kernel_rfl) rfl
   have hGW : GlobOk gl W := GlobOk.below (w := w0.toWorld) hG.glob hW.below
   refine op_mid (n := 48) (s := co10S c e1 e2 y (.slice a0 m k) [(42, pV (.slice a0 m k))]) (s1 := co10S c e1 e2 y (.slice a0 m k) [(42, pV (.slice a0 m k))]) (f := 40) (args := [pV (.slice a0 m k)]) (ν := ν) ho (by kernel_rfl) (fun p hp => by cases hp) (by kernel_rfl) (TR.some h1 h2 fun p hp => by
       obtain rfl := List.mem_singleton.mp hp
       exact h3 4 (opY co10 4) 42 (by kernel_rfl) (by kernel_rfl) (by decide) (depOn_ok (by kernel_rfl))) ⟨_, Try.func40, by kernel_rfl, by kernel_rfl⟩ fun vs hvs => ?_
   have hvv : vs = [.slice a0 m k] := by
     match vs, hvs with
     | [v], hvs => rw [show v = _ from hvs.1]; rfl
   subst hvv
   refine (cf_ret a0 m k hv W hGW [.slice a0 m k] ⟨rfl, trivial⟩).mono fun e W2 ⟨us, he, ho2, hb2⟩ => ?_
   obtain ⟨u, rfl, hu⟩ := outOk_l ho2
   exact ⟨u, he, u, rfl, hb2, hu⟩
 . obtain rfl := co10_at ho 8 (by kernel_rfl) rfl
   have hu := h5 (opY co10 5) 43 (by decide) (by kernel_rfl) (by kernel_rfl)
   generalize hud : a'.tmps.getD 43 undef = u at hu
   have hadd := hw.addNew (u := u) hb (e := cfE gl (.slice a0 m k) m) rfl hu
   obtain ⟨F', hF, hw2, hrow⟩ := hadd.seal (k := 2) (e := cfE gl (.slice a0 m k) m) rfl rfl rfl
   have hnu : (extV ν 2 u).v 2 = u := extV_new _ _ _
   have hrow : FRow F' u (cfE gl (.slice a0 m k) m) := by rw [<- hnu]; exact hrow
   obtain ⟨x, cap, hux⟩ := outE_one hrow
   have hw3 : S2.WR (setF w0 F') ν (co10S c e1 e2 y (.slice a0 m k) []).own true W := hw2.restrict (own := (co10S c e1 e2 y (.slice a0 m k) []).own) hw.okb (extV_old _ _ _ _) (Nat.le_refl _) (fun i hi => rfl) (fun i hi => by
     have hi : i < 2 := hi
     match i, hi with
     | 0, _ => rfl
     | 1, _ => rfl)
   refine op_end (enO_ok gl) (hG.setF (enO_bt gl) F') (n := 48) [] _ ho (by kernel_rfl) (co10_end gl c e1 e2 i y (.slice a0 m k) x m cap) (qA (ob_lt hi) qZ) (ν := ν) (TR.some h1 h2 fun p hp => ?_) hw3 fun ν' a2 W2 ht2 hw4 => hQ none (setF w0 F') _ ν' a2 W2 ⟨rfl, rfl, hF, u, hrow, ?_⟩ no ht2 hw4
   . simp only [coT2, List.mem_append, List.mem_cons, List.not_mem_nil, or_false] at hp
     rcases hp with (rfl | rfl | rfl | rfl | rfl | rfl) | rfl | rfl
     . exact slot 1 _ (by kernel_rfl) rfl h4
     . exact slot 2 _ (by kernel_rfl) rfl h4
     . exact slot 3 _ (by kernel_rfl) rfl h4
     . exact slot 31 _ (by kernel_rfl) rfl h4
     . exact slot 32 _ (by kernel_rfl) rfl h4
     . exact slot 33 _ (by kernel_rfl) rfl h4
     . show a'.tmps.getD 43 undef = .slice x m cap
       rw [hud]; exact hux
     . exact h3 7 (opY co10 7) 45 (by kernel_rfl) (by kernel_rfl) (by decide) (show 7 < 8 by decide)
   . rw [hux]; rfl
end Go.Proofs.Ytmaffamhjmlonaa
