/- Layer 10: the program: what the methods of relax.layout do to a layout. -/
import Derived.Test.YtilljoemebbnjaaDoorK08
set_option linter.unusedVariables false
set_option linter.unusedSimpArgs false
namespace Go.Proofs.YtilljoemebbnjaaDoor
open Go.RowKit Sim S2
def iE (n : Nat) (g : Nat -> Int) : LE := ⟨3, 1, n, fun j => [.int .i64 (g j)], true, false, true⟩
def layB : S2.Blk := ⟨[.c 0, .c 1, .c 2, .c 3], 97, .cells⟩
def layM (n : Nat) (f : Nat -> It) (tg at_ : Nat -> Int) (lg : Nat -> Bool) : S2.Mem := ⟨[layB], [itE n f, iE n tg, iE n at_, blE n lg]⟩
def nmL (e : LE) (j : Nat) : Int := S2.intOf (e.el j)
def blL (e : LE) (j : Nat) : Bool := bD (e.el j)
def isOI (e : LE) (n : Nat) : Prop := e.elT = 3 /\ e.size = 1 /\ e.n = n /\ e.own = true /\ e.dead = false /\ ∀ j, j < n -> e.el j = [.int .i64 (nmL e j)]
def isOB (e : LE) (n : Nat) : Prop := e.elT = 4 /\ e.size = 1 /\ e.n = n /\ e.own = true /\ e.dead = false /\ ∀ j, j < n -> e.el j = [.bool (blL e j)]
def isOIt (e : LE) (n : Nat) (f : Nat -> It) : Prop := e.elT = 44 /\ e.size = 10 /\ e.n = n /\ e.own = false /\ e.dead = false /\ ∀ j, j < n -> e.el j = itC (f j)
def layOk (n : Nat) (f : Nat -> It) (b : S2.Blk) (e0 e1 e2 e3 : LE) : Prop := b = layB /\ isOIt e0 n f /\ isOI e1 n /\ isOI e2 n /\ isOB e3 n /\ n <= 1000000 /\
 (∀ j, j < n -> 0 <= nmL e1 j /\ nmL e1 j < n) /\ (∀ j, j < n -> 0 <= nmL e2 j /\ nmL e2 j <= 2 * n)
theorem layOk_same {n : Nat} {f : Nat -> It} {b : S2.Blk} {e0 e1 e2 e3 : LE} (h : layOk n f b e0 e1 e2 e3) : sameL [e0, e1, e2, e3] (layM n f (nmL e1) (nmL e2) (blL e3)).l := by
 obtain ⟨_, ⟨a1, a2, a3, a4, a5, a6⟩, ⟨b1, b2, b3, b4, b5, b6⟩, ⟨c1, c2, c3, c4, c5, c6⟩, ⟨d1, d2, d3, d4, d5, d6⟩, _⟩ := h
 exact ⟨⟨a1, a2, a3, a4, a5, fun j hj => a6 j (by omega)⟩, ⟨b1, b2, b3, b4, b5, fun j hj => b6 j (by omega)⟩, ⟨c1, c2, c3, c4, c5, fun j hj => c6 j (by omega)⟩, ⟨d1, d2, d3, d4, d5, fun j hj => d6 j (by omega)⟩, trivial⟩
def dzF (tg at_ : Nat -> Int) (k : Nat) : Int := 4 * (at_ (tg k).toNat - at_ k)
theorem dzE_ex : ∃ h : LE -> LE -> Nat -> Int, ∀ e e' k, h e e' k = dzF (nmL e) (nmL e') k := ⟨_, fun _ _ _ => rfl⟩
noncomputable def dzE : LE -> LE -> Nat -> Int := Classical.choose dzE_ex
theorem dzE_eq (e e' : LE) (k : Nat) : dzE e e' k = dzF (nmL e) (nmL e') k := Classical.choose_spec dzE_ex e e' k
noncomputable def envP0 : S2.Env := envk Tryd.prog (fun _ => none) true noT noP noL
theorem envP0_ok : CallOk envP0 := envk_ok (nw := true) (.none _ _) (.none _ _) (.none _ _)
noncomputable def eDist (n : Nat) (f : Nat -> It) : ETab := erow 64 fun args own => match args, own with
 | [.inr (0, 0, none), .inl (fl, .int .i64 k)], ⟨[⟨[.c 0, .c 1, .c 2, .c 3], T, .cells⟩], [e0, e1, e2, e3]⟩ => some { x := .inl ([true], .int .i64 (dzE e1 e2 k.toNat)), ok := pre (propB (layOk n f ⟨[.c 0, .c 1, .c 2, .c 3], T, .cells⟩ e0 e1 e2 e3 /\ 0 <= k /\ k < n)) }
 | _, _ => none
theorem layOk_self (n : Nat) (f : Nat -> It) (tg at_ : Nat -> Int) (lg : Nat -> Bool) (hn : n <= 1000000) (r1 : ∀ j, j < n -> 0 <= tg j /\ tg j < n) (r2 : ∀ j, j < n -> 0 <= at_ j /\ at_ j <= 2 * n) : layOk n f layB (itE n f) (iE n tg) (iE n at_) (blE n lg) :=
 ⟨rfl, ⟨rfl, rfl, rfl, rfl, rfl, fun _ _ => rfl⟩, ⟨rfl, rfl, rfl, rfl, rfl, fun _ _ => rfl⟩, ⟨rfl, rfl, rfl, rfl, rfl, fun _ _ => rfl⟩, ⟨rfl, rfl, rfl, rfl, rfl, fun _ _ => rfl⟩, hn, r1, r2⟩
theorem dzE_self (n : Nat) (tg at_ : Nat -> Int) (k : Nat) : dzE (iE n tg) (iE n at_) k = dzF tg at_ k := dzE_eq _ _ _
theorem semF_fl {P : Program} {gl : Nat -> Option (List Value)} {F : FuncId} {a : S2.SV} {fl fl' : List Bool} {v : Value} {own own' : Mem} {x : S2.SV} (h : SemF P gl F [a, .inl (fl, v)] own x own') : SemF P gl F [a, .inl (fl', v)] own x own' := fun w0 hG ν w vs hvs hw => by
 match vs, hvs with
 | [p, q], hvs => exact h w0 hG ν w [p, q] hvs hw
theorem dist_sem (n : Nat) (f : Nat -> It) (tg at_ : Nat -> Int) (lg : Nat -> Bool) (k : Nat) (hn : n <= 1000000) (r1 : ∀ j, j < n -> 0 <= tg j /\ tg j < n) (r2 : ∀ j, j < n -> 0 <= at_ j /\ at_ j <= 2 * n) (hk : k < n) (fl : List Bool) : SemF Tryd.prog (fun _ => none) 64 [.inr (0, 0, none), .inl (fl, .int .i64 k)] (layM n f tg at_ lg) (.inl ([true], .int .i64 (dzF tg at_ k))) (layM n f tg at_ lg) := by
 have t1 := r1 k hk
 have a1 := r2 k hk
 have a2 := r2 (tg k).toNat (by omega)
 refine semF_fl (fl := [true]) (fnS_ok (E := envP0) envP0_ok rfl (fuel := 1000) (d := 30) (plan := []) (orc := []) (l := [(pre (inI (4 * (at_ (tg ((k : Int)).toNat).toNat - at_ ((k : Int)).toNat))), true), (pre (inI (at_ (tg ((k : Int)).toNat).toNat - at_ ((k : Int)).toNat)), true), (pre (decide (((k : Int)).toNat < n)), true), (pre (idxB ((k : Int)) n), true), (pre (decide ((tg ((k : Int)).toNat).toNat < n)), true), (pre (idxB (tg ((k : Int)).toNat) n), true), (pre (decide (((k : Int)).toNat < n)), true), (pre (idxB ((k : Int)) n), true)]) (tr := []) (by kernel_rfl) (by kernel_rfl) ?_ Tryd.func64 fun w0 hG t ht => by cases ht)
 try simp only [qN]
 refine qF ?_ ?_ ?_ ?_ <| qF ?_ ?_ ?_ ?_ <| qZ
 . exact ob_inI (by omega)
 . exact ob_inI (by omega)
 . exact ob_lt (by omega)
 . exact ob_idx (by omega)
 . exact ob_lt (by omega)
 . exact ob_idx (by omega)
 . exact ob_lt (by omega)
 . exact ob_idx (by omega)
theorem eDist_ok {gl : Gl} (n : Nat) (f : Nat -> It) : EffOk Tryd.prog gl (eDist n f) := .row fun args own r h hr => by
 split at h
 . rename_i fl k T e0 e1 e2 e3
   simp only [qS] at h
   subst h
   obtain ⟨hL, hk0, hkn⟩ := propB_ok.mp hr
   have hs := layOk_same hL
   have hb := hL.1
   obtain ⟨_, h0, h1, h2, h3, hn, r1, r2⟩ := hL
   obtain ⟨k, rfl⟩ := Int.eq_ofNat_of_zero_le hk0
   have hkn : k < n := by omega
   simp only [qN] at *
   show SemF _ _ _ _ ⟨[_], [e0, e1, e2, e3]⟩ (.inl ([true], .int .i64 (dzE e1 e2 (k : Int).toNat))) ⟨[_], [e0, e1, e2, e3]⟩
   rw [qN, dzE_eq, hb]
   exact SemF.anyGlob (((dist_sem n f (nmL e1) (nmL e2) (blL e3) k hn r1 r2 hkn fl).from (own2 := ⟨[layB], [e0, e1, e2, e3]⟩) rfl hs).same rfl (sameL_flip hs))
 . cases h
noncomputable def envP1 (n : Nat) (f : Nat -> It) : S2.Env := enve Tryd.prog (fun _ => none) true tFits noP noL (eDist n f)
theorem envP1_ok (n : Nat) (f : Nat -> It) : CallOk (envP1 n f) := enve_ok (nw := true) tFits_ok (.none _ _) (.none _ _) (eDist_ok n f)
theorem semF_fr {P : Program} {gl : Nat -> Option (List Value)} {F : FuncId} {args : List S2.SV} {fl fl' : List Bool} {v : Value} {own own' : Mem} (h : SemF P gl F args own (.inl (fl, v)) own') : SemF P gl F args own (.inl (fl', v)) own' := fun w0 hG ν w vs hvs hw =>
 (h w0 hG ν w vs hvs hw).mono fun e w' ⟨ν', u, h1, h2, h3, h4⟩ => ⟨ν', u, h1, h2, h3, h4⟩
theorem blt_yes {i j : Nat} (h : i < j) : Nat.blt i j = true := by simpa [Nat.blt_eq] using h
theorem blt_no {i j : Nat} (h : ¬ i < j) : Nat.blt i j = false := by
 cases e : Nat.blt i j
 . rfl
 . exact absurd (by simpa [Nat.blt_eq] using e) h
theorem beq_no {i j : Nat} (h : i ≠ j) : Nat.beq i j = false := by
 cases e : Nat.beq i j
 . rfl
 . exact absurd (qB e) h
def mlF (f : Nat -> It) (tg at_ : Nat -> Int) (lg : Nat -> Bool) (k : Nat) : Bool := (f k).kind == 3 && (!lg k && !fitZ (dzF tg at_ k) 13)
theorem mlE_ex : ∃ h : (Nat -> It) -> LE -> LE -> LE -> Nat -> Bool, ∀ f e e' e'' k, h f e e' e'' k = mlF f (nmL e) (nmL e') (blL e'') k := ⟨_, fun _ _ _ _ _ => rfl⟩
noncomputable def mlE : (Nat -> It) -> LE -> LE -> LE -> Nat -> Bool := Classical.choose mlE_ex
theorem mlE_eq (f : Nat -> It) (e e' e'' : LE) (k : Nat) : mlE f e e' e'' k = mlF f (nmL e) (nmL e') (blL e'') k := Classical.choose_spec mlE_ex f e e' e'' k
noncomputable def eMust (n : Nat) (f : Nat -> It) : ETab := erow 61 fun args own => match args, own with
 | [.inr (0, 0, none), .inl (fl, .int .i64 k)], ⟨[⟨[.c 0, .c 1, .c 2, .c 3], T, .cells⟩], [e0, e1, e2, e3]⟩ => some { x := .inl ([true], .bool (mlE f e1 e2 e3 k.toNat)), ok := pre (propB (layOk n f ⟨[.c 0, .c 1, .c 2, .c 3], T, .cells⟩ e0 e1 e2 e3 /\ 0 <= k /\ k < n)) }
 | _, _ => none
theorem must_f (n : Nat) (f : Nat -> It) (tg at_ : Nat -> Int) (lg : Nat -> Bool) (k : Nat) (hn : n <= 1000000) (r1 : ∀ j, j < n -> 0 <= tg j /\ tg j < n) (r2 : ∀ j, j < n -> 0 <= at_ j /\ at_ j <= 2 * n) (hk : k < n) (h1 : ((f k).kind == 3) = false) : SemF Tryd.prog (fun _ => none) 61 [.inr (0, 0, none), .inl ([true], .int .i64 k)] (layM n f tg at_ lg) (.inl ([false], .bool false)) (layM n f tg at_ lg) := by
 refine fnS_ok (E := envP1 n f) (envP1_ok n f) rfl (fuel := 1000) (d := 30) (plan := []) (orc := [false]) (l := [((f ((k : Int)).toNat).kind == 3, false), (pre (decide (((k : Int)).toNat < n)), true), (pre (decide (((k : Int)).toNat < n)), true), (pre (idxB ((k : Int)) n), true)]) (tr := []) (by kernel_rfl) (by kernel_rfl) ?_ Tryd.func61 fun w0 hG t ht => by cases ht
 try simp only [qN]
 refine qF ?_ ?_ ?_ ?_ <| qZ
 . assumption
 . exact ob_lt (by omega)
 . exact ob_lt (by omega)
 . exact ob_idx (by omega)
theorem must_tf (n : Nat) (f : Nat -> It) (tg at_ : Nat -> Int) (lg : Nat -> Bool) (k : Nat) (hn : n <= 1000000) (r1 : ∀ j, j < n -> 0 <= tg j /\ tg j < n) (r2 : ∀ j, j < n -> 0 <= at_ j /\ at_ j <= 2 * n) (hk : k < n) (h1 : ((f k).kind == 3) = true) (h2 : (!lg k) = false) : SemF Tryd.prog (fun _ => none) 61 [.inr (0, 0, none), .inl ([true], .int .i64 k)] (layM n f tg at_ lg) (.inl ([false], .bool false)) (layM n f tg at_ lg) := by
 refine fnS_ok (E := envP1 n f) (envP1_ok n f) rfl (fuel := 1000) (d := 30) (plan := []) (orc := [true, false]) (l := [(!lg ((k : Int)).toNat, false), (pre (decide (((k : Int)).toNat < n)), true), (pre (idxB ((k : Int)) n), true), ((f ((k : Int)).toNat).kind == 3, true), (pre (decide (((k : Int)).toNat < n)), true), (pre (decide (((k : Int)).toNat < n)), true), (pre (idxB ((k : Int)) n), true)]) (tr := []) (by kernel_rfl) (by kernel_rfl) ?_ Tryd.func61 fun w0 hG t ht => by cases ht
 try simp only [qN]
 refine qF ?_ ?_ ?_ ?_ <| qA ?_ <| qA ?_ <| qA ?_ <| qZ
 . assumption
 . exact ob_lt (by omega)
 . exact ob_idx (by omega)
 . assumption
 . exact ob_lt (by omega)
 . exact ob_lt (by omega)
 . exact ob_idx (by omega)
theorem must_tt (n : Nat) (f : Nat -> It) (tg at_ : Nat -> Int) (lg : Nat -> Bool) (k : Nat) (hn : n <= 1000000) (r1 : ∀ j, j < n -> 0 <= tg j /\ tg j < n) (r2 : ∀ j, j < n -> 0 <= at_ j /\ at_ j <= 2 * n) (hk : k < n) (h1 : ((f k).kind == 3) = true) (h2 : (!lg k) = true) : SemF Tryd.prog (fun _ => none) 61 [.inr (0, 0, none), .inl ([true], .int .i64 k)] (layM n f tg at_ lg) (.inl ([true], .bool (!fitZ (dzE (iE n tg) (iE n at_) ((k : Int)).toNat) 13))) (layM n f tg at_ lg) := by
 refine fnS_ok (E := envP1 n f) (envP1_ok n f) rfl (fuel := 1000) (d := 30) (plan := []) (orc := [true, true]) (l := [(pre (propB (layOk n f layB (itE n f) (iE n tg) (iE n at_) (blE n lg) /\ 0 <= (k : Int) /\ (k : Int) < (n : Int))), true), (!lg ((k : Int)).toNat, true), (pre (decide (((k : Int)).toNat < n)), true), (pre (idxB ((k : Int)) n), true), ((f ((k : Int)).toNat).kind == 3, true), (pre (decide (((k : Int)).toNat < n)), true), (pre (decide (((k : Int)).toNat < n)), true), (pre (idxB ((k : Int)) n), true)]) (tr := []) (by kernel_rfl) (by kernel_rfl) ?_ Tryd.func61 fun w0 hG t ht => by cases ht
 try simp only [qN]
 refine qF ?_ ?_ ?_ ?_ <| qF ?_ ?_ ?_ ?_ <| qZ
 . exact propB_ok.mpr ⟨layOk_self n f tg at_ lg hn r1 r2, by omega, by omega⟩
 . assumption
 . exact ob_lt (by omega)
 . exact ob_idx (by omega)
 . assumption
 . exact ob_lt (by omega)
 . exact ob_lt (by omega)
 . exact ob_idx (by omega)
theorem must_sem (n : Nat) (f : Nat -> It) (tg at_ : Nat -> Int) (lg : Nat -> Bool) (k : Nat) (hn : n <= 1000000) (r1 : ∀ j, j < n -> 0 <= tg j /\ tg j < n) (r2 : ∀ j, j < n -> 0 <= at_ j /\ at_ j <= 2 * n) (hk : k < n) (fl : List Bool) : SemF Tryd.prog (fun _ => none) 61 [.inr (0, 0, none), .inl (fl, .int .i64 k)] (layM n f tg at_ lg) (.inl ([true], .bool (mlF f tg at_ lg k))) (layM n f tg at_ lg) := by
 refine semF_fl (fl := [true]) ?_
 unfold mlF
 cases h1 : (f k).kind == 3
 . exact semF_fr (must_f n f tg at_ lg k hn r1 r2 hk h1)
 . cases h2 : !lg k
   . exact semF_fr (must_tf n f tg at_ lg k hn r1 r2 hk h1 h2)
   . have := must_tt n f tg at_ lg k hn r1 r2 hk h1 h2
     rw [qN, dzE_self] at this
     exact this
theorem eMust_ok {gl : Gl} (n : Nat) (f : Nat -> It) : EffOk Tryd.prog gl (eMust n f) := .row fun args own r h hr => by
 split at h
 . rename_i fl k T e0 e1 e2 e3
   simp only [qS] at h
   subst h
   obtain ⟨hL, hk0, hkn⟩ := propB_ok.mp hr
   have hs := layOk_same hL
   have hb := hL.1
   obtain ⟨_, h0, h1, h2, h3, hn, r1, r2⟩ := hL
   obtain ⟨k, rfl⟩ := Int.eq_ofNat_of_zero_le hk0
   have hkn : k < n := by omega
   simp only [qN] at *
   show SemF _ _ _ _ ⟨[_], [e0, e1, e2, e3]⟩ (.inl ([true], .bool (mlE f e1 e2 e3 (k : Int).toNat))) ⟨[_], [e0, e1, e2, e3]⟩
   rw [qN, mlE_eq, hb]
   exact SemF.anyGlob (((must_sem n f (nmL e1) (nmL e2) (blL e3) k hn r1 r2 hkn fl).from (own2 := ⟨[layB], [e0, e1, e2, e3]⟩) rfl hs).same rfl (sameL_flip hs))
 . cases h
noncomputable def envP2 (n : Nat) (f : Nat -> It) : S2.Env := enve Tryd.prog (fun _ => none) true noT noP noL (eMust n f)
theorem envP2_ok (n : Nat) (f : Nat -> It) : CallOk (envP2 n f) := enve_ok (nw := true) (.none _ _) (.none _ _) (.none _ _) (eMust_ok n f)
theorem mlE_self (n : Nat) (f : Nat -> It) (tg at_ : Nat -> Int) (lg : Nat -> Bool) (k : Nat) : mlE f (iE n tg) (iE n at_) (blE n lg) k = mlF f tg at_ lg k := mlE_eq _ _ _ _ _
def stI (n : Nat) (g : Nat -> Int) (i : Nat) (v : Int) : LE := ⟨3, 1, n, setE (fun j => [.int .i64 (g j)]) i [.int .i64 v], true, false, true⟩
def updI (g : Nat -> Int) (i : Nat) (v : Int) : Nat -> Int := fun j => bif Nat.beq j i then v else g j
theorem stI_same (n : Nat) (g : Nat -> Int) (i : Nat) (v : Int) : sameE (stI n g i v) (iE n (updI g i v)) := ⟨rfl, rfl, rfl, rfl, rfl, fun j hj => by
 show setE (fun j => [.int .i64 (g j)]) i [.int .i64 v] j = [.int .i64 (updI g i v j)]
 unfold setE updI; cases Nat.beq j i <;> rfl⟩
def plT (n : Nat) (c j : Nat) : List (Nat × S2.SV) := [(0, .inr (0, 0, none)), (2, .inl ([true], .int .i64 c)), (8, .inl ([true], .int .i64 n)), (9, .inl ([true], .int .i64 j))]
def plS (n : Nat) (f : Nat -> It) (tg : Nat -> Int) (a : LE) (lg : Nat -> Bool) (c j : Nat) : S2.St := { tmps := plT n c j, own := ⟨[layB], [itE n f, iE n tg, a, blE n lg]⟩, lo := 0, llo := 0, mem := true, orc := [], obl := [] }
def plQ : Pick := { ts := [0, 2, 8, 9], bs := [0], ls := [0, 1, 2, 3], opn := [2, 9] }
def plP : List Nat := [0, 1, 1]
noncomputable def plC : Code := codeAt (codeOf Tryd.prog 60) (0 :: plP)
theorem pl_tff (n : Nat) (f : Nat -> It) (tg at_ : Nat -> Int) (lg : Nat -> Bool) (c j : Nat) (hn : n <= 1000000) (hj : j < n) (hc : c <= 2 * j) (h1 : ((f j).kind == 1) = false) (h2 : lg j = false) (w0 : S2.Base) (hG : GlobB (envP0) w0) : SemA (envP0) w0 1 4 25 plC (plS n f tg (iE n at_) lg c j) (none) (plS n f tg (stI n at_ j c) lg (c + 1) (j + 1)) := by
 refine semA_iter envP0_ok hG (p := plQ) (fuel := 1000) [true, false, false] [(pre (inI ((j : Int) + 1)), true), (pre (inI ((c : Int) + 1)), true), (lg ((j : Int)).toNat, false), (pre (decide (((j : Int)).toNat < n)), true), (pre (idxB ((j : Int)) n), true), ((f ((j : Int)).toNat).kind == 1, false), (pre (decide (((j : Int)).toNat < n)), true), (pre (decide (((j : Int)).toNat < n)), true), (pre (idxB ((j : Int)) n), true), (pre (decide (((j : Int)).toNat < n)), true), (pre (idxB ((j : Int)) n), true), (decide ((j : Int) < (n : Int)), true)] (by kernel_rfl) (by kernel_rfl) ?_
 try simp only [qN]
 refine qF ?_ ?_ ?_ ?_ <| qF ?_ ?_ ?_ ?_ <| qF ?_ ?_ ?_ ?_ <| qZ
 . exact ob_inI (by omega)
 . exact ob_inI (by omega)
 . assumption
 . exact ob_lt (by omega)
 . exact ob_idx (by omega)
 . assumption
 . exact ob_lt (by omega)
 . exact ob_lt (by omega)
 . exact ob_idx (by omega)
 . exact ob_lt (by omega)
 . exact ob_idx (by omega)
 . exact ob_yes (by omega)
theorem pl_tft (n : Nat) (f : Nat -> It) (tg at_ : Nat -> Int) (lg : Nat -> Bool) (c j : Nat) (hn : n <= 1000000) (hj : j < n) (hc : c <= 2 * j) (h1 : ((f j).kind == 1) = false) (h2 : lg j = true) (w0 : S2.Base) (hG : GlobB (envP0) w0) : SemA (envP0) w0 1 4 25 plC (plS n f tg (iE n at_) lg c j) (none) (plS n f tg (stI n at_ j c) lg (c + 2) (j + 1)) := by
 refine semA_iter envP0_ok hG (p := plQ) (fuel := 1000) [true, false, true] [(pre (inI ((j : Int) + 1)), true), (pre (inI ((c : Int) + 2)), true), (lg ((j : Int)).toNat, true), (pre (decide (((j : Int)).toNat < n)), true), (pre (idxB ((j : Int)) n), true), ((f ((j : Int)).toNat).kind == 1, false), (pre (decide (((j : Int)).toNat < n)), true), (pre (decide (((j : Int)).toNat < n)), true), (pre (idxB ((j : Int)) n), true), (pre (decide (((j : Int)).toNat < n)), true), (pre (idxB ((j : Int)) n), true), (decide ((j : Int) < (n : Int)), true)] (by kernel_rfl) (by kernel_rfl) ?_
 try simp only [qN]
 refine qF ?_ ?_ ?_ ?_ <| qF ?_ ?_ ?_ ?_ <| qF ?_ ?_ ?_ ?_ <| qZ
 . exact ob_inI (by omega)
 . exact ob_inI (by omega)
 . assumption
 . exact ob_lt (by omega)
 . exact ob_idx (by omega)
 . assumption
 . exact ob_lt (by omega)
 . exact ob_lt (by omega)
 . exact ob_idx (by omega)
 . exact ob_lt (by omega)
 . exact ob_idx (by omega)
 . exact ob_yes (by omega)
theorem pl_tt (n : Nat) (f : Nat -> It) (tg at_ : Nat -> Int) (lg : Nat -> Bool) (c j : Nat) (hn : n <= 1000000) (hj : j < n) (hc : c <= 2 * j) (h1 : ((f j).kind == 1) = true) (w0 : S2.Base) (hG : GlobB (envP0) w0) : SemA (envP0) w0 1 4 25 plC (plS n f tg (iE n at_) lg c j) (none) (plS n f tg (stI n at_ j c) lg (c + 0) (j + 1)) := by
 refine semA_iter envP0_ok hG (p := plQ) (fuel := 1000) [true, true] [(pre (inI ((j : Int) + 1)), true), (pre (inI ((c : Int) + 0)), true), ((f ((j : Int)).toNat).kind == 1, true), (pre (decide (((j : Int)).toNat < n)), true), (pre (decide (((j : Int)).toNat < n)), true), (pre (idxB ((j : Int)) n), true), (pre (decide (((j : Int)).toNat < n)), true), (pre (idxB ((j : Int)) n), true), (decide ((j : Int) < (n : Int)), true)] (by kernel_rfl) (by kernel_rfl) ?_
 try simp only [qN]
 refine qF ?_ ?_ ?_ ?_ <| qF ?_ ?_ ?_ ?_ <| qA ?_ <| qZ
 . exact ob_inI (by omega)
 . exact ob_inI (by omega)
 . assumption
 . exact ob_lt (by omega)
 . exact ob_lt (by omega)
 . exact ob_idx (by omega)
 . exact ob_lt (by omega)
 . exact ob_idx (by omega)
 . exact ob_yes (by omega)
theorem pl_end (n : Nat) (f : Nat -> It) (tg at_ : Nat -> Int) (lg : Nat -> Bool) (c : Nat) (w0 : S2.Base) (hG : GlobB (envP0) w0) : SemA (envP0) w0 1 4 25 plC (plS n f tg (iE n at_) lg c n) (some (some 0)) (plS n f tg (iE n at_) lg c n) := by
 refine semA_iter envP0_ok hG (p := plQ) (fuel := 1000) [false] [(decide ((n : Int) < (n : Int)), false)] (by kernel_rfl) (by kernel_rfl) ?_
 try simp only [qN]
 refine qA ?_ <| qZ
 . exact ob_no (by omega)
def atJ (f : Nat -> It) (lg : Nat -> Bool) (at_ : Nat -> Int) (j : Nat) : Nat -> Int := fun i => bif Nat.blt i j then (ahN f lg i : Int) else at_ i
theorem atJ_upd (f : Nat -> It) (lg : Nat -> Bool) (at_ : Nat -> Int) (j i : Nat) : updI (atJ f lg at_ j) j (ahN f lg j) i = atJ f lg at_ (j + 1) i := by
 unfold updI atJ
 by_cases h1 : i = j
 . subst h1
   rw [Nat.beq_refl, blt_yes (Nat.lt_succ_self i)]; rfl
 . rw [beq_no h1]
   by_cases h2 : i < j
   . rw [blt_yes (by omega : i < j + 1), blt_yes h2]; rfl
   . rw [blt_no (by omega : ¬ i < j + 1), blt_no h2]; rfl
theorem same_iE {n : Nat} {g h : Nat -> Int} (e : ∀ j, j < n -> g j = h j) : sameE (iE n g) (iE n h) := ⟨rfl, rfl, rfl, rfl, rfl, fun j hj => by show [Value.int .i64 (g j)] = [Value.int .i64 (h j)]; rw [e j hj]⟩
theorem same_blE {n : Nat} {g h : Nat -> Bool} (e : ∀ j, j < n -> g j = h j) : sameE (blE n g) (blE n h) := ⟨rfl, rfl, rfl, rfl, rfl, fun j hj => by show [Value.bool (g j)] = [Value.bool (h j)]; rw [e j hj]⟩
theorem sameE_trans {a b c : LE} (h : sameE a b) (k : sameE b c) : sameE a c := ⟨h.1.trans k.1, h.2.1.trans k.2.1, h.2.2.1.trans k.2.2.1, h.2.2.2.1.trans k.2.2.2.1, h.2.2.2.2.1.trans k.2.2.2.2.1, fun i hi => (h.2.2.2.2.2 i hi).trans (k.2.2.2.2.2 i (by rw [<- h.2.2.1]; exact hi))⟩
theorem pl_step (n : Nat) (f : Nat -> It) (tg at_ : Nat -> Int) (lg : Nat -> Bool) (j : Nat) (hn : n <= 1000000) (hj : j < n) (hl : ∀ i, i < n -> lg i = true -> (f i).kind = 3) (w0 : S2.Base) (hG : GlobB envP0 w0) : SemA envP0 w0 1 4 25 plC (plS n f tg (iE n (atJ f lg at_ j)) lg (ahN f lg j) j) none (plS n f tg (iE n (atJ f lg at_ (j + 1))) lg (ahN f lg (j + 1)) (j + 1)) := by
 have hc := ahN_le f lg j
 have e : ahN f lg (j + 1) = ahN f lg j + (bif (f j).kind != 1 then 1 else 0) + (bif lg j then 1 else 0) := rfl
 have hs : sameE (stI n (atJ f lg at_ j) j (ahN f lg j)) (iE n (atJ f lg at_ (j + 1))) := sameE_trans (stI_same _ _ _ _) (same_iE fun i _ => atJ_upd f lg at_ j i)
 have fin : ∀ d, ahN f lg (j + 1) = ahN f lg j + d -> SemA envP0 w0 1 4 25 plC (plS n f tg (iE n (atJ f lg at_ j)) lg (ahN f lg j) j) none (plS n f tg (stI n (atJ f lg at_ j) j (ahN f lg j)) lg (ahN f lg j + d) (j + 1)) -> SemA envP0 w0 1 4 25 plC (plS n f tg (iE n (atJ f lg at_ j)) lg (ahN f lg j) j) none (plS n f tg (iE n (atJ f lg at_ (j + 1))) lg (ahN f lg (j + 1)) (j + 1)) := fun d hd h => by
   rw [hd]
   exact h.same rfl rfl ⟨.refl _, .refl _, hs, .refl _, trivial⟩ rfl
 cases h1 : (f j).kind == 1
 . cases h2 : lg j
   . exact fin 1 (by rw [e, h2, show ((f j).kind != 1) = true by simpa using h1]; rfl) (pl_tff n f tg _ lg _ j hn hj hc h1 h2 w0 hG)
   . exact fin 2 (by rw [e, h2, show ((f j).kind != 1) = true by simpa using h1]; rfl) (pl_tft n f tg _ lg _ j hn hj hc h1 h2 w0 hG)
 . have h2 : lg j = false := by
     cases h2 : lg j
     . rfl
     . have := hl j hj h2
       have h1 : (f j).kind = 1 := eq_of_beq h1
       omega
   exact fin 0 (by rw [e, h2, show ((f j).kind != 1) = false by simpa using h1]; rfl) (pl_tt n f tg _ lg _ j hn hj hc h1 w0 hG)
theorem place_sem (n : Nat) (f : Nat -> It) (tg at_ : Nat -> Int) (lg : Nat -> Bool) (hn : n <= 1000000) (hl : ∀ i, i < n -> lg i = true -> (f i).kind = 3) : SemF Tryd.prog (fun _ => none) 60 [.inr (0, 0, none)] (layM n f tg at_ lg) (.inl ([], .tuple ⟨[]⟩)) (layM n f tg (fun i => (ahN f lg i : Int)) lg) := by
 have h := fnS_ok (E := envP0) envP0_ok rfl (fuel := 1000) (d := 30) (f := 60) (args := [.inr (0, 0, none)]) (own := layM n f tg at_ lg) (plan := [⟨plP, plQ, some (some 0), plS n f tg (iE n (atJ f lg at_ n)) lg (ahN f lg n) n⟩]) (orc := []) (l := []) (tr := [⟨.loop plC, plS n f tg (iE n at_) lg 0 0, some (some 0), plS n f tg (iE n (atJ f lg at_ n)) lg (ahN f lg n) n⟩]) (r := .inl ([], .tuple ⟨[]⟩)) (own' := ⟨[layB], [itE n f, iE n tg, iE n (atJ f lg at_ n), blE n lg]⟩) (by kernel_rfl) (by kernel_rfl) qZ Tryd.func60 fun w0 hG t ht => by
   obtain rfl := List.mem_singleton.mp ht
   exact (sem_loop (fun j => plS n f tg (iE n (atJ f lg at_ j)) lg (ahN f lg j) j) n (by simp) (fun j hj => pl_step n f tg at_ lg j hn hj hl w0 hG) (pl_end n f tg _ lg _ w0 hG)).alike rfl rfl ⟨.refl _, .refl _, same_iE fun i _ => rfl, .refl _, trivial⟩ rfl
 exact h.same rfl ⟨.refl _, .refl _, same_iE fun i hi => by unfold atJ; rw [blt_yes hi]; rfl, .refl _, trivial⟩
noncomputable def ePlace (n : Nat) (f : Nat -> It) : ETab := erow 60 fun args own => match args, own with
 | [.inr (0, 0, none)], ⟨[⟨[.c 0, .c 1, .c 2, .c 3], T, .cells⟩], [e0, e1, e2, e3]⟩ => some { x := .inl ([], .tuple ⟨[]⟩), sl := [(2, iE n (fun i => (ahN f (blL e3) i : Int)))], ok := pre (propB (layOk n f ⟨[.c 0, .c 1, .c 2, .c 3], T, .cells⟩ e0 e1 e2 e3 /\ ∀ i, i < n -> blL e3 i = true -> (f i).kind = 3)) }
 | _, _ => none
theorem ePlace_ok {gl : Gl} (n : Nat) (f : Nat -> It) : EffOk Tryd.prog gl (ePlace n f) := .row fun args own r h hr => by
 split at h
 . rename_i T e0 e1 e2 e3
   simp only [qS] at h
   subst h
   obtain ⟨hL, hl⟩ := propB_ok.mp hr
   have hs := layOk_same hL
   have hb := hL.1
   obtain ⟨_, h0, h1, h2, h3, hn, r1, r2⟩ := hL
   show SemF _ _ _ _ ⟨[_], [e0, e1, e2, e3]⟩ _ ⟨[_], [e0, e1, iE n (fun i => (ahN f (blL e3) i : Int)), e3]⟩
   rw [hb]
   have hf := sameL_flip hs
   exact SemF.anyGlob (((place_sem n f (nmL e1) (nmL e2) (blL e3) hn hl).from (own2 := ⟨[layB], [e0, e1, e2, e3]⟩) rfl hs).same rfl ⟨hf.1, hf.2.1, .refl _, hf.2.2.2.1, trivial⟩)
 . cases h
def lnS (n : Nat) (f : Nat -> It) (tg at_ : Nat -> Int) (e : LE) (k : Nat) : S2.St := { tmps := [(0, .inr (0, 0, none)), (1, .inl ([true], .int .i64 k))], own := ⟨[layB], [itE n f, iE n tg, iE n at_, e]⟩, lo := 0, llo := 0, mem := true, orc := [], obl := [] }
def lnQ : Pick := { ts := [0, 1], bs := [0], ls := [0, 1, 2, 3], opn := [1] }
def lnP : List Nat := [0]
noncomputable def lnC : Code := codeAt (codeOf Tryd.prog 62) (0 :: lnP)
theorem ln_tf (n : Nat) (f : Nat -> It) (tg at_ : Nat -> Int) (lg : Nat -> Bool) (k : Nat) (hn : n <= 1000000) (r1 : ∀ j, j < n -> 0 <= tg j /\ tg j < n) (r2 : ∀ j, j < n -> 0 <= at_ j /\ at_ j <= 2 * n) (hk : k < n) (hm : mlE f (iE n tg) (iE n at_) (blE n lg) k = false) (w0 : S2.Base) (hG : GlobB (envP2 n f) w0) : SemA (envP2 n f) w0 1 4 22 lnC (lnS n f tg at_ (blE n lg) k) (none) (lnS n f tg at_ (blE n lg) (k + 1)) := by
 refine semA_iter (envP2_ok n f) hG (p := lnQ) (fuel := 1000) [true, false] [(pre (inI ((k : Int) + 1)), true), (mlE f (iE n tg) (iE n at_) (blE n lg) ((k : Int)).toNat, false), (pre (propB (layOk n f layB (itE n f) (iE n tg) (iE n at_) (blE n lg) /\ 0 <= (k : Int) /\ (k : Int) < (n : Int))), true), (decide ((k : Int) < (n : Int)), true)] (by kernel_rfl) (by kernel_rfl) ?_
 try simp only [qN]
 refine qF ?_ ?_ ?_ ?_ <| qZ
 . exact ob_inI (by omega)
 . assumption
 . exact propB_ok.mpr ⟨layOk_self n f tg at_ lg hn r1 r2, by omega, by omega⟩
 . exact ob_yes (by omega)
theorem ln_tt (n : Nat) (f : Nat -> It) (tg at_ : Nat -> Int) (lg : Nat -> Bool) (k : Nat) (hn : n <= 1000000) (r1 : ∀ j, j < n -> 0 <= tg j /\ tg j < n) (r2 : ∀ j, j < n -> 0 <= at_ j /\ at_ j <= 2 * n) (hk : k < n) (hm : mlE f (iE n tg) (iE n at_) (blE n lg) k = true) (w0 : S2.Base) (hG : GlobB (envP2 n f) w0) : SemA (envP2 n f) w0 1 4 22 lnC (lnS n f tg at_ (blE n lg) k) (none) (lnS n f tg at_ (stB n lg k) (k + 1)) := by
 refine semA_iter (envP2_ok n f) hG (p := lnQ) (fuel := 1000) [true, true] [(pre (inI ((k : Int) + 1)), true), (pre (decide (((k : Int)).toNat < n)), true), (pre (idxB ((k : Int)) n), true), (mlE f (iE n tg) (iE n at_) (blE n lg) ((k : Int)).toNat, true), (pre (propB (layOk n f layB (itE n f) (iE n tg) (iE n at_) (blE n lg) /\ 0 <= (k : Int) /\ (k : Int) < (n : Int))), true), (decide ((k : Int) < (n : Int)), true)] (by kernel_rfl) (by kernel_rfl) ?_
 try simp only [qN]
 refine qF ?_ ?_ ?_ ?_ <| qA ?_ <| qA ?_ <| qZ
 . exact ob_inI (by omega)
 . exact ob_lt (by omega)
 . exact ob_idx (by omega)
 . assumption
 . exact propB_ok.mpr ⟨layOk_self n f tg at_ lg hn r1 r2, by omega, by omega⟩
 . exact ob_yes (by omega)
theorem ln_end (n : Nat) (f : Nat -> It) (tg at_ : Nat -> Int) (lg : Nat -> Bool) (w0 : S2.Base) (hG : GlobB (envP2 n f) w0) : SemA (envP2 n f) w0 1 4 22 lnC (lnS n f tg at_ (blE n lg) n) (some (some 0)) (lnS n f tg at_ (blE n lg) n) := by
 refine semA_iter (envP2_ok n f) hG (p := lnQ) (fuel := 1000) [false] [(decide ((n : Int) < (n : Int)), false)] (by kernel_rfl) (by kernel_rfl) ?_
 try simp only [qN]
 refine qA ?_ <| qZ
 . exact ob_no (by omega)
def lnJ (f : Nat -> It) (tg at_ : Nat -> Int) (lg : Nat -> Bool) (k j : Nat) : Nat -> Bool := fun i => lg i || (Nat.ble k i && (Nat.blt i j && mlF f tg at_ lg i))
theorem lnJ_self (f : Nat -> It) (tg at_ : Nat -> Int) (lg : Nat -> Bool) (k i : Nat) : lnJ f tg at_ lg k k i = lg i := by
 unfold lnJ
 cases h1 : Nat.ble k i
 . rw [Bool.false_and, Bool.or_false]
 . cases h2 : Nat.blt i k
   . rw [Bool.false_and, Bool.and_false, Bool.or_false]
   . have a := Nat.le_of_ble_eq_true h1
     have b : i < k := by simpa [Nat.blt_eq] using h2
     omega
theorem mlF_lnJ (f : Nat -> It) (tg at_ : Nat -> Int) (lg : Nat -> Bool) (k j : Nat) : mlF f tg at_ (lnJ f tg at_ lg k j) j = mlF f tg at_ lg j := by
 unfold mlF
 rw [show lnJ f tg at_ lg k j j = lg j by
   unfold lnJ
   rw [blt_no (Nat.lt_irrefl j)]
   rw [Bool.false_and, Bool.and_false, Bool.or_false]]
theorem lnJ_next (f : Nat -> It) (tg at_ : Nat -> Int) (lg : Nat -> Bool) (k j i : Nat) (hk : k <= j) : lnJ f tg at_ lg k (j + 1) i = (bif mlF f tg at_ lg j then updB (lnJ f tg at_ lg k j) j i else lnJ f tg at_ lg k j i) := by
 by_cases h1 : i = j
 . subst h1
   rw [updB_same]
   unfold lnJ
   rw [blt_yes (Nat.lt_succ_self i), blt_no (Nat.lt_irrefl i), show Nat.ble k i = true from Nat.ble_eq_true_of_le hk]
   cases mlF f tg at_ lg i <;> cases lg i <;> rfl
 . rw [updB_other _ h1]
   have e : lnJ f tg at_ lg k (j + 1) i = lnJ f tg at_ lg k j i := by
     unfold lnJ
     by_cases h2 : i < j
     . rw [blt_yes (by omega : i < j + 1), blt_yes h2]
     . rw [blt_no (by omega : ¬ i < j + 1), blt_no h2]
   rw [e]
   cases mlF f tg at_ lg j <;> rfl
theorem ln_step (n : Nat) (f : Nat -> It) (tg at_ : Nat -> Int) (lg : Nat -> Bool) (k j : Nat) (hn : n <= 1000000) (r1 : ∀ j, j < n -> 0 <= tg j /\ tg j < n) (r2 : ∀ j, j < n -> 0 <= at_ j /\ at_ j <= 2 * n) (hk : k <= j) (hj : j < n) (w0 : S2.Base) (hG : GlobB (envP2 n f) w0) : SemA (envP2 n f) w0 1 4 22 lnC (lnS n f tg at_ (blE n (lnJ f tg at_ lg k j)) j) none (lnS n f tg at_ (blE n (lnJ f tg at_ lg k (j + 1))) (j + 1)) := by
 have e := mlE_self n f tg at_ (lnJ f tg at_ lg k j) j
 rw [mlF_lnJ] at e
 cases h : mlF f tg at_ lg j
 . rw [h] at e
   exact (ln_tf n f tg at_ _ j hn r1 r2 hj e w0 hG).same rfl rfl ⟨.refl _, .refl _, .refl _, same_blE fun i _ => by rw [lnJ_next _ _ _ _ _ _ _ hk, h]; rfl, trivial⟩ rfl
 . rw [h] at e
   exact (ln_tt n f tg at_ _ j hn r1 r2 hj e w0 hG).same rfl rfl ⟨.refl _, .refl _, .refl _, sameE_trans (stB_same _ _ _) (same_blE fun i _ => by rw [lnJ_next _ _ _ _ _ _ _ hk, h]; rfl), trivial⟩ rfl
theorem lengthen_sem (n : Nat) (f : Nat -> It) (tg at_ : Nat -> Int) (lg : Nat -> Bool) (k : Nat) (hn : n <= 1000000) (r1 : ∀ j, j < n -> 0 <= tg j /\ tg j < n) (r2 : ∀ j, j < n -> 0 <= at_ j /\ at_ j <= 2 * n) (hk : k <= n) (fl : List Bool) : SemF Tryd.prog (fun _ => none) 62 [.inr (0, 0, none), .inl (fl, .int .i64 k)] (layM n f tg at_ lg) (.inl ([], .tuple ⟨[]⟩)) (layM n f tg at_ (lnJ f tg at_ lg k n)) := by
 refine semF_fl (fl := [true]) ?_
 exact fnS_ok (E := envP2 n f) (envP2_ok n f) rfl (fuel := 1000) (d := 30) (f := 62) (args := [.inr (0, 0, none), .inl ([true], .int .i64 k)]) (own := layM n f tg at_ lg) (plan := [⟨lnP, lnQ, some (some 0), lnS n f tg at_ (blE n (lnJ f tg at_ lg k n)) n⟩]) (orc := []) (l := []) (tr := [⟨.loop lnC, lnS n f tg at_ (blE n lg) k, some (some 0), lnS n f tg at_ (blE n (lnJ f tg at_ lg k n)) n⟩]) (r := .inl ([], .tuple ⟨[]⟩)) (own' := ⟨[layB], [itE n f, iE n tg, iE n at_, blE n (lnJ f tg at_ lg k n)]⟩) (by kernel_rfl) (by kernel_rfl) qZ Tryd.func62 fun w0 hG t ht => by
   obtain rfl := List.mem_singleton.mp ht
   have := sem_loop (x := some (some 0)) (fun j => lnS n f tg at_ (blE n (lnJ f tg at_ lg k (k + j))) (k + j)) (n - k) (by simp) (fun j hj => ln_step n f tg at_ lg k (k + j) hn r1 r2 (by omega) (by omega) w0 hG) (by rw [show k + (n - k) = n by omega]; exact ln_end n f tg at_ _ w0 hG)
   exact this.alike rfl rfl ⟨.refl _, .refl _, .refl _, same_blE fun i _ => (lnJ_self f tg at_ lg k i).symm, trivial⟩ rfl
noncomputable def eLen (n : Nat) (f : Nat -> It) : ETab := erow 62 fun args own => match args, own with
 | [.inr (0, 0, none), .inl (fl, .int .i64 k)], ⟨[⟨[.c 0, .c 1, .c 2, .c 3], T, .cells⟩], [e0, e1, e2, e3]⟩ => some { x := .inl ([], .tuple ⟨[]⟩), sl := [(3, blE n (lnJ f (nmL e1) (nmL e2) (blL e3) k.toNat n))], ok := pre (propB (layOk n f ⟨[.c 0, .c 1, .c 2, .c 3], T, .cells⟩ e0 e1 e2 e3 /\ 0 <= k /\ k < n)) }
 | _, _ => none
theorem eLen_ok {gl : Gl} (n : Nat) (f : Nat -> It) : EffOk Tryd.prog gl (eLen n f) := .row fun args own r h hr => by
 split at h
 . rename_i fl k T e0 e1 e2 e3
   simp only [qS] at h
   subst h
   obtain ⟨hL, hk0, hkn⟩ := propB_ok.mp hr
   have hs := layOk_same hL
   have hb := hL.1
   obtain ⟨_, h0, h1, h2, h3, hn, r1, r2⟩ := hL
   obtain ⟨k, rfl⟩ := Int.eq_ofNat_of_zero_le hk0
   have hkn : k < n := by omega
   simp only [qN] at *
   show SemF _ _ _ _ ⟨[_], [e0, e1, e2, e3]⟩ _ ⟨[_], [e0, e1, e2, blE n (lnJ f (nmL e1) (nmL e2) (blL e3) (k : Int).toNat n)]⟩
   rw [qN, hb]
   have hf := sameL_flip hs
   exact SemF.anyGlob (((lengthen_sem n f (nmL e1) (nmL e2) (blL e3) k hn r1 r2 (Nat.le_of_lt hkn) fl).from (own2 := ⟨[layB], [e0, e1, e2, e3]⟩) rfl hs).same rfl ⟨hf.1, hf.2.1, hf.2.2.1, .refl _, trivial⟩)
 . cases h
end Go.Proofs.YtilljoemebbnjaaDoor
