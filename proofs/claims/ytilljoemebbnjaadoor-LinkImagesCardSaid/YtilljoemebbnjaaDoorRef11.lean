/- Layer 11: ref.Link: the image of any parts, by definition. -/
import Derived.Test.YtilljoemebbnjaaDoorK04
import Derived.Test.YtilljoemebbnjaaDoorRef04
import Derived.Test.YtilljoemebbnjaaDoorK10
import Derived.Test.YtilljoemebbnjaaDoorK11
set_option linter.unusedVariables false
set_option linter.unusedSimpArgs false
namespace Go.Proofs.YtilljoemebbnjaaDoor
open Go.RowKit Sim S2
structure Pts where
 P : Nat
 ua : Nat -> Option Addr
 un : Nat -> Nat
 uc : Nat -> Nat
 fr : Nat -> Int
 uF : Value -> Nat -> It
def Pts.uv (p : Pts) (j : Nat) : Value := .slice (p.ua j) (p.un j) (p.uc j)
def lenV : Value -> Nat
 | .slice _ n _ => n
 | _ => 0
def ptE (T : TypeId) (own : Bool) (p : Pts) : LE := ⟨T, 2, p.P, fun j => [p.uv j, .int .i64 (p.fr j)], own, false, true⟩
abbrev Pts.n (p : Pts) (j : Nat) : Nat := p.un j
def Pts.f (p : Pts) (j : Nat) : Nat -> It := p.uF (p.uv j)
def ptR (p : Pts) (v : Value) : LE := itE (lenV v) (p.uF v)
def ptRow (p : Pts) (l : List Nat) (k : Nat) : Option (Value -> LE) := bif l.any (Nat.beq k) then some (ptR p) else none
def ptsOk (gl : Gl) (p : Pts) : Prop := ∀ j, j < p.P -> rowG gl (p.uv j) (itE (p.n j) (p.f j))
def w3E (L : List Int) : LE := ⟨47, 1, L.length, fun j => [.int .u32 ((L[j]?).getD 0)], true, false, true⟩
def raw3 (n : Nat) (f : Nat -> List Value) : LE := ⟨47, 1, n, f, true, false, true⟩
def nil3 : Nat -> List Value := fun j => [.int .u32 ((([] : List Int)[j]?).getD 0)]
theorem joinE_app {n : Nat} {f g h : Nat -> List Value} {m : Nat} (h1 : ∀ i, i < n -> f i = h i) (h2 : ∀ i, i < m -> g i = h (n + i)) : ∀ i, i < n + m -> joinE n f g i = h i := fun i hi => by
 unfold joinE
 cases hb : Nat.blt i n
 . have hx : ¬ i < n := fun hc => by rw [<- Nat.blt_eq, hb] at hc; cases hc
   show g (i - n) = h i
   rw [h2 (i - n) (by omega)]
   congr 1; omega
 . exact h1 i (by simpa [Nat.blt_eq] using hb)
theorem app3 (L : List Int) (x : Int) : sameE (raw3 (L.length + 1) (joinE L.length (w3E L).el (tabE [[.int .u32 x]]))) (w3E (L ++ [x])) := ⟨rfl, rfl, by simp [raw3, w3E], rfl, rfl, joinE_app (fun i hi => by
   show [Value.int .u32 ((L[i]?).getD 0)] = [Value.int .u32 (((L ++ [x])[i]?).getD 0)]
   rw [List.getElem?_append_left hi]) fun i hi => by
   obtain rfl : i = 0 := by omega
   show [Value.int .u32 x] = [Value.int .u32 (((L ++ [x])[L.length + 0]?).getD 0)]
   simp⟩
theorem app1 (N M : List Int) : sameE (raw1 (N.length + M.length) (joinE N.length (ntE N).el (ntE M).el)) (ntE (N ++ M)) := ⟨rfl, rfl, by simp [raw1, ntE], rfl, rfl, joinE_app (fun i hi => by
   show [Value.int .i64 ((N[i]?).getD 0)] = [Value.int .i64 (((N ++ M)[i]?).getD 0)]
   rw [List.getElem?_append_left hi]) fun i hi => by
   show [Value.int .i64 ((M[i]?).getD 0)] = [Value.int .i64 (((N ++ M)[N.length + i]?).getD 0)]
   rw [List.getElem?_append_right (by omega), Nat.add_sub_cancel_left]⟩
theorem app1x (N : List Int) (x : Int) : sameE (raw1 (N.length + 1) (joinE N.length (ntE N).el (tabE [[.int .i64 x]]))) (ntE (N ++ [x])) := ⟨rfl, rfl, by simp [raw1, ntE], rfl, rfl, joinE_app (fun i hi => by
   show [Value.int .i64 ((N[i]?).getD 0)] = [Value.int .i64 (((N ++ [x])[i]?).getD 0)]
   rw [List.getElem?_append_left hi]) fun i hi => by
   obtain rfl : i = 0 := by omega
   show [Value.int .i64 x] = [Value.int .i64 (((N ++ [x])[N.length + 0]?).getD 0)]
   simp⟩
def celL (c : Nat) (C : Nat -> Int) : List Int := (List.range c).map C
theorem celL_len (c : Nat) (C : Nat -> Int) : (celL c C).length = c := by simp [celL]
theorem celL_get (c : Nat) (C : Nat -> Int) (i : Nat) (h : i < c) : ((celL c C)[i]?).getD 0 = C i := by simp [celL, h]
def emp1 : Nat -> List Value := tabE []
theorem app0 (c : Nat) (C : Nat -> Int) : sameE (raw1 (0 + c) (joinE 0 emp1 (intL false c C).el)) (ntE (celL c C)) := ⟨rfl, rfl, by show 0 + c = (celL c C).length; rw [celL_len]; omega, rfl, rfl, joinE_app (f := emp1) (h := (ntE (celL c C)).el) (fun i hi => absurd hi (by omega)) fun i hi => by
   show [Value.int .i64 (C i)] = [Value.int .i64 (((celL c C)[0 + i]?).getD 0)]
   rw [Nat.zero_add, celL_get c C i hi]⟩
theorem app00 (C : Nat -> Int) : sameE (raw1 0 emp1) (ntE (celL 0 C)) := ⟨rfl, rfl, rfl, rfl, rfl, fun i hi => absurd hi (by show ¬ i < 0; omega)⟩
def rawI2 (d : Int) : Nat -> List Value := tabE [itC (stbI 4 16777216), itC (stbI 2 (16777216 + 8 * d))]
theorem isIt_stb (d : Int) (n : Nat) (f : Nat -> It) (hn : n <= 1000000) : isItE (rawI (2 + n) (joinE 2 (rawI2 d) (itE n f).el)) (n + 2) (stbF d f) := ⟨rfl, by show 2 + n = n + 2; omega, fun j hj => joinE_app (n := 2) (m := n) (h := fun j => itC (stbF d f j)) (fun i hi => by
   match i with
   | 0 => rfl
   | 1 => rfl
   | _ + 2 => omega) (fun i hi => by
   show itC (f i) = itC (stbF d f (2 + i))
   rw [Nat.add_comm]; rfl) j (by omega), by omega⟩
theorem isIt_stb0 (d : Int) (f : Nat -> It) : isItE (rawI 2 (rawI2 d)) (0 + 2) (stbF d f) := ⟨rfl, rfl, fun j hj => by
   match j with
   | 0 => rfl
   | 1 => rfl
   | _ + 2 => omega, by omega⟩
noncomputable def envK0 (gl : Gl) : S2.Env := envk Tryd.prog gl true noT noP noL
theorem envK0_ok (gl : Gl) : CallOk (envK0 gl) := envk_ok (nw := true) (.none _ _) (.none _ _) (.none _ _)
def imZB (t : List S2.SV) : S2.Blk := ⟨t, 30, .cells⟩
def nilV : S2.SV := .inl ([false], .slice none 0 0)
abbrev rPart (p : Pts) : LE := ptE 49 false p
def lkP1 : List Nat := [0, 1, 0, 1, 1, 1, 1]
noncomputable def lkC1 : Code := codeAt (codeOf Tryd.prog 9) (0 :: lkP1)
def lkS1 (p : Pts) (c : Nat) (C : Nat -> Int) (s : Int) (i : Nat) : S2.St := { tmps := [(0, .c 0), (1, .c 1), (4, .inr (0, 0, none)), (7, .inl ([true], .int .i64 s)), (8, .inl ([true], .int .i64 i))], own := ⟨[imZB [nilV, nilV, nilV]], [rPart p, intL false c C]⟩, lo := 0, llo := 0, mem := true, orc := [], obl := [] }
def lkQ1 : Pick := { ts := [0, 1, 4, 7, 8], bs := [0], ls := [0, 1], opn := [7, 8] }
def nilW : S2.SV := .inl ([false], .slice none 0 0)
def lkR (e : Int) : S2.St := { tmps := [(4, .inr (0, 0, none)), (5, .inl ([], .slice none 0 0)), (6, .inl ([], .int .i64 e))], own := ⟨[imZB [nilW, nilW, nilW]], []⟩, lo := 0, llo := 0, mem := true, orc := [], obl := [] }
def lkQR : Pick := { ts := [4, 5, 6], bs := [0], ls := [] }
theorem lk1_0 (gl : Gl) (p : Pts) (c : Nat) (C : Nat -> Int) (s : Int) (i : Nat) (hi : i < p.P) (hP : p.P <= 1000) (h0 : ¬ p.fr i < 0) (h1 : ¬ p.fr i > 250) (hs : 0 <= s /\ s <= 1000000000) (w : World) (hG : GlobOk gl w) : S2.Sem (envK0 gl) w 163 lkC1 (lkS1 p c C s i) none (lkS1 p c C (s + p.fr i) (i + 1)) := by
 refine sem_iter (envK0_ok gl) hG (p := lkQ1) (fuel := 1000) [true, false, false] [(pre (inI ((i : Int) + 1)), true), (pre (inI (s + p.fr (i : Int).toNat)), true), (pre (decide ((i : Int).toNat < p.P)), true), (pre (decide ((i : Int).toNat < p.P)), true), (pre (idxB (i : Int) p.P), true), (decide (p.fr (i : Int).toNat > 250), false), (pre (decide ((i : Int).toNat < p.P)), true), (pre (decide ((i : Int).toNat < p.P)), true), (pre (idxB (i : Int) p.P), true), (decide (p.fr (i : Int).toNat < 0), false), (pre (decide ((i : Int).toNat < p.P)), true), (pre (decide ((i : Int).toNat < p.P)), true), (pre (idxB (i : Int) p.P), true), (decide ((i : Int) < (p.P : Int)), true)] (by kernel_rfl) (by kernel_rfl) ?_
 try simp only [qN]
 refine qF ?_ ?_ ?_ ?_ <| qF ?_ ?_ ?_ ?_ <| qF ?_ ?_ ?_ ?_ <| qA ?_ <| qA ?_ <| qZ
 . exact ob_inI (by omega)
 . exact ob_inI (by omega)
 . exact ob_lt (by omega)
 . exact ob_lt (by omega)
 . exact ob_idx (by omega)
 . exact ob_no (by omega)
 . exact ob_lt (by omega)
 . exact ob_lt (by omega)
 . exact ob_idx (by omega)
 . exact ob_no (by omega)
 . exact ob_lt (by omega)
 . exact ob_lt (by omega)
 . exact ob_idx (by omega)
 . exact ob_yes (by omega)
theorem lk1_lo (gl : Gl) (p : Pts) (c : Nat) (C : Nat -> Int) (s : Int) (i : Nat) (hi : i < p.P) (h0 : p.fr i < 0) (w : World) (hG : GlobOk gl w) : S2.Sem (envK0 gl) w 163 lkC1 (lkS1 p c C s i) (some none) (lkR 31) := by
 refine sem_iter (envK0_ok gl) hG (p := lkQR) (fuel := 1000) [true, true] [(decide (p.fr (i : Int).toNat < 0), true), (pre (decide ((i : Int).toNat < p.P)), true), (pre (decide ((i : Int).toNat < p.P)), true), (pre (idxB (i : Int) p.P), true), (decide ((i : Int) < (p.P : Int)), true)] (by kernel_rfl) (by kernel_rfl) ?_
 try simp only [qN]
 refine qF ?_ ?_ ?_ ?_ <| qA ?_ <| qZ
 . exact ob_yes (by omega)
 . exact ob_lt (by omega)
 . exact ob_lt (by omega)
 . exact ob_idx (by omega)
 . exact ob_yes (by omega)
theorem lk1_hi (gl : Gl) (p : Pts) (c : Nat) (C : Nat -> Int) (s : Int) (i : Nat) (hi : i < p.P) (h0 : ¬ p.fr i < 0) (h1 : p.fr i > 250) (w : World) (hG : GlobOk gl w) : S2.Sem (envK0 gl) w 163 lkC1 (lkS1 p c C s i) (some none) (lkR 31) := by
 refine sem_iter (envK0_ok gl) hG (p := lkQR) (fuel := 1000) [true, false, true] [(decide (p.fr (i : Int).toNat > 250), true), (pre (decide ((i : Int).toNat < p.P)), true), (pre (decide ((i : Int).toNat < p.P)), true), (pre (idxB (i : Int) p.P), true), (decide (p.fr (i : Int).toNat < 0), false), (pre (decide ((i : Int).toNat < p.P)), true), (pre (decide ((i : Int).toNat < p.P)), true), (pre (idxB (i : Int) p.P), true), (decide ((i : Int) < (p.P : Int)), true)] (by kernel_rfl) (by kernel_rfl) ?_
 try simp only [qN]
 refine qF ?_ ?_ ?_ ?_ <| qF ?_ ?_ ?_ ?_ <| qA ?_ <| qZ
 . exact ob_yes (by omega)
 . exact ob_lt (by omega)
 . exact ob_lt (by omega)
 . exact ob_idx (by omega)
 . exact ob_no (by omega)
 . exact ob_lt (by omega)
 . exact ob_lt (by omega)
 . exact ob_idx (by omega)
 . exact ob_yes (by omega)
theorem lk1_end (gl : Gl) (p : Pts) (c : Nat) (C : Nat -> Int) (s : Int) (w : World) (hG : GlobOk gl w) : S2.Sem (envK0 gl) w 163 lkC1 (lkS1 p c C s p.P) (some (some 0)) (lkS1 p c C s p.P) := by
 refine sem_iter (envK0_ok gl) hG (p := lkQ1) (fuel := 1000) [false] [(decide ((p.P : Int) < (p.P : Int)), false)] (by kernel_rfl) (by kernel_rfl) ?_
 try simp only [qN]
 refine qA ?_ <| qZ
 . exact ob_no (by omega)
noncomputable def lkX (p : Pts) (j : Nat) (d : Int) : List It := XL (p.n j + 2) (stbF d (p.f j))
noncomputable def lkA (p : Pts) (j : Nat) (d : Int) : List In := layA (elI (lkX p j d)) (lgG (lkX p j d).length (elI (lkX p j d))) (lkX p j d).length (lkX p j d).length
noncomputable def lkM (p : Pts) (j : Nat) (d : Int) : List Int := layN (elI (lkX p j d)) (lgG (lkX p j d).length (elI (lkX p j d))) (lkX p j d).length (lkX p j d).length
noncomputable def lkFar (p : Pts) (j : Nat) (d : Int) : Option Nat := fstN (badJ (elI (lkX p j d)) (lgG (lkX p j d).length (elI (lkX p j d))) (lkX p j d).length) (lkX p j d).length
noncomputable def lK2 (p : Pts) (j : Nat) (d : Int) : LTab := orL (lCkR (p.n j) (p.f j)) (orL (lEy (p.n j + 2) (stbF d (p.f j))) (lRyP (lkX p j d).length (elI (lkX p j d))))
noncomputable def lK2F (p : Pts) (j : Nat) (d : Int) : LTab := orL (lCkR (p.n j) (p.f j)) (orL (lEy (p.n j + 2) (stbF d (p.f j))) (lRyF (lkX p j d).length (elI (lkX p j d))))
noncomputable def envK2 (gl : Gl) (p : Pts) (j : Nat) (d : Int) : S2.Env := { envk Tryd.prog gl true noT noP (lK2 p j d) with lit := true, rowE := ptRow p [81, 103] }
noncomputable def envK2n (gl : Gl) (p : Pts) (j : Nat) (d : Int) : S2.Env := { envk Tryd.prog gl true noT noP (lK2 p j d) with lit := true, rowE := ptRow p [81, 103], non := [104] }
noncomputable def envK2F (gl : Gl) (p : Pts) (j : Nat) (d : Int) : S2.Env := { envk Tryd.prog gl true noT noP (lK2F p j d) with lit := true, rowE := ptRow p [81, 103] }
noncomputable def envK2Fn (gl : Gl) (p : Pts) (j : Nat) (d : Int) : S2.Env := { envk Tryd.prog gl true noT noP (lK2F p j d) with lit := true, rowE := ptRow p [81, 103], non := [104] }
theorem lK2_ok {gl : Gl} (hT : GlTo gl9 gl) (p : Pts) (j : Nat) (d : Int) : LTabOk Tryd.prog gl (lK2 p j d) := (lCkR_ok _ _).or ((ltab_to (lEy_ok _ _) hT).or (lRyP_ok _ _))
theorem lK2F_ok {gl : Gl} (hT : GlTo gl9 gl) (p : Pts) (j : Nat) (d : Int) : LTabOk Tryd.prog gl (lK2F p j d) := (lCkR_ok _ _).or ((ltab_to (lEy_ok _ _) hT).or (lRyF_ok _ _))
theorem envK2_ok {gl : Gl} (hT : GlTo gl9 gl) (p : Pts) (j : Nat) (d : Int) : CallOk (envK2 gl p j d) := envk_ok (nw := true) (.none _ _) (.none _ _) (lK2_ok hT p j d)
theorem envK2n_ok {gl : Gl} (hT : GlTo gl9 gl) (p : Pts) (j : Nat) (d : Int) : CallOk (envK2n gl p j d) := envk_ok (nw := true) (.none _ _) (.none _ _) (lK2_ok hT p j d)
theorem envK2F_ok {gl : Gl} (hT : GlTo gl9 gl) (p : Pts) (j : Nat) (d : Int) : CallOk (envK2F gl p j d) := envk_ok (nw := true) (.none _ _) (.none _ _) (lK2F_ok hT p j d)
theorem envK2Fn_ok {gl : Gl} (hT : GlTo gl9 gl) (p : Pts) (j : Nat) (d : Int) : CallOk (envK2Fn gl p j d) := envk_ok (nw := true) (.none _ _) (.none _ _) (lK2F_ok hT p j d)
noncomputable def envK3 (gl : Gl) : S2.Env := { envk Tryd.prog gl true noT pRefEncode noL with lit := true }
theorem envK3_ok (gl : Gl) : CallOk (envK3 gl) := envk_ok (nw := true) (.none _ _) pRefEncode_ok (.none _ _)
def lkP2 : List Nat := [0, 1, 0, 1, 1, 1, 1, 1, 1, 1, 1]
noncomputable def lkC2 : Code := codeAt (codeOf Tryd.prog 9) (0 :: lkP2)
def lkR3 : List Nat := [0, 1, 0, 1, 1, 1, 1, 1, 1, 1, 0, 0, 1]
def lkR4 : List Nat := [0, 1, 1, 1, 1, 1, 1, 1, 1, 1, 1, 0, 0, 1]
noncomputable def lkC3 : Code := codeAt (codeOf Tryd.prog 9) (0 :: (lkR3 ++ (0 :: lkP2)))
noncomputable def lkC4 : Code := codeAt (codeOf Tryd.prog 9) (0 :: (lkR4 ++ (0 :: lkP2)))
def lkB2 : List S2.Blk := [imZB [nilV, nilV, nilV], imZB [.c 1, .c 2, .c 3]]
def lkG2 (p : Pts) (a b c d : LE) (j : Nat) : S2.St := { tmps := [(0, .c 0), (4, .inr (0, 0, none)), (9, .inr (1, 0, none)), (10, .c 4), (11, .inl ([true], .int .i64 j))], own := ⟨lkB2, [rPart p, a, b, c, d]⟩, lo := 0, llo := 0, mem := true, orc := [], obl := [] }
def lkG3 (p : Pts) (a b c d : LE) (A : List In) (M : List Int) (j k : Nat) : S2.St := { tmps := [(0, .c 0), (4, .inr (0, 0, none)), (9, .inr (1, 0, none)), (10, .c 4), (11, .inl ([true], .int .i64 j)), (15, .c 5), (16, .c 6), (18, .inl ([true], .int .i64 k))], own := ⟨lkB2, [rPart p, a, b, c, d, wdE A, ntE M]⟩, lo := 0, llo := 0, mem := true, orc := [], obl := [] }
def lkG4 (p : Pts) (a b c d : LE) (j k : Nat) : S2.St := { tmps := [(0, .c 0), (4, .inr (0, 0, none)), (9, .inr (1, 0, none)), (10, .c 4), (11, .inl ([true], .int .i64 j)), (19, .inl ([true], .int .i64 k))], own := ⟨lkB2, [rPart p, a, b, c, d]⟩, lo := 0, llo := 0, mem := true, orc := [], obl := [] }
abbrev lkS2 (p : Pts) (L D K N : List Int) (j : Nat) : S2.St := lkG2 p (w3E L) (ntE D) (ntE K) (ntE N) j
abbrev lkS3 (p : Pts) (L D K N : List Int) (A : List In) (M : List Int) (j k : Nat) : S2.St := lkG3 p (w3E L) (ntE D) (ntE K) (ntE N) A M j k
abbrev lkS4 (p : Pts) (L D K N : List Int) (j k : Nat) : S2.St := lkG4 p (w3E L) (ntE D) (ntE K) (ntE N) j k
def lkQ3 (l : List Nat) : Pick := { ts := [0, 4, 9, 10, 11, 15, 16, 18], bs := [0, 1], ls := l, opn := [18] }
def lkQ4 (l : List Nat) : Pick := { ts := [0, 4, 9, 10, 11, 19], bs := [0, 1], ls := l, opn := [19] }
def lkQ5 : Pick := { ts := [0, 4, 9, 10, 11], bs := [0, 1], ls := [0, 1, 2, 3, 4], opn := [11] }
def r3x (L : List Int) (x : Int) : LE := raw3 (L.length + 1) (joinE L.length (w3E L).el (tabE [[.int .u32 x]]))
def r1x (N : List Int) (x : Int) : LE := raw1 (N.length + 1) (joinE N.length (ntE N).el (tabE [[.int .i64 x]]))
def r1a (N M : List Int) : LE := raw1 (N.length + M.length) (joinE N.length (ntE N).el (ntE M).el)
theorem lk3_0 (gl : Gl) (p : Pts) (L D K N : List Int) (A : List In) (M : List Int) (j k : Nat) (hk : k < A.length) (hA : A.length <= 1000000) (hL : L.length <= 100000000) (hm : mayB ((A[k]?).getD zI10) = true) (w : World) (hG : GlobOk gl w) : S2.Sem (envK3 gl) w 163 lkC3 (lkS3 p L D K N A M j k) none (lkG3 p (r3x L (encZ ((A[k]?).getD zI10))) (ntE D) (ntE K) (ntE N) A M j (k + 1)) := by
 refine sem_iter (envK3_ok gl) hG (p := lkQ3 [0, 8, 2, 3, 4, 5, 6]) (fuel := 1000) [true] [(pre (inI ((k : Int) + 1)), true), (pre (decide (L.length + 1 <= maxLen /\ (L.length + 1) * 4 <= 140737488355328 /\ 0 < 1)), true), (pre (mayB ((A[(k : Int).toNat]?).getD zI10)), true), (pre (decide ((k : Int).toNat < A.length)), true), (pre (idxB (k : Int) A.length), true), (decide ((k : Int) < (A.length : Int)), true)] (by kernel_rfl) (by kernel_rfl) ?_
 try simp only [qN]
 refine qF ?_ ?_ ?_ ?_ <| qA ?_ <| qA ?_ <| qZ
 . exact ob_inI (by omega)
 . exact ob_app (by omega) (by decide) (by decide)
 . exact hm
 . exact ob_lt (by omega)
 . exact ob_idx (by omega)
 . exact ob_yes (by omega)
theorem lk3_1 (gl : Gl) (p : Pts) (L D K N : List Int) (A : List In) (M : List Int) (j : Nat) (w : World) (hG : GlobOk gl w) : S2.Sem (envK3 gl) w 163 lkC3 (lkS3 p L D K N A M j A.length) (some (some 4)) (lkS3 p L D K N A M j A.length) := by
 refine sem_iter (envK3_ok gl) hG (p := lkQ3 [0, 1, 2, 3, 4, 5, 6]) (fuel := 1000) [false] [(decide ((A.length : Int) < (A.length : Int)), false)] (by kernel_rfl) (by kernel_rfl) ?_
 try simp only [qN]
 refine qA ?_ <| qZ
 . exact ob_no (by omega)
theorem lk4_0 (gl : Gl) (p : Pts) (L D K N : List Int) (j k : Nat) (hj : j < p.P) (hP : p.P <= 1000) (hk : (k : Int) < p.fr j) (hf : p.fr j <= 1000) (hD : D.length <= 100000000) (w : World) (hG : GlobOk gl w) : S2.Sem (envK3 gl) w 163 lkC4 (lkS4 p L D K N j k) none (lkG4 p (w3E L) (r1x D 0) (ntE K) (ntE N) j (k + 1)) := by
 refine sem_iter (envK3_ok gl) hG (p := lkQ4 [0, 1, 6, 3, 4]) (fuel := 1000) [true] [(pre (inI ((k : Int) + 1)), true), (pre (decide (D.length + 1 <= maxLen /\ (D.length + 1) * 8 <= 140737488355328 /\ 0 < 1)), true), (decide ((k : Int) < p.fr (j : Int).toNat), true), (pre (decide ((j : Int).toNat < p.P)), true), (pre (decide ((j : Int).toNat < p.P)), true), (pre (idxB (j : Int) p.P), true)] (by kernel_rfl) (by kernel_rfl) ?_
 try simp only [qN]
 refine qF ?_ ?_ ?_ ?_ <| qA ?_ <| qA ?_ <| qZ
 . exact ob_inI (by omega)
 . exact ob_app (by omega) (by decide) (by decide)
 . exact ob_yes (by omega)
 . exact ob_lt (by omega)
 . exact ob_lt (by omega)
 . exact ob_idx (by omega)
theorem lk4_1 (gl : Gl) (p : Pts) (L D K N : List Int) (j k : Nat) (hj : j < p.P) (hP : p.P <= 1000) (hk : ¬ (k : Int) < p.fr j) (w : World) (hG : GlobOk gl w) : S2.Sem (envK3 gl) w 163 lkC4 (lkS4 p L D K N j k) (some (some 6)) (lkS4 p L D K N j k) := by
 refine sem_iter (envK3_ok gl) hG (p := lkQ4 [0, 1, 2, 3, 4]) (fuel := 1000) [false] [(decide ((k : Int) < p.fr (j : Int).toNat), false), (pre (decide ((j : Int).toNat < p.P)), true), (pre (decide ((j : Int).toNat < p.P)), true), (pre (idxB (j : Int) p.P), true)] (by kernel_rfl) (by kernel_rfl) ?_
 try simp only [qN]
 refine qF ?_ ?_ ?_ ?_ <| qZ
 . exact ob_no (by omega)
 . exact ob_lt (by omega)
 . exact ob_lt (by omega)
 . exact ob_idx (by omega)
theorem lk3_all (gl : Gl) (p : Pts) (L D K N : List Int) (A : List In) (M : List Int) (j : Nat) (hA : A.length <= 1000000) (hL : L.length <= 90000000) (hm : ∀ x ∈ A, mayB x = true) (w : World) (hG : GlobOk gl w) : S2.Sem (envK3 gl) w 163 (.loop lkC3) (lkS3 p L D K N A M j 0) (some (some 4)) (lkS3 p (L ++ A.map encZ) D K N A M j A.length) := by
 have key := sem_loop (E := envK3 gl) (w0 := base0 w) (nb := 0) (nl := 0) (n := 163) (c := lkC3) (x := some (some 4)) (s' := lkS3 p (L ++ (A.take A.length).map encZ) D K N A M j A.length) (fun k => lkS3 p (L ++ (A.take k).map encZ) D K N A M j k) A.length (by simp) (fun k hk => ?_) (lk3_1 gl p _ D K N A M j w hG)
 . simp only [List.take_zero, List.map_nil, List.append_nil, List.take_length] at key
   exact key
 . have e : (A.take (k + 1)).map encZ = (A.take k).map encZ ++ [encZ ((A[k]?).getD zI10)] := by
     rw [List.take_add_one, List.map_append]
     congr 1
     rw [List.getElem?_eq_getElem hk]; rfl
   show S2.Sem _ _ _ _ _ _ (lkS3 p (L ++ (A.take (k + 1)).map encZ) D K N A M j (k + 1))
   rw [e, <- List.append_assoc]
   have hL2 : (L ++ (A.take k).map encZ).length <= 100000000 := by rw [List.length_append, List.length_map, List.length_take]; omega
   exact (lk3_0 gl p _ D K N A M j k hk hA hL2 (hm _ (by rw [List.getElem?_eq_getElem hk]; exact List.getElem_mem hk)) w hG).same rfl rfl ⟨.refl _, app3 _ _, .refl _, .refl _, .refl _, .refl _, .refl _, trivial⟩ rfl
theorem lk4_all (gl : Gl) (p : Pts) (L D K N : List Int) (j : Nat) (hj : j < p.P) (hP : p.P <= 1000) (h0 : 0 <= p.fr j) (hf : p.fr j <= 1000) (hD : D.length <= 90000000) (w : World) (hG : GlobOk gl w) : S2.Sem (envK3 gl) w 163 (.loop lkC4) (lkS4 p L D K N j 0) (some (some 6)) (lkS4 p L (D ++ List.replicate (p.fr j).toNat 0) K N j (p.fr j).toNat) := by
 have key := sem_loop (E := envK3 gl) (w0 := base0 w) (nb := 0) (nl := 0) (n := 163) (c := lkC4) (x := some (some 6)) (s' := lkS4 p L (D ++ List.replicate (p.fr j).toNat 0) K N j (p.fr j).toNat) (fun k => lkS4 p L (D ++ List.replicate k 0) K N j k) (p.fr j).toNat (by simp) (fun k hk => ?_) (lk4_1 gl p _ _ K N j _ hj hP (by omega) w hG)
 . simp only [List.replicate_zero, List.append_nil] at key
   exact key
 . show S2.Sem _ _ _ _ _ _ (lkS4 p L (D ++ List.replicate (k + 1) 0) K N j (k + 1))
   rw [List.replicate_succ', <- List.append_assoc]
   have hD2 : (D ++ List.replicate k 0).length <= 100000000 := by rw [List.length_append, List.length_replicate]; omega
   exact (lk4_0 gl p _ _ K N j k hj hP (by omega) hf hD2 w hG).same rfl rfl ⟨.refl _, .refl _, app1x _ _, .refl _, .refl _, trivial⟩ rfl
theorem lk2_bad (gl : Gl) (hT : GlTo gl9 gl) (p : Pts) (L D K N : List Int) (j : Nat) (hj : j < p.P) (hP : p.P <= 1000) (hn : p.n j <= 1000) (hr : rowG gl (p.uv j) (itE (p.n j) (p.f j))) (hb : ((unitR (p.n j) (p.f j)).2 != 0) = true) (w : World) (hG : GlobOk gl w) : S2.Sem (envK2 gl p j (D.length : Int)) w 163 lkC2 (lkS2 p L D K N j) (some none) (lkR 1) := by
 refine sem_iter (envK2_ok hT p j (D.length : Int)) hG (p := lkQR) (fuel := 1000) [true, true] [((unitR (p.n j) (p.f j)).2 != 0, true), (pre (propB (isItE (itE (p.n (j : Int).toNat) (p.f (j : Int).toNat)) (p.n j) (p.f j))), true), (pre (rowB gl (p.uv (j : Int).toNat) (itE (p.n (j : Int).toNat) (p.f (j : Int).toNat))), true), (pre (decide ((j : Int).toNat < p.P)), true), (pre (decide ((j : Int).toNat < p.P)), true), (pre (idxB (j : Int) p.P), true), (decide ((j : Int) < (p.P : Int)), true)] (by kernel_rfl) (by kernel_rfl) ?_
 try simp only [qN]
 refine qF ?_ ?_ ?_ ?_ <| qA ?_ <| qA ?_ <| qA ?_ <| qZ
 . assumption
 . exact propB_ok.mpr (isItE_self _ _ (by omega))
 . exact rowB_ok.mpr hr
 . exact ob_lt (by omega)
 . exact ob_lt (by omega)
 . exact ob_idx (by omega)
 . exact ob_yes (by omega)
theorem lk2_end (gl : Gl) (p : Pts) (L D K N : List Int) (w : World) (hG : GlobOk gl w) : S2.Sem (envK3 gl) w 163 lkC2 (lkS2 p L D K N p.P) (some (some 2)) (lkS2 p L D K N p.P) := by
 refine sem_iter (envK3_ok gl) hG (p := lkQ5) (fuel := 1000) [false] [(decide ((p.P : Int) < (p.P : Int)), false)] (by kernel_rfl) (by kernel_rfl) ?_
 try simp only [qN]
 refine qA ?_ <| qZ
 . exact ob_no (by omega)
theorem lkX_len (p : Pts) (j : Nat) (d : Int) (hn : p.n j <= 1000) : (lkX p j d).length <= 8016 := by
 have := xpL_len (stbF d (p.f j)) (p.n j + 2)
 show (xpL _ _).length <= _
 omega
theorem lk2_far (gl : Gl) (hT : GlTo gl9 gl) (p : Pts) (L D K N : List Int) (j : Nat) (hj : j < p.P) (hP : p.P <= 1000) (hn : p.n j <= 1000) (hr : rowG gl (p.uv j) (itE (p.n j) (p.f j))) (h0 : 0 < p.n j) (hu : ((unitR (p.n j) (p.f j)).2 != 0) = false) (hc : cstOk (p.n j + 2) (stbF (D.length : Int) (p.f j))) (hy : mayU (lkX p j (D.length : Int)).length (elI (lkX p j (D.length : Int))) = true) (hD : D.length <= 3000000) (hf : fstN (badJ (elI (lkX p j (D.length : Int))) (lgG (lkX p j (D.length : Int)).length (elI (lkX p j (D.length : Int)))) (lkX p j (D.length : Int)).length) (lkX p j (D.length : Int)).length ≠ none) (w : World) (hG : GlobOk gl w) : S2.Sem (envK2F gl p j (D.length : Int)) w 163 lkC2 (lkS2 p L D K N j) (some none) (lkR 33) := by
 refine sem_iter (envK2F_ok hT p j (D.length : Int)) hG (p := lkQR) (fuel := 1000) [true, false] [(pre (propB (isItE (itsE (lkX p j (D.length : Int))) (lkX p j (D.length : Int)).length (elI (lkX p j (D.length : Int))) /\ (lkX p j (D.length : Int)).length <= 1000000 /\ mayU (lkX p j (D.length : Int)).length (elI (lkX p j (D.length : Int))) = true /\ fstN (badJ (elI (lkX p j (D.length : Int))) (lgG (lkX p j (D.length : Int)).length (elI (lkX p j (D.length : Int)))) (lkX p j (D.length : Int)).length) (lkX p j (D.length : Int)).length ≠ none)), true), (pre (propB (isItE (rawI (2 + p.n (j : Int).toNat) (joinE 2 (rawI2 (D.length : Int)) (itE (p.n (j : Int).toNat) (p.f (j : Int).toNat)).el)) (p.n j + 2) (stbF (D.length : Int) (p.f j)) /\ p.n j + 2 <= 1000000 /\ cstOk (p.n j + 2) (stbF (D.length : Int) (p.f j)))), true), (pre (decide (2 + p.n (j : Int).toNat <= maxLen /\ (2 + p.n (j : Int).toNat) * 72 <= 140737488355328 /\ 0 < p.n (j : Int).toNat)), true), (pre (rowB gl (p.uv (j : Int).toNat) (itE (p.n (j : Int).toNat) (p.f (j : Int).toNat))), true), (pre (decide ((j : Int).toNat < p.P)), true), (pre (decide ((j : Int).toNat < p.P)), true), (pre (idxB (j : Int) p.P), true), (pre (inI (16777216 + 8 * (D.length : Int))), true), (pre (inI (8 * (D.length : Int))), true), ((unitR (p.n j) (p.f j)).2 != 0, false), (pre (propB (isItE (itE (p.n (j : Int).toNat) (p.f (j : Int).toNat)) (p.n j) (p.f j))), true), (pre (rowB gl (p.uv (j : Int).toNat) (itE (p.n (j : Int).toNat) (p.f (j : Int).toNat))), true), (pre (decide ((j : Int).toNat < p.P)), true), (pre (decide ((j : Int).toNat < p.P)), true), (pre (idxB (j : Int) p.P), true), (decide ((j : Int) < (p.P : Int)), true)] (by kernel_rfl) (by kernel_rfl) ?_
 try simp only [qN]
 refine qF ?_ ?_ ?_ ?_ <| qF ?_ ?_ ?_ ?_ <| qF ?_ ?_ ?_ ?_ <| qF ?_ ?_ ?_ ?_ <| qZ
 . exact propB_ok.mpr ⟨isIt_its _ (by have := lkX_len p j (D.length : Int) hn; omega), by have := lkX_len p j (D.length : Int) hn; omega, hy, hf⟩
 . exact propB_ok.mpr ⟨(isIt_stb (D.length : Int) (p.n j) (p.f j) (by omega)), by omega, hc⟩
 . exact ob_app (by omega) (by decide) (by omega)
 . exact rowB_ok.mpr hr
 . exact ob_lt (by omega)
 . exact ob_lt (by omega)
 . exact ob_idx (by omega)
 . exact ob_inI (by omega)
 . exact ob_inI (by omega)
 . assumption
 . exact propB_ok.mpr (isItE_self _ _ (by omega))
 . exact rowB_ok.mpr hr
 . exact ob_lt (by omega)
 . exact ob_lt (by omega)
 . exact ob_idx (by omega)
 . exact ob_yes (by omega)
theorem lk2_ok (gl : Gl) (hT : GlTo gl9 gl) (p : Pts) (L D K N : List Int) (j : Nat) (hj : j < p.P) (hP : p.P <= 1000) (hn : p.n j <= 1000) (hr : rowG gl (p.uv j) (itE (p.n j) (p.f j))) (h0 : 0 < p.n j) (hu : ((unitR (p.n j) (p.f j)).2 != 0) = false) (hc : cstOk (p.n j + 2) (stbF (D.length : Int) (p.f j))) (hy : mayU (lkX p j (D.length : Int)).length (elI (lkX p j (D.length : Int))) = true) (hD : D.length <= 3000000) (hf : fstN (badJ (elI (lkX p j (D.length : Int))) (lgG (lkX p j (D.length : Int)).length (elI (lkX p j (D.length : Int)))) (lkX p j (D.length : Int)).length) (lkX p j (D.length : Int)).length = none) (hK : K.length <= 3000000) (hN : N.length <= 3000000) (hM : 0 < (lkM p j (D.length : Int)).length /\ (lkM p j (D.length : Int)).length <= 1000000) (L2 D2 K2 N2 : List Int) (m : Nat) (w : World) (hG : GlobOk gl w) (h3 : S2.Sem (envK3 gl) w 163 (.loop lkC3) (lkG3 p (w3E L) (ntE D) (r1x K (L.length : Int)) (ntE N) (lkA p j (D.length : Int)) (lkM p j (D.length : Int)) j 0) (some (some 4)) (lkS3 p L2 D K2 N (lkA p j (D.length : Int)) (lkM p j (D.length : Int)) j (lkA p j (D.length : Int)).length)) (h4 : S2.Sem (envK3 gl) w 163 (.loop lkC4) (lkG4 p (w3E L2) (ntE D) (ntE K2) (r1a N (lkM p j (D.length : Int))) j 0) (some (some 6)) (lkS4 p L2 D2 K2 N2 j m)) : S2.Sem (envK2 gl p j (D.length : Int)) w 163 lkC2 (lkS2 p L D K N j) none (lkS2 p L2 D2 K2 N2 (j + 1)) := by
 refine sem_iterP (envK2_ok hT p j (D.length : Int)) hG (fuel := 1000) (d := 30) (p := lkQ5) [⟨lkR3, lkQ3 [0, 1, 2, 13, 4, 10, 11], some (some 4), lkS3 p L2 D K2 N (lkA p j (D.length : Int)) (lkM p j (D.length : Int)) j (lkA p j (D.length : Int)).length⟩, ⟨lkR4, lkQ4 [0, 1, 2, 3, 7], some (some 6), lkS4 p L2 D2 K2 N2 j m⟩] [true, false, false] [(pre (inI ((j : Int) + 1)), true), (pre (decide (N.length + (lkM p j (D.length : Int)).length <= maxLen /\ (N.length + (lkM p j (D.length : Int)).length) * 8 <= 140737488355328 /\ 0 < (lkM p j (D.length : Int)).length)), true), (pre (decide (K.length + 1 <= maxLen /\ (K.length + 1) * 8 <= 140737488355328 /\ 0 < 1)), true), (false, false), (pre (propB (isItE (itsE (lkX p j (D.length : Int))) (lkX p j (D.length : Int)).length (elI (lkX p j (D.length : Int))) /\ (lkX p j (D.length : Int)).length <= 1000000 /\ mayU (lkX p j (D.length : Int)).length (elI (lkX p j (D.length : Int))) = true /\ fstN (badJ (elI (lkX p j (D.length : Int))) (lgG (lkX p j (D.length : Int)).length (elI (lkX p j (D.length : Int)))) (lkX p j (D.length : Int)).length) (lkX p j (D.length : Int)).length = none)), true), (pre (propB (isItE (rawI (2 + p.n (j : Int).toNat) (joinE 2 (rawI2 (D.length : Int)) (itE (p.n (j : Int).toNat) (p.f (j : Int).toNat)).el)) (p.n j + 2) (stbF (D.length : Int) (p.f j)) /\ p.n j + 2 <= 1000000 /\ cstOk (p.n j + 2) (stbF (D.length : Int) (p.f j)))), true), (pre (decide (2 + p.n (j : Int).toNat <= maxLen /\ (2 + p.n (j : Int).toNat) * 72 <= 140737488355328 /\ 0 < p.n (j : Int).toNat)), true), (pre (rowB gl (p.uv (j : Int).toNat) (itE (p.n (j : Int).toNat) (p.f (j : Int).toNat))), true), (pre (decide ((j : Int).toNat < p.P)), true), (pre (decide ((j : Int).toNat < p.P)), true), (pre (idxB (j : Int) p.P), true), (pre (inI (16777216 + 8 * (D.length : Int))), true), (pre (inI (8 * (D.length : Int))), true), ((unitR (p.n j) (p.f j)).2 != 0, false), (pre (propB (isItE (itE (p.n (j : Int).toNat) (p.f (j : Int).toNat)) (p.n j) (p.f j))), true), (pre (rowB gl (p.uv (j : Int).toNat) (itE (p.n (j : Int).toNat) (p.f (j : Int).toNat))), true), (pre (decide ((j : Int).toNat < p.P)), true), (pre (decide ((j : Int).toNat < p.P)), true), (pre (idxB (j : Int) p.P), true), (decide ((j : Int) < (p.P : Int)), true)] [⟨.loop lkC3, lkG3 p (w3E L) (ntE D) (r1x K (L.length : Int)) (ntE N) (lkA p j (D.length : Int)) (lkM p j (D.length : Int)) j 0, some (some 4), lkS3 p L2 D K2 N (lkA p j (D.length : Int)) (lkM p j (D.length : Int)) j (lkA p j (D.length : Int)).length⟩, ⟨.loop lkC4, lkG4 p (w3E L2) (ntE D) (ntE K2) (r1a N (lkM p j (D.length : Int))) j 0, some (some 6), lkS4 p L2 D2 K2 N2 j m⟩] (by kernel_rfl) (by kernel_rfl) ?_ (fun t ht => by
     simp only [List.mem_cons, List.not_mem_nil, or_false] at ht
     rcases ht with rfl | rfl
     . exact h3
     . exact h4)
 try simp only [qN]
 refine qF ?_ ?_ ?_ ?_ <| qF ?_ ?_ ?_ ?_ <| qF ?_ ?_ ?_ ?_ <| qF ?_ ?_ ?_ ?_ <| qF ?_ ?_ ?_ ?_ <| qZ
 . exact ob_inI (by omega)
 . exact ob_app (by omega) (by decide) (by omega)
 . exact ob_app (by omega) (by decide) (by omega)
 . rfl
 . exact propB_ok.mpr ⟨isIt_its _ (by have := lkX_len p j (D.length : Int) hn; omega), by have := lkX_len p j (D.length : Int) hn; omega, hy, hf⟩
 . exact propB_ok.mpr ⟨(isIt_stb (D.length : Int) (p.n j) (p.f j) (by omega)), by omega, hc⟩
 . exact ob_app (by omega) (by decide) (by omega)
 . exact rowB_ok.mpr hr
 . exact ob_lt (by omega)
 . exact ob_lt (by omega)
 . exact ob_idx (by omega)
 . exact ob_inI (by omega)
 . exact ob_inI (by omega)
 . assumption
 . exact propB_ok.mpr (isItE_self _ _ (by omega))
 . exact rowB_ok.mpr hr
 . exact ob_lt (by omega)
 . exact ob_lt (by omega)
 . exact ob_idx (by omega)
 . exact ob_yes (by omega)
theorem lk2_farn (gl : Gl) (hT : GlTo gl9 gl) (p : Pts) (L D K N : List Int) (j : Nat) (hj : j < p.P) (hP : p.P <= 1000) (hn : p.n j <= 1000) (hr : rowG gl (p.uv j) (itE (p.n j) (p.f j))) (h0 : p.n j = 0) (hu : ((unitR (p.n j) (p.f j)).2 != 0) = false) (hc : cstOk (p.n j + 2) (stbF (D.length : Int) (p.f j))) (hy : mayU (lkX p j (D.length : Int)).length (elI (lkX p j (D.length : Int))) = true) (hD : D.length <= 3000000) (hf : fstN (badJ (elI (lkX p j (D.length : Int))) (lgG (lkX p j (D.length : Int)).length (elI (lkX p j (D.length : Int)))) (lkX p j (D.length : Int)).length) (lkX p j (D.length : Int)).length ≠ none) (w : World) (hG : GlobOk gl w) : S2.Sem (envK2Fn gl p j (D.length : Int)) w 163 lkC2 (lkS2 p L D K N j) (some none) (lkR 33) := by
 refine sem_iter (envK2Fn_ok hT p j (D.length : Int)) hG (p := lkQR) (fuel := 1000) [true, false] [(pre (propB (isItE (itsE (lkX p j (D.length : Int))) (lkX p j (D.length : Int)).length (elI (lkX p j (D.length : Int))) /\ (lkX p j (D.length : Int)).length <= 1000000 /\ mayU (lkX p j (D.length : Int)).length (elI (lkX p j (D.length : Int))) = true /\ fstN (badJ (elI (lkX p j (D.length : Int))) (lgG (lkX p j (D.length : Int)).length (elI (lkX p j (D.length : Int)))) (lkX p j (D.length : Int)).length) (lkX p j (D.length : Int)).length ≠ none)), true), (pre (propB (isItE (rawI 2 (rawI2 (D.length : Int))) (p.n j + 2) (stbF (D.length : Int) (p.f j)) /\ p.n j + 2 <= 1000000 /\ cstOk (p.n j + 2) (stbF (D.length : Int) (p.f j)))), true), (pre (decide ((itE (p.n (j : Int).toNat) (p.f (j : Int).toNat)).n = 0)), true), (pre (rowB gl (p.uv (j : Int).toNat) (itE (p.n (j : Int).toNat) (p.f (j : Int).toNat))), true), (pre (decide ((j : Int).toNat < p.P)), true), (pre (decide ((j : Int).toNat < p.P)), true), (pre (idxB (j : Int) p.P), true), (pre (inI (16777216 + 8 * (D.length : Int))), true), (pre (inI (8 * (D.length : Int))), true), ((unitR (p.n j) (p.f j)).2 != 0, false), (pre (propB (isItE (itE (p.n (j : Int).toNat) (p.f (j : Int).toNat)) (p.n j) (p.f j))), true), (pre (rowB gl (p.uv (j : Int).toNat) (itE (p.n (j : Int).toNat) (p.f (j : Int).toNat))), true), (pre (decide ((j : Int).toNat < p.P)), true), (pre (decide ((j : Int).toNat < p.P)), true), (pre (idxB (j : Int) p.P), true), (decide ((j : Int) < (p.P : Int)), true)] (by kernel_rfl) (by kernel_rfl) ?_
 try simp only [qN]
 refine qF ?_ ?_ ?_ ?_ <| qF ?_ ?_ ?_ ?_ <| qF ?_ ?_ ?_ ?_ <| qF ?_ ?_ ?_ ?_ <| qZ
 . exact propB_ok.mpr ⟨isIt_its _ (by have := lkX_len p j (D.length : Int) hn; omega), by have := lkX_len p j (D.length : Int) hn; omega, hy, hf⟩
 . exact propB_ok.mpr ⟨(by have := isIt_stb0 (D.length : Int) (p.f j); rw [h0]; exact this), by omega, hc⟩
 . exact decide_eq_true h0
 . exact rowB_ok.mpr hr
 . exact ob_lt (by omega)
 . exact ob_lt (by omega)
 . exact ob_idx (by omega)
 . exact ob_inI (by omega)
 . exact ob_inI (by omega)
 . assumption
 . exact propB_ok.mpr (isItE_self _ _ (by omega))
 . exact rowB_ok.mpr hr
 . exact ob_lt (by omega)
 . exact ob_lt (by omega)
 . exact ob_idx (by omega)
 . exact ob_yes (by omega)
theorem lk2_okn (gl : Gl) (hT : GlTo gl9 gl) (p : Pts) (L D K N : List Int) (j : Nat) (hj : j < p.P) (hP : p.P <= 1000) (hn : p.n j <= 1000) (hr : rowG gl (p.uv j) (itE (p.n j) (p.f j))) (h0 : p.n j = 0) (hu : ((unitR (p.n j) (p.f j)).2 != 0) = false) (hc : cstOk (p.n j + 2) (stbF (D.length : Int) (p.f j))) (hy : mayU (lkX p j (D.length : Int)).length (elI (lkX p j (D.length : Int))) = true) (hD : D.length <= 3000000) (hf : fstN (badJ (elI (lkX p j (D.length : Int))) (lgG (lkX p j (D.length : Int)).length (elI (lkX p j (D.length : Int)))) (lkX p j (D.length : Int)).length) (lkX p j (D.length : Int)).length = none) (hK : K.length <= 3000000) (hN : N.length <= 3000000) (hM : 0 < (lkM p j (D.length : Int)).length /\ (lkM p j (D.length : Int)).length <= 1000000) (L2 D2 K2 N2 : List Int) (m : Nat) (w : World) (hG : GlobOk gl w) (h3 : S2.Sem (envK3 gl) w 163 (.loop lkC3) (lkG3 p (w3E L) (ntE D) (r1x K (L.length : Int)) (ntE N) (lkA p j (D.length : Int)) (lkM p j (D.length : Int)) j 0) (some (some 4)) (lkS3 p L2 D K2 N (lkA p j (D.length : Int)) (lkM p j (D.length : Int)) j (lkA p j (D.length : Int)).length)) (h4 : S2.Sem (envK3 gl) w 163 (.loop lkC4) (lkG4 p (w3E L2) (ntE D) (ntE K2) (r1a N (lkM p j (D.length : Int))) j 0) (some (some 6)) (lkS4 p L2 D2 K2 N2 j m)) : S2.Sem (envK2n gl p j (D.length : Int)) w 163 lkC2 (lkS2 p L D K N j) none (lkS2 p L2 D2 K2 N2 (j + 1)) := by
 refine sem_iterP (envK2n_ok hT p j (D.length : Int)) hG (fuel := 1000) (d := 30) (p := lkQ5) [⟨lkR3, lkQ3 [0, 1, 2, 12, 4, 9, 10], some (some 4), lkS3 p L2 D K2 N (lkA p j (D.length : Int)) (lkM p j (D.length : Int)) j (lkA p j (D.length : Int)).length⟩, ⟨lkR4, lkQ4 [0, 1, 2, 3, 7], some (some 6), lkS4 p L2 D2 K2 N2 j m⟩] [true, false, false] [(pre (inI ((j : Int) + 1)), true), (pre (decide (N.length + (lkM p j (D.length : Int)).length <= maxLen /\ (N.length + (lkM p j (D.length : Int)).length) * 8 <= 140737488355328 /\ 0 < (lkM p j (D.length : Int)).length)), true), (pre (decide (K.length + 1 <= maxLen /\ (K.length + 1) * 8 <= 140737488355328 /\ 0 < 1)), true), (false, false), (pre (propB (isItE (itsE (lkX p j (D.length : Int))) (lkX p j (D.length : Int)).length (elI (lkX p j (D.length : Int))) /\ (lkX p j (D.length : Int)).length <= 1000000 /\ mayU (lkX p j (D.length : Int)).length (elI (lkX p j (D.length : Int))) = true /\ fstN (badJ (elI (lkX p j (D.length : Int))) (lgG (lkX p j (D.length : Int)).length (elI (lkX p j (D.length : Int)))) (lkX p j (D.length : Int)).length) (lkX p j (D.length : Int)).length = none)), true), (pre (propB (isItE (rawI 2 (rawI2 (D.length : Int))) (p.n j + 2) (stbF (D.length : Int) (p.f j)) /\ p.n j + 2 <= 1000000 /\ cstOk (p.n j + 2) (stbF (D.length : Int) (p.f j)))), true), (pre (decide ((itE (p.n (j : Int).toNat) (p.f (j : Int).toNat)).n = 0)), true), (pre (rowB gl (p.uv (j : Int).toNat) (itE (p.n (j : Int).toNat) (p.f (j : Int).toNat))), true), (pre (decide ((j : Int).toNat < p.P)), true), (pre (decide ((j : Int).toNat < p.P)), true), (pre (idxB (j : Int) p.P), true), (pre (inI (16777216 + 8 * (D.length : Int))), true), (pre (inI (8 * (D.length : Int))), true), ((unitR (p.n j) (p.f j)).2 != 0, false), (pre (propB (isItE (itE (p.n (j : Int).toNat) (p.f (j : Int).toNat)) (p.n j) (p.f j))), true), (pre (rowB gl (p.uv (j : Int).toNat) (itE (p.n (j : Int).toNat) (p.f (j : Int).toNat))), true), (pre (decide ((j : Int).toNat < p.P)), true), (pre (decide ((j : Int).toNat < p.P)), true), (pre (idxB (j : Int) p.P), true), (decide ((j : Int) < (p.P : Int)), true)] [⟨.loop lkC3, lkG3 p (w3E L) (ntE D) (r1x K (L.length : Int)) (ntE N) (lkA p j (D.length : Int)) (lkM p j (D.length : Int)) j 0, some (some 4), lkS3 p L2 D K2 N (lkA p j (D.length : Int)) (lkM p j (D.length : Int)) j (lkA p j (D.length : Int)).length⟩, ⟨.loop lkC4, lkG4 p (w3E L2) (ntE D) (ntE K2) (r1a N (lkM p j (D.length : Int))) j 0, some (some 6), lkS4 p L2 D2 K2 N2 j m⟩] (by kernel_rfl) (by kernel_rfl) ?_ (fun t ht => by
     simp only [List.mem_cons, List.not_mem_nil, or_false] at ht
     rcases ht with rfl | rfl
     . exact h3
     . exact h4)
 try simp only [qN]
 refine qF ?_ ?_ ?_ ?_ <| qF ?_ ?_ ?_ ?_ <| qF ?_ ?_ ?_ ?_ <| qF ?_ ?_ ?_ ?_ <| qF ?_ ?_ ?_ ?_ <| qZ
 . exact ob_inI (by omega)
 . exact ob_app (by omega) (by decide) (by omega)
 . exact ob_app (by omega) (by decide) (by omega)
 . rfl
 . exact propB_ok.mpr ⟨isIt_its _ (by have := lkX_len p j (D.length : Int) hn; omega), by have := lkX_len p j (D.length : Int) hn; omega, hy, hf⟩
 . exact propB_ok.mpr ⟨(by have := isIt_stb0 (D.length : Int) (p.f j); rw [h0]; exact this), by omega, hc⟩
 . exact decide_eq_true h0
 . exact rowB_ok.mpr hr
 . exact ob_lt (by omega)
 . exact ob_lt (by omega)
 . exact ob_idx (by omega)
 . exact ob_inI (by omega)
 . exact ob_inI (by omega)
 . assumption
 . exact propB_ok.mpr (isItE_self _ _ (by omega))
 . exact rowB_ok.mpr hr
 . exact ob_lt (by omega)
 . exact ob_lt (by omega)
 . exact ob_idx (by omega)
 . exact ob_yes (by omega)
def sumF (p : Pts) : Nat -> Int
 | 0 => 0
 | j + 1 => sumF p j + p.fr j
def lkD (c : Nat) (C : Nat -> Int) (p : Pts) : Nat -> List Int
 | 0 => celL c C
 | j + 1 => lkD c C p j ++ List.replicate (p.fr j).toNat 0
def lkd (c : Nat) (p : Pts) : Nat -> Int
 | 0 => c
 | j + 1 => lkd c p j + (p.fr j).toNat
theorem lkD_len (c : Nat) (C : Nat -> Int) (p : Pts) : ∀ j, ((lkD c C p j).length : Int) = lkd c p j
 | 0 => by show ((celL c C).length : Int) = c; rw [celL_len]
 | j + 1 => by
   show ((lkD c C p j ++ List.replicate (p.fr j).toNat 0).length : Int) = lkd c p j + (p.fr j).toNat
   rw [List.length_append, List.length_replicate, <- lkD_len c C p j]
   omega
noncomputable def lkL (c : Nat) (p : Pts) : Nat -> List Int
 | 0 => []
 | j + 1 => lkL c p j ++ (lkA p j (lkd c p j)).map encZ
noncomputable def lkK (c : Nat) (p : Pts) : Nat -> List Int
 | 0 => []
 | j + 1 => lkK c p j ++ [((lkL c p j).length : Int)]
noncomputable def lkN (c : Nat) (p : Pts) : Nat -> List Int
 | 0 => []
 | j + 1 => lkN c p j ++ lkM p j (lkd c p j)
def frB (p : Pts) (j : Nat) : Bool := decide (p.fr j < 0) || decide (p.fr j > 250)
def badU (p : Pts) (j : Nat) : Bool := (unitR (p.n j) (p.f j)).2 != 0
noncomputable def farU (c : Nat) (p : Pts) (j : Nat) : Bool := (lkFar p j (lkd c p j)).isSome
noncomputable def wrgU (c : Nat) (p : Pts) (j : Nat) : Bool := badU p j || farU c p j
noncomputable def lkErr (c : Nat) (p : Pts) : Int :=
 if p.P < 1 \/ 8 < p.P then 29 else if 200 < c then 30 else if (fstN (frB p) p.P).isSome \/ 4096 < (c : Int) + sumF p p.P then 31
 else match fstN (wrgU c p) p.P with
   | some j => bif badU p j then 1 else 33
   | none => 0
structure lkSm (c : Nat) (p : Pts) : Prop where
 P : p.P <= 100
 n : ∀ j, j < p.P -> p.n j <= 1000
 wf : ∀ j, j < p.P -> ∀ i, i < p.n j -> wfIt (p.f j i)
 c : c <= 1000000
theorem sumF_rng {p : Pts} {P : Nat} (h : ∀ i, i < P -> 0 <= p.fr i /\ p.fr i <= 250) : ∀ j, j <= P -> 0 <= sumF p j /\ sumF p j <= 250 * j
 | 0, _ => ⟨Int.le_refl _, Int.le_refl _⟩
 | j + 1, hj => by
   have h1 := sumF_rng h j (by omega)
   have h2 := h j (by omega)
   show 0 <= sumF p j + p.fr j /\ sumF p j + p.fr j <= 250 * ((j + 1 : Nat) : Int)
   omega
theorem lkd_sum {c : Nat} {p : Pts} {P : Nat} (h : ∀ i, i < P -> 0 <= p.fr i /\ p.fr i <= 250) : ∀ j, j <= P -> lkd c p j = c + sumF p j
 | 0, _ => by show (c : Int) = c + 0; omega
 | j + 1, hj => by
   have h1 := lkd_sum (c := c) h j (by omega)
   have h2 := h j (by omega)
   show lkd c p j + (p.fr j).toNat = c + (sumF p j + p.fr j)
   omega
theorem lkA_len (p : Pts) (j : Nat) (d : Int) (hn : p.n j <= 1000) : (lkA p j d).length <= 20000 /\ (lkM p j d).length = (lkA p j d).length /\ 0 < (lkM p j d).length := by
 have h1 := lkX_len p j d hn
 have h2 := layA_len (elI (lkX p j d)) (lgG (lkX p j d).length (elI (lkX p j d))) (lkX p j d).length (lkX p j d).length
 have h3 : 0 < (lkA p j d).length := stb_pos d (p.f j) (p.n j) _ _
 have e1 : (lkM p j d).length = (lkA p j d).length := h2.2
 refine ⟨?_, e1, by omega⟩
 have := h2.1
 show (layA _ _ _ _).length <= _
 omega
theorem lkL_len {c : Nat} {p : Pts} (h : lkSm c p) : ∀ j, j <= p.P -> (lkL c p j).length <= 20000 * j /\ (lkN c p j).length = (lkL c p j).length /\ (lkK c p j).length = j
 | 0, _ => ⟨Nat.le_refl _, rfl, rfl⟩
 | j + 1, hj => by
   obtain ⟨h1, h2, h3⟩ := lkL_len h j (by omega)
   obtain ⟨k1, k2, k3⟩ := lkA_len p j (lkd c p j) (h.n j (by omega))
   show (lkL c p j ++ _).length <= _ /\ (lkN c p j ++ _).length = (lkL c p j ++ _).length /\ (lkK c p j ++ _).length = j + 1
   rw [List.length_append, List.length_append, List.length_append, List.length_map, List.length_singleton]
   omega
structure lkFr (c : Nat) (p : Pts) : Prop where
 fr : ∀ i, i < p.P -> 0 <= p.fr i /\ p.fr i <= 250
 sum : (c : Int) + sumF p p.P <= 4096
theorem lkd_rng {c : Nat} {p : Pts} (h : lkSm c p) (hf : lkFr c p) (j : Nat) (hj : j <= p.P) : 0 <= lkd c p j /\ lkd c p j <= 2000000 := by
 have h1 := lkd_sum (c := c) hf.fr j hj
 have h2 := sumF_rng hf.fr j hj
 have := h.P; have := h.c
 omega
theorem lkF_none {c : Nat} {p : Pts} {j : Nat} (h : wrgU c p j = false) : (unitR (p.n j) (p.f j)).2 = 0 /\ lkFar p j (lkd c p j) = none := by
 unfold wrgU at h
 rw [Bool.or_eq_false_iff] at h
 refine ⟨by have := h.1; unfold badU at this; simpa using this, ?_⟩
 have := h.2; unfold farU at this
 cases e : lkFar p j (lkd c p j) with
 | none => rfl
 | some x => rw [e] at this; cases this
structure lkUn (p : Pts) (j : Nat) (d : Int) : Prop where
 cst : cstOk (p.n j + 2) (stbF d (p.f j))
 may : mayU (lkX p j d).length (elI (lkX p j d)) = true
theorem lkUn_of {p : Pts} {j : Nat} {d : Int} (h : (unitR (p.n j) (p.f j)).2 = 0) (hw : ∀ i, i < p.n j -> wfIt (p.f j i)) (h0 : 0 <= d) (h1 : d <= 1000000000000) : lkUn p j d :=
 ⟨cst_of (stb_unit d h) (stb_wf hw h0 h1), xp_may (stb_unit d h) (stb_wf hw h0 h1)⟩
noncomputable abbrev lkS (c : Nat) (C : Nat -> Int) (p : Pts) (j : Nat) : S2.St := lkS2 p (lkL c p j) (lkD c C p j) (lkK c p j) (lkN c p j) j
theorem lk2_step (gl : Gl) (hT : GlTo gl9 gl) (c : Nat) (C : Nat -> Int) (p : Pts) (hs : lkSm c p) (hf : lkFr c p) (hr : ptsOk gl p) (j : Nat) (hj : j < p.P) (hb : wrgU c p j = false) (w : World) (hG : GlobOk gl w) : S2.Sem (envK3 gl) w 163 lkC2 (lkS c C p j) none (lkS c C p (j + 1)) := by
 obtain ⟨hu, hfar⟩ := lkF_none hb
 obtain ⟨d0, d1⟩ := lkd_rng hs hf j (by omega)
 have hD := lkD_len c C p j
 obtain ⟨u1, u2⟩ := lkUn_of hu (hs.wf j hj) d0 (by omega)
 obtain ⟨l1, l2, l3⟩ := lkL_len hs j (by omega)
 have hn := hs.n j hj
 have hP := hs.P
 obtain ⟨k1, k2, k3⟩ := lkA_len p j (lkd c p j) hn
 have hfr := hf.fr j hj
 have hm : ∀ x ∈ lkA p j (lkd c p j), mayB x = true := layA_may u2 hfar _ (Nat.le_refl _)
 have hub : ((unitR (p.n j) (p.f j)).2 != 0) = false := by rw [hu]; rfl
 have h3 := (lk3_all gl p (lkL c p j) (lkD c C p j) (lkK c p j ++ [((lkL c p j).length : Int)]) (lkN c p j) (lkA p j (lkd c p j)) (lkM p j (lkd c p j)) j (by omega) (by omega) hm w hG).alike (s2 := lkG3 p (w3E (lkL c p j)) (ntE (lkD c C p j)) (r1x (lkK c p j) ((lkL c p j).length : Int)) (ntE (lkN c p j)) (lkA p j (lkd c p j)) (lkM p j (lkd c p j)) j 0) rfl rfl ⟨.refl _, .refl _, .refl _, app1x _ _, .refl _, .refl _, .refl _, trivial⟩ rfl
 have h4 := (lk4_all gl p (lkL c p (j + 1)) (lkD c C p j) (lkK c p (j + 1)) (lkN c p (j + 1)) j hj (by omega) hfr.1 (by omega) (by omega) w hG).alike (s2 := lkG4 p (w3E (lkL c p (j + 1))) (ntE (lkD c C p j)) (ntE (lkK c p (j + 1))) (r1a (lkN c p j) (lkM p j (lkd c p j))) j 0) rfl rfl ⟨.refl _, .refl _, .refl _, .refl _, app1 _ _, trivial⟩ rfl
 rw [<- hD] at u1 u2 hfar h3 h4 k1 k2 k3
 by_cases h0 : p.n j = 0
 . exact lk2_okn gl hT p _ _ _ _ j hj (by omega) hn (hr j hj) h0 hub u1 u2 (by omega) hfar (by omega) (by omega) ⟨k3, by omega⟩ (lkL c p (j + 1)) (lkD c C p (j + 1)) (lkK c p (j + 1)) (lkN c p (j + 1)) (p.fr j).toNat w hG (by rw [hD] at h3 ⊢; exact h3) h4
 . exact lk2_ok gl hT p _ _ _ _ j hj (by omega) hn (hr j hj) (by omega) hub u1 u2 (by omega) hfar (by omega) (by omega) ⟨k3, by omega⟩ (lkL c p (j + 1)) (lkD c C p (j + 1)) (lkK c p (j + 1)) (lkN c p (j + 1)) (p.fr j).toNat w hG (by rw [hD] at h3 ⊢; exact h3) h4
theorem lk2_wrong (gl : Gl) (hT : GlTo gl9 gl) (c : Nat) (C : Nat -> Int) (p : Pts) (hs : lkSm c p) (hf : lkFr c p) (hr : ptsOk gl p) (j : Nat) (hj : j < p.P) (hb : wrgU c p j = true) (w : World) (hG : GlobOk gl w) : S2.Sem (envK3 gl) w 163 lkC2 (lkS c C p j) (some none) (lkR (bif badU p j then 1 else 33)) := by
 obtain ⟨d0, d1⟩ := lkd_rng hs hf j (by omega)
 have hD := lkD_len c C p j
 have hn := hs.n j hj
 have hP := hs.P
 cases hu : badU p j
 . have hu0 : (unitR (p.n j) (p.f j)).2 = 0 := by unfold badU at hu; simpa using hu
   obtain ⟨u1, u2⟩ := lkUn_of hu0 (hs.wf j hj) d0 (by omega)
   have hfar : lkFar p j (lkd c p j) ≠ none := fun he => by
     unfold wrgU at hb; rw [hu] at hb; unfold farU at hb; rw [he] at hb; cases hb
   rw [<- hD] at u1 u2 hfar
   by_cases h0 : p.n j = 0
   . exact lk2_farn gl hT p _ _ _ _ j hj (by omega) hn (hr j hj) h0 hu u1 u2 (by omega) hfar w hG
   . exact lk2_far gl hT p _ _ _ _ j hj (by omega) hn (hr j hj) (by omega) hu u1 u2 (by omega) hfar w hG
 . exact lk2_bad gl hT p _ _ _ _ j hj (by omega) hn (hr j hj) hu w hG
theorem lk1_all (gl : Gl) (c : Nat) (C : Nat -> Int) (p : Pts) (hP : p.P <= 100) (hc : c <= 1000000) (h : ∀ i, i < p.P -> frB p i = false) (w : World) (hG : GlobOk gl w) : S2.Sem (envK3 gl) w 163 (.loop lkC1) (lkS1 p c C c 0) (some (some 0)) (lkS1 p c C (c + sumF p p.P) p.P) := by
 have hr : ∀ i, i < p.P -> 0 <= p.fr i /\ p.fr i <= 250 := fun i hi => by
   have := h i hi; unfold frB at this; simp at this; omega
 have key := sem_loop (E := envK3 gl) (w0 := base0 w) (nb := 0) (nl := 0) (n := 163) (c := lkC1) (x := some (some 0)) (s' := lkS1 p c C (c + sumF p p.P) p.P) (fun i => lkS1 p c C (c + sumF p i) i) p.P (by simp) (fun i hi => by
   have hs := sumF_rng hr i (by omega)
   have hi2 := hr i hi
   have := lk1_0 gl p c C (c + sumF p i) i hi (by omega) (by omega) (by omega) (by omega) w hG
   rw [Int.add_assoc] at this
   exact this) (lk1_end gl p c C _ w hG)
 have e : (c : Int) + sumF p 0 = c := by show (c : Int) + 0 = c; omega
 simp only [e] at key
 exact key
theorem lk1_bad (gl : Gl) (c : Nat) (C : Nat -> Int) (p : Pts) (hP : p.P <= 100) (hc : c <= 1000000) (j : Nat) (hj : j < p.P) (hb : frB p j = true) (h : ∀ i, i < j -> frB p i = false) (w : World) (hG : GlobOk gl w) : S2.Sem (envK3 gl) w 163 (.loop lkC1) (lkS1 p c C c 0) (some none) (lkR 31) := by
 have hr : ∀ i, i < j -> 0 <= p.fr i /\ p.fr i <= 250 := fun i hi => by
   have := h i hi; unfold frB at this; simp at this; omega
 have key := sem_loop (E := envK3 gl) (w0 := base0 w) (nb := 0) (nl := 0) (n := 163) (c := lkC1) (x := some none) (s' := lkR 31) (fun i => lkS1 p c C (c + sumF p i) i) j (by simp) (fun i hi => by
   have hs := sumF_rng hr i (by omega)
   have hi2 := hr i hi
   have := lk1_0 gl p c C (c + sumF p i) i (by omega) (by omega) (by omega) (by omega) (by omega) w hG
   rw [Int.add_assoc] at this
   exact this) (by
   unfold frB at hb
   by_cases h0 : p.fr j < 0
   . exact lk1_lo gl p c C _ j hj h0 w hG
   . exact lk1_hi gl p c C _ j hj h0 (by simp at hb; omega) w hG)
 have e : (c : Int) + sumF p 0 = c := by show (c : Int) + 0 = c; omega
 simp only [e] at key
 exact key
def zImg : Value := .agg #[.slice none 0 0, .slice none 0 0, .slice none 0 0]
def lkNo (e : Int) : List XV := [.inl (.tuple #[zImg, .slice none 0 0, .int .i64 e])]
noncomputable def lkYes (c : Nat) (C : Nat -> Int) (p : Pts) : List XV := [.st [.inr (w3E (lkL c p p.P)), .inr (ntE (lkD c C p p.P)), .inr (ntE (lkK c p p.P))], .inr (ntE (lkN c p p.P)), .inl (.int .i64 0)]
def lkQ2 (d a b n : Nat) : Pick := { ts := [0, 4, 9, 10, 11], bs := [0, 1], ls := [0, a, d, b, n], opn := [11], nil := [(10, 3, 1, nil1)], nib := [(1, 0, 47, 1, nil3), (1, 2, 3, 1, nil1)] }
noncomputable def envK4 (gl : Gl) : S2.Env := { envk Tryd.prog gl true noT noP noL with lit := true, non := [68] }
theorem envK4_ok (gl : Gl) : CallOk (envK4 gl) := envk_ok (nw := true) (.none _ _) (.none _ _) (.none _ _)
theorem lk_a (gl : Gl) (p : Pts) (c : Nat) (C : Nat -> Int) (h : p.P < 1) (w : World) (vals : List Value) (hG : GlobOk gl w) (ha : ArgsOk w [.inr (rPart p), .inr (intL false c C)] vals) : LRet Tryd.prog 9 vals false (lkNo 29) w := by
 refine fn_ok (envK3_ok gl) (fuel := 1000) (d := 30) (plan := []) (orc := [true]) (fls := [[], []]) (l := [(decide ((p.P : Int) < 1), true)]) (tr := []) (by kernel_rfl) ?_ Tryd.func9 w vals hG ha (fun t ht => by cases ht)
 refine qA ?_ <| qZ
 . exact ob_yes (by omega)
theorem lk_b (gl : Gl) (p : Pts) (c : Nat) (C : Nat -> Int) (h : 8 < p.P) (w : World) (vals : List Value) (hG : GlobOk gl w) (ha : ArgsOk w [.inr (rPart p), .inr (intL false c C)] vals) : LRet Tryd.prog 9 vals false (lkNo 29) w := by
 refine fn_ok (envK3_ok gl) (fuel := 1000) (d := 30) (plan := []) (orc := [false, true]) (fls := [[], []]) (l := [(decide ((p.P : Int) > 8), true), (decide ((p.P : Int) < 1), false)]) (tr := []) (by kernel_rfl) ?_ Tryd.func9 w vals hG ha (fun t ht => by cases ht)
 refine qA ?_ <| qA ?_ <| qZ
 . exact ob_yes (by omega)
 . exact ob_no (by omega)
theorem lk_c (gl : Gl) (p : Pts) (c : Nat) (C : Nat -> Int) (h : ¬ p.P < 1) (h1 : ¬ 8 < p.P) (h2 : 200 < c) (w : World) (vals : List Value) (hG : GlobOk gl w) (ha : ArgsOk w [.inr (rPart p), .inr (intL false c C)] vals) : LRet Tryd.prog 9 vals false (lkNo 30) w := by
 refine fn_ok (envK3_ok gl) (fuel := 1000) (d := 30) (plan := []) (orc := [false, false, true]) (fls := [[], []]) (l := [(decide ((c : Int) > 200), true), (decide ((p.P : Int) > 8), false), (decide ((p.P : Int) < 1), false)]) (tr := []) (by kernel_rfl) ?_ Tryd.func9 w vals hG ha (fun t ht => by cases ht)
 refine qA ?_ <| qA ?_ <| qA ?_ <| qZ
 . exact ob_yes (by omega)
 . exact ob_no (by omega)
 . exact ob_no (by omega)
theorem lk_d (gl : Gl) (p : Pts) (c : Nat) (C : Nat -> Int) (h : ¬ p.P < 1) (h1 : ¬ 8 < p.P) (h2 : ¬ 200 < c) (hs : ∀ w, GlobOk gl w -> S2.Sem (envK3 gl) w 163 (.loop lkC1) (lkS1 p c C c 0) (some none) (lkR 31)) (w : World) (vals : List Value) (hG : GlobOk gl w) (ha : ArgsOk w [.inr (rPart p), .inr (intL false c C)] vals) : LRet Tryd.prog 9 vals false (lkNo 31) w := by
 refine fn_ok (envK3_ok gl) (fuel := 1000) (d := 30) (plan := [⟨lkP1, lkQ1, some none, lkR 31⟩]) (orc := [false, false, false]) (fls := [[], []]) (l := [(decide ((c : Int) > 200), false), (decide ((p.P : Int) > 8), false), (decide ((p.P : Int) < 1), false)]) (tr := [⟨.loop lkC1, lkS1 p c C c 0, some none, lkR 31⟩]) (by kernel_rfl) ?_ Tryd.func9 w vals hG ha (fun t ht => by
   obtain rfl := List.mem_singleton.mp ht
   exact hs w hG)
 refine qA ?_ <| qA ?_ <| qA ?_ <| qZ
 . exact ob_no (by omega)
 . exact ob_no (by omega)
 . exact ob_no (by omega)
theorem lk_e (gl : Gl) (p : Pts) (c : Nat) (C : Nat -> Int) (h : ¬ p.P < 1) (h1 : ¬ 8 < p.P) (h2 : ¬ 200 < c) (s : Int) (hs : ∀ w, GlobOk gl w -> S2.Sem (envK3 gl) w 163 (.loop lkC1) (lkS1 p c C c 0) (some (some 0)) (lkS1 p c C s p.P)) (h3 : s > 4096) (w : World) (vals : List Value) (hG : GlobOk gl w) (ha : ArgsOk w [.inr (rPart p), .inr (intL false c C)] vals) : LRet Tryd.prog 9 vals false (lkNo 31) w := by
 refine fn_ok (envK3_ok gl) (fuel := 1000) (d := 30) (plan := [⟨lkP1, lkQ1, some (some 0), lkS1 p c C s p.P⟩]) (orc := [false, false, false, true]) (fls := [[], []]) (l := [(decide (s > 4096), true), (decide ((c : Int) > 200), false), (decide ((p.P : Int) > 8), false), (decide ((p.P : Int) < 1), false)]) (tr := [⟨.loop lkC1, lkS1 p c C c 0, some (some 0), lkS1 p c C s p.P⟩]) (by kernel_rfl) ?_ Tryd.func9 w vals hG ha (fun t ht => by
   obtain rfl := List.mem_singleton.mp ht
   exact hs w hG)
 refine qF ?_ ?_ ?_ ?_ <| qZ
 . exact ob_yes (by omega)
 . exact ob_no (by omega)
 . exact ob_no (by omega)
 . exact ob_no (by omega)
theorem lk_f (gl : Gl) (p : Pts) (c : Nat) (C : Nat -> Int) (h : ¬ p.P < 1) (h1 : ¬ 8 < p.P) (h2 : ¬ 200 < c) (s : Int) (hs : ∀ w, GlobOk gl w -> S2.Sem (envK3 gl) w 163 (.loop lkC1) (lkS1 p c C c 0) (some (some 0)) (lkS1 p c C s p.P)) (h3 : ¬ s > 4096) (h5 : 0 < c) (e : Int) (hp : ∀ w, GlobOk gl w -> S2.Sem (envK3 gl) w 163 (.loop lkC2) (lkG2 p (w3E []) (raw1 (0 + c) (joinE 0 emp1 (intL false c C).el)) (ntE []) (ntE []) 0) (some none) (lkR e)) (w : World) (vals : List Value) (hG : GlobOk gl w) (ha : ArgsOk w [.inr (rPart p), .inr (intL false c C)] vals) : LRet Tryd.prog 9 vals false (lkNo e) w := by
 refine fn_ok (envK3_ok gl) (fuel := 1000) (d := 30) (plan := [⟨lkP1, lkQ1, some (some 0), lkS1 p c C s p.P⟩, ⟨lkP2, lkQ2 3 4 5 6, some none, lkR e⟩]) (orc := [false, false, false, false]) (fls := [[], []]) (l := [(pre (decide (0 + c <= maxLen /\ (0 + c) * 8 <= 140737488355328 /\ 0 < c)), true), (decide (s > 4096), false), (decide ((c : Int) > 200), false), (decide ((p.P : Int) > 8), false), (decide ((p.P : Int) < 1), false)]) (tr := [⟨.loop lkC1, lkS1 p c C c 0, some (some 0), lkS1 p c C s p.P⟩, ⟨.loop lkC2, lkG2 p (w3E []) (raw1 (0 + c) (joinE 0 emp1 (intL false c C).el)) (ntE []) (ntE []) 0, some none, lkR e⟩]) (by kernel_rfl) ?_ Tryd.func9 w vals hG ha (fun t ht => by
   simp only [List.mem_cons, List.not_mem_nil, or_false] at ht
   rcases ht with rfl | rfl
   . exact hs w hG
   . exact hp w hG)
 refine qF ?_ ?_ ?_ ?_ <| qA ?_ <| qZ
 . exact ob_app (by omega) (by decide) (by omega)
 . exact ob_no (by omega)
 . exact ob_no (by omega)
 . exact ob_no (by omega)
 . exact ob_no (by omega)
theorem lk_g (gl : Gl) (p : Pts) (c : Nat) (C : Nat -> Int) (h : ¬ p.P < 1) (h1 : ¬ 8 < p.P) (h2 : ¬ 200 < c) (s : Int) (hs : ∀ w, GlobOk gl w -> S2.Sem (envK3 gl) w 163 (.loop lkC1) (lkS1 p c C c 0) (some (some 0)) (lkS1 p c C s p.P)) (h3 : ¬ s > 4096) (h5 : 0 < c) (L D K N : List Int) (h6 : ¬ (L.length : Int) > 262144) (hp : ∀ w, GlobOk gl w -> S2.Sem (envK3 gl) w 163 (.loop lkC2) (lkG2 p (w3E []) (raw1 (0 + c) (joinE 0 emp1 (intL false c C).el)) (ntE []) (ntE []) 0) (some (some 2)) (lkS2 p L D K N p.P)) (w : World) (vals : List Value) (hG : GlobOk gl w) (ha : ArgsOk w [.inr (rPart p), .inr (intL false c C)] vals) : LRet Tryd.prog 9 vals true [.st [.inr (w3E L), .inr (ntE D), .inr (ntE K)], .inr (ntE N), .inl (.int .i64 0)] w := by
 refine fn_ok (envK3_ok gl) (fuel := 1000) (d := 30) (plan := [⟨lkP1, lkQ1, some (some 0), lkS1 p c C s p.P⟩, ⟨lkP2, lkQ2 3 4 5 6, some (some 2), lkS2 p L D K N p.P⟩]) (orc := [false, false, false, false, false]) (fls := [[], []]) (l := [(decide ((L.length : Int) > 262144), false), (pre (decide (0 + c <= maxLen /\ (0 + c) * 8 <= 140737488355328 /\ 0 < c)), true), (decide (s > 4096), false), (decide ((c : Int) > 200), false), (decide ((p.P : Int) > 8), false), (decide ((p.P : Int) < 1), false)]) (tr := [⟨.loop lkC1, lkS1 p c C c 0, some (some 0), lkS1 p c C s p.P⟩, ⟨.loop lkC2, lkG2 p (w3E []) (raw1 (0 + c) (joinE 0 emp1 (intL false c C).el)) (ntE []) (ntE []) 0, some (some 2), lkS2 p L D K N p.P⟩]) (by kernel_rfl) ?_ Tryd.func9 w vals hG ha (fun t ht => by
   simp only [List.mem_cons, List.not_mem_nil, or_false] at ht
   rcases ht with rfl | rfl
   . exact hs w hG
   . exact hp w hG)
 refine qF ?_ ?_ ?_ ?_ <| qA ?_ <| qA ?_ <| qZ
 . exact ob_no (by omega)
 . exact ob_app (by omega) (by decide) (by omega)
 . exact ob_no (by omega)
 . exact ob_no (by omega)
 . exact ob_no (by omega)
 . exact ob_no (by omega)
theorem lk_fn (gl : Gl) (p : Pts) (c : Nat) (C : Nat -> Int) (h : ¬ p.P < 1) (h1 : ¬ 8 < p.P) (h2 : ¬ 200 < c) (s : Int) (hs : ∀ w, GlobOk gl w -> S2.Sem (envK3 gl) w 163 (.loop lkC1) (lkS1 p c C c 0) (some (some 0)) (lkS1 p c C s p.P)) (h3 : ¬ s > 4096) (h5 : c = 0) (e : Int) (hp : ∀ w, GlobOk gl w -> S2.Sem (envK3 gl) w 163 (.loop lkC2) (lkG2 p (w3E []) (raw1 0 emp1) (ntE []) (ntE []) 0) (some none) (lkR e)) (w : World) (vals : List Value) (hG : GlobOk gl w) (ha : ArgsOk w [.inr (rPart p), .inr (intL false c C)] vals) : LRet Tryd.prog 9 vals false (lkNo e) w := by
 refine fn_ok (envK4_ok gl) (fuel := 1000) (d := 30) (plan := [⟨lkP1, lkQ1, some (some 0), lkS1 p c C s p.P⟩, ⟨lkP2, lkQ2 2 3 4 5, some none, lkR e⟩]) (orc := [false, false, false, false]) (fls := [[], []]) (l := [(pre (decide (c = 0)), true), (decide (s > 4096), false), (decide ((c : Int) > 200), false), (decide ((p.P : Int) > 8), false), (decide ((p.P : Int) < 1), false)]) (tr := [⟨.loop lkC1, lkS1 p c C c 0, some (some 0), lkS1 p c C s p.P⟩, ⟨.loop lkC2, lkG2 p (w3E []) (raw1 0 emp1) (ntE []) (ntE []) 0, some none, lkR e⟩]) (by kernel_rfl) ?_ Tryd.func9 w vals hG ha (fun t ht => by
   simp only [List.mem_cons, List.not_mem_nil, or_false] at ht
   rcases ht with rfl | rfl
   . exact hs w hG
   . exact hp w hG)
 refine qF ?_ ?_ ?_ ?_ <| qA ?_ <| qZ
 . exact decide_eq_true h5
 . exact ob_no (by omega)
 . exact ob_no (by omega)
 . exact ob_no (by omega)
 . exact ob_no (by omega)
theorem lk_gn (gl : Gl) (p : Pts) (c : Nat) (C : Nat -> Int) (h : ¬ p.P < 1) (h1 : ¬ 8 < p.P) (h2 : ¬ 200 < c) (s : Int) (hs : ∀ w, GlobOk gl w -> S2.Sem (envK3 gl) w 163 (.loop lkC1) (lkS1 p c C c 0) (some (some 0)) (lkS1 p c C s p.P)) (h3 : ¬ s > 4096) (h5 : c = 0) (L D K N : List Int) (h6 : ¬ (L.length : Int) > 262144) (hp : ∀ w, GlobOk gl w -> S2.Sem (envK3 gl) w 163 (.loop lkC2) (lkG2 p (w3E []) (raw1 0 emp1) (ntE []) (ntE []) 0) (some (some 2)) (lkS2 p L D K N p.P)) (w : World) (vals : List Value) (hG : GlobOk gl w) (ha : ArgsOk w [.inr (rPart p), .inr (intL false c C)] vals) : LRet Tryd.prog 9 vals true [.st [.inr (w3E L), .inr (ntE D), .inr (ntE K)], .inr (ntE N), .inl (.int .i64 0)] w := by
 refine fn_ok (envK4_ok gl) (fuel := 1000) (d := 30) (plan := [⟨lkP1, lkQ1, some (some 0), lkS1 p c C s p.P⟩, ⟨lkP2, lkQ2 2 3 4 5, some (some 2), lkS2 p L D K N p.P⟩]) (orc := [false, false, false, false, false]) (fls := [[], []]) (l := [(decide ((L.length : Int) > 262144), false), (pre (decide (c = 0)), true), (decide (s > 4096), false), (decide ((c : Int) > 200), false), (decide ((p.P : Int) > 8), false), (decide ((p.P : Int) < 1), false)]) (tr := [⟨.loop lkC1, lkS1 p c C c 0, some (some 0), lkS1 p c C s p.P⟩, ⟨.loop lkC2, lkG2 p (w3E []) (raw1 0 emp1) (ntE []) (ntE []) 0, some (some 2), lkS2 p L D K N p.P⟩]) (by kernel_rfl) ?_ Tryd.func9 w vals hG ha (fun t ht => by
   simp only [List.mem_cons, List.not_mem_nil, or_false] at ht
   rcases ht with rfl | rfl
   . exact hs w hG
   . exact hp w hG)
 refine qF ?_ ?_ ?_ ?_ <| qA ?_ <| qA ?_ <| qZ
 . exact ob_no (by omega)
 . exact decide_eq_true h5
 . exact ob_no (by omega)
 . exact ob_no (by omega)
 . exact ob_no (by omega)
 . exact ob_no (by omega)
theorem frames_ok {p : Pts} (h : fstN (frB p) p.P = none) : ∀ i, i < p.P -> 0 <= p.fr i /\ p.fr i <= 250 := fun i hi => by
 have := fst_none h i hi; unfold frB at this; simp at this; omega
theorem refLink_ret (gl : Gl) (hT : GlTo gl9 gl) (c : Nat) (C : Nat -> Int) (p : Pts) (hs : lkSm c p) (hr : ptsOk gl p) (w : World) (vals : List Value) (hG : GlobOk gl w) (ha : ArgsOk w [.inr (rPart p), .inr (intL false c C)] vals) :
   (lkErr c p = 0 -> LRet Tryd.prog 9 vals true (lkYes c C p) w) /\ (lkErr c p ≠ 0 -> LRet Tryd.prog 9 vals false (lkNo (lkErr c p)) w) := by
 have hP := hs.P
 have hc := hs.c
 by_cases a1 : p.P < 1
 . have e : lkErr c p = 29 := by unfold lkErr; rw [if_pos (.inl a1)]
   rw [e]; exact ⟨fun h => absurd h (by decide), fun _ => lk_a gl p c C a1 w vals hG ha⟩
 by_cases a2 : 8 < p.P
 . have e : lkErr c p = 29 := by unfold lkErr; rw [if_pos (.inr a2)]
   rw [e]; exact ⟨fun h => absurd h (by decide), fun _ => lk_b gl p c C a2 w vals hG ha⟩
 have e0 : ¬ (p.P < 1 \/ 8 < p.P) := by omega
 by_cases a3 : 200 < c
 . have e : lkErr c p = 30 := by unfold lkErr; rw [if_neg e0, if_pos a3]
   rw [e]; exact ⟨fun h => absurd h (by decide), fun _ => lk_c gl p c C a1 a2 a3 w vals hG ha⟩
 cases a4 : fstN (frB p) p.P with
 | some j =>
   obtain ⟨h1, h2, h3⟩ := fst_some a4
   have e : lkErr c p = 31 := by unfold lkErr; rw [if_neg e0, if_neg a3, if_pos (.inl (by rw [a4]; rfl))]
   rw [e]; exact ⟨fun h => absurd h (by decide), fun _ => lk_d gl p c C a1 a2 a3 (fun w hG => lk1_bad gl c C p hP hc j h1 h2 h3 w hG) w vals hG ha⟩
 | none =>
   have hl1 := fun w hG => lk1_all gl c C p hP hc (fun i hi => fst_none a4 i hi) w hG
   by_cases a5 : 4096 < (c : Int) + sumF p p.P
   . have e : lkErr c p = 31 := by unfold lkErr; rw [if_neg e0, if_neg a3, if_pos (.inr a5)]
     rw [e]; exact ⟨fun h => absurd h (by decide), fun _ => lk_e gl p c C a1 a2 a3 _ hl1 a5 w vals hG ha⟩
   have hF : lkFr c p := ⟨frames_ok a4, by omega⟩
   have e1 : ¬ ((fstN (frB p) p.P).isSome \/ 4096 < (c : Int) + sumF p p.P) := by rw [a4]; rintro (h | h); exact absurd h (by decide); exact a5 h
   cases a6 : fstN (wrgU c p) p.P with
   | some j =>
     obtain ⟨h1, h2, h3⟩ := fst_some a6
     have e : lkErr c p = bif badU p j then 1 else 33 := by unfold lkErr; rw [if_neg e0, if_neg a3, if_neg e1, a6]
     have e2 : (bif badU p j then 1 else 33 : Int) ≠ 0 := by cases badU p j <;> decide
     have hl := fun w hG => sem_loop (E := envK3 gl) (w0 := base0 w) (nb := 0) (nl := 0) (n := 163) (c := lkC2) (x := some none) (s' := lkR (bif badU p j then 1 else 33)) (lkS c C p) j (by simp) (fun i hi => lk2_step gl hT c C p hs hF hr i (by omega) (h3 i hi) w hG) (lk2_wrong gl hT c C p hs hF hr j h1 h2 w hG)
     rw [e]
     refine ⟨fun h => absurd h e2, fun _ => ?_⟩
     by_cases h0 : c = 0
     . subst h0
       exact lk_fn gl p 0 C a1 a2 a3 _ hl1 (by omega) rfl _ (fun w hG => (hl w hG).alike rfl rfl ⟨.refl _, .refl _, app00 C, .refl _, .refl _, trivial⟩ rfl) w vals hG ha
     . exact lk_f gl p c C a1 a2 a3 _ hl1 (by omega) (by omega) _ (fun w hG => (hl w hG).alike rfl rfl ⟨.refl _, .refl _, app0 c C, .refl _, .refl _, trivial⟩ rfl) w vals hG ha
   | none =>
     have e : lkErr c p = 0 := by unfold lkErr; rw [if_neg e0, if_neg a3, if_neg e1, a6]
     have hl := fun w hG => sem_loop (E := envK3 gl) (w0 := base0 w) (nb := 0) (nl := 0) (n := 163) (c := lkC2) (x := some (some 2)) (s' := lkS c C p p.P) (lkS c C p) p.P (by simp) (fun i hi => lk2_step gl hT c C p hs hF hr i hi (fst_none a6 i hi) w hG) (lk2_end gl p _ _ _ _ w hG)
     obtain ⟨l1, _, _⟩ := lkL_len hs p.P (Nat.le_refl _)
     refine ⟨fun _ => ?_, fun h => absurd e h⟩
     have h6 : ¬ (((lkL c p p.P).length : Nat) : Int) > 262144 := by omega
     by_cases h0 : c = 0
     . subst h0
       exact lk_gn gl p 0 C a1 a2 a3 _ hl1 (by omega) rfl _ _ _ _ h6 (fun w hG => (hl w hG).alike rfl rfl ⟨.refl _, .refl _, app00 C, .refl _, .refl _, trivial⟩ rfl) w vals hG ha
     . exact lk_g gl p c C a1 a2 a3 _ hl1 (by omega) (by omega) _ _ _ _ h6 (fun w hG => (hl w hG).alike rfl rfl ⟨.refl _, .refl _, app0 c C, .refl _, .refl _, trivial⟩ rfl) w vals hG ha
end Go.Proofs.YtilljoemebbnjaaDoor
