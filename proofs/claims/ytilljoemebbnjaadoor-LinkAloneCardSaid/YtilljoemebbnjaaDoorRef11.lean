/- Layer 11: ref.Link: the image of any parts, by definition. -/
import Derived.Test.YtilljoemebbnjaaDoorK02
import Derived.Test.YtilljoemebbnjaaDoorPlain03
import Derived.Test.YtilljoemebbnjaaDoorSimV
import Derived.Test.YtilljoemebbnjaaDoorIsa
import Derived.Test.YtilljoemebbnjaaDoorPlain04
import Derived.Test.YtilljoemebbnjaaDoorStub11
import Derived.Test.YtilljoemebbnjaaDoorK10
import Derived.Test.YtilljoemebbnjaaDoorRows
import Derived.KernelRfl
set_option linter.unusedVariables false
set_option linter.unusedSimpArgs false
namespace Go.Proofs.YtilljoemebbnjaaDoor
open Go.RowKit Sim S2
structure Pts where
  P : Nat
  ua : Nat → Option Addr
  un : Nat → Nat
  uc : Nat → Nat
  fr : Nat → Int
  uF : Value → Nat → It
def Pts.uv (p : Pts) (j : Nat) : Value := .slice (p.ua j) (p.un j) (p.uc j)
def lenV : Value → Nat
  | .slice _ n _ => n
  | _ => 0
def ptE (T : TypeId) (own : Bool) (p : Pts) : LE := ⟨T, 2, p.P, fun j => [p.uv j, .int .i64 (p.fr j)], own, false, true⟩
abbrev Pts.n (p : Pts) (j : Nat) : Nat := p.un j
def Pts.f (p : Pts) (j : Nat) : Nat → It := p.uF (p.uv j)
def ptR (p : Pts) (v : Value) : LE := itE (lenV v) (p.uF v)
def ptRow (p : Pts) (l : List Nat) (k : Nat) : Option (Value → LE) := bif l.any (Nat.beq k) then some (ptR p) else none
def ptsOk (gl : Gl) (p : Pts) : Prop := ∀ j, j < p.P → rowG gl (p.uv j) (itE (p.n j) (p.f j))
def w3E (L : List Int) : LE := ⟨47, 1, L.length, fun j => [.int .u32 ((L[j]?).getD 0)], true, false, true⟩
theorem joinE_app {n : Nat} {f g h : Nat → List Value} {m : Nat} (h1 : ∀ i, i < n → f i = h i) (h2 : ∀ i, i < m → g i = h (n + i)) : ∀ i, i < n + m → joinE n f g i = h i := fun i hi => by
  unfold joinE
  cases hb : Nat.blt i n
  · have hx : ¬ i < n := fun hc => by rw [← Nat.blt_eq, hb] at hc; cases hc
    show g (i - n) = h i
    rw [h2 (i - n) (by omega)]
    congr 1; omega
  · exact h1 i (by simpa [Nat.blt_eq] using hb)
theorem app1 (N M : List Int) : sameE (raw1 (N.length + M.length) (joinE N.length (ntE N).el (ntE M).el)) (ntE (N ++ M)) := ⟨rfl, rfl, by simp [raw1, ntE], rfl, rfl, joinE_app (fun i hi => by
    show [Value.int .i64 ((N[i]?).getD 0)] = [Value.int .i64 (((N ++ M)[i]?).getD 0)]
    rw [List.getElem?_append_left hi]) fun i hi => by
    show [Value.int .i64 ((M[i]?).getD 0)] = [Value.int .i64 (((N ++ M)[N.length + i]?).getD 0)]
    rw [List.getElem?_append_right (by omega), Nat.add_sub_cancel_left]⟩
theorem app1x (N : List Int) (x : Int) : sameE (raw1 (N.length + 1) (joinE N.length (ntE N).el (tabE [[.int .i64 x]]))) (ntE (N ++ [x])) := ⟨rfl, rfl, by simp [raw1, ntE], rfl, rfl, joinE_app (fun i hi => by
    show [Value.int .i64 ((N[i]?).getD 0)] = [Value.int .i64 (((N ++ [x])[i]?).getD 0)]
    rw [List.getElem?_append_left hi]) fun i hi => by
    obtain rfl : i = 0 := by omega
    show [Value.int .i64 x] = [Value.int .i64 (((N ++ [x])[N.length + 0]?).getD 0)]
    simp⟩
def celL (c : Nat) (C : Nat → Int) : List Int := (List.range c).map C
theorem celL_len (c : Nat) (C : Nat → Int) : (celL c C).length = c := by simp [celL]
theorem celL_get (c : Nat) (C : Nat → Int) (i : Nat) (h : i < c) : ((celL c C)[i]?).getD 0 = C i := by simp [celL, h]
def rawI2 (d : Int) : Nat → List Value := tabE [itC (stbI 4 16777216), itC (stbI 2 (16777216 + 8 * d))]
theorem isIt_stb (d : Int) (n : Nat) (f : Nat → It) (hn : n ≤ 1000000) : isItE (rawI (2 + n) (joinE 2 (rawI2 d) (itE n f).el)) (n + 2) (stbF d f) := ⟨rfl, by show 2 + n = n + 2; omega, fun j hj => joinE_app (n := 2) (m := n) (h := fun j => itC (stbF d f j)) (fun i hi => by
    match i with
    | 0 => rfl
    | 1 => rfl
    | _ + 2 => omega) (fun i hi => by
    show itC (f i) = itC (stbF d f (2 + i))
    rw [Nat.add_comm]; rfl) j (by omega), by omega⟩
theorem isIt_stb0 (d : Int) (f : Nat → It) : isItE (rawI 2 (rawI2 d)) (0 + 2) (stbF d f) := ⟨rfl, rfl, fun j hj => by
    match j with
    | 0 => rfl
    | 1 => rfl
    | _ + 2 => omega, by omega⟩
def imZB (t : List S2.SV) : S2.Blk := ⟨t, 30, .cells⟩
def nilV : S2.SV := .inl ([false], .slice none 0 0)
abbrev rPart (p : Pts) : LE := ptE 49 false p
def nilW : S2.SV := .inl ([false], .slice none 0 0)
def lkQR : Pick := { ts := [4, 5, 6], bs := [0], ls := [] }
noncomputable def lkX (p : Pts) (j : Nat) (d : Int) : List It := XL (p.n j + 2) (stbF d (p.f j))
noncomputable def lkA (p : Pts) (j : Nat) (d : Int) : List In := layA (elI (lkX p j d)) (lgG (lkX p j d).length (elI (lkX p j d))) (lkX p j d).length (lkX p j d).length
noncomputable def lkM (p : Pts) (j : Nat) (d : Int) : List Int := layN (elI (lkX p j d)) (lgG (lkX p j d).length (elI (lkX p j d))) (lkX p j d).length (lkX p j d).length
noncomputable def lkFar (p : Pts) (j : Nat) (d : Int) : Option Nat := fstN (badJ (elI (lkX p j d)) (lgG (lkX p j d).length (elI (lkX p j d))) (lkX p j d).length) (lkX p j d).length
def r1x (N : List Int) (x : Int) : LE := raw1 (N.length + 1) (joinE N.length (ntE N).el (tabE [[.int .i64 x]]))
def r1a (N M : List Int) : LE := raw1 (N.length + M.length) (joinE N.length (ntE N).el (ntE M).el)
theorem lkX_len (p : Pts) (j : Nat) (d : Int) (hn : p.n j ≤ 1000) : (lkX p j d).length ≤ 8016 := by
  have := xpL_len (stbF d (p.f j)) (p.n j + 2)
  show (xpL _ _).length ≤ _
  omega
def sumF (p : Pts) : Nat → Int
  | 0 => 0
  | j + 1 => sumF p j + p.fr j
def lkD (c : Nat) (C : Nat → Int) (p : Pts) : Nat → List Int
  | 0 => celL c C
  | j + 1 => lkD c C p j ++ List.replicate (p.fr j).toNat 0
def lkd (c : Nat) (p : Pts) : Nat → Int
  | 0 => c
  | j + 1 => lkd c p j + (p.fr j).toNat
noncomputable def lkL (c : Nat) (p : Pts) : Nat → List Int
  | 0 => []
  | j + 1 => lkL c p j ++ (lkA p j (lkd c p j)).map encZ
noncomputable def lkK (c : Nat) (p : Pts) : Nat → List Int
  | 0 => []
  | j + 1 => lkK c p j ++ [((lkL c p j).length : Int)]
noncomputable def lkN (c : Nat) (p : Pts) : Nat → List Int
  | 0 => []
  | j + 1 => lkN c p j ++ lkM p j (lkd c p j)
def frB (p : Pts) (j : Nat) : Bool := decide (p.fr j < 0) || decide (p.fr j > 250)
def badU (p : Pts) (j : Nat) : Bool := (unitR (p.n j) (p.f j)).2 != 0
noncomputable def farU (c : Nat) (p : Pts) (j : Nat) : Bool := (lkFar p j (lkd c p j)).isSome
noncomputable def wrgU (c : Nat) (p : Pts) (j : Nat) : Bool := badU p j || farU c p j
noncomputable def lkErr (c : Nat) (p : Pts) : Int :=
  if p.P < 1 ∨ 8 < p.P then 29 else if 200 < c then 30 else if (fstN (frB p) p.P).isSome ∨ 4096 < (c : Int) + sumF p p.P then 31
  else match fstN (wrgU c p) p.P with
    | some j => bif badU p j then 1 else 33
    | none => 0
structure lkSm (c : Nat) (p : Pts) : Prop where
  P : p.P ≤ 100
  n : ∀ j, j < p.P → p.n j ≤ 1000
  wf : ∀ j, j < p.P → ∀ i, i < p.n j → wfIt (p.f j i)
  c : c ≤ 1000000
theorem sumF_rng {p : Pts} {P : Nat} (h : ∀ i, i < P → 0 ≤ p.fr i ∧ p.fr i ≤ 250) : ∀ j, j ≤ P → 0 ≤ sumF p j ∧ sumF p j ≤ 250 * j
  | 0, _ => ⟨Int.le_refl _, Int.le_refl _⟩
  | j + 1, hj => by
    have h1 := sumF_rng h j (by omega)
    have h2 := h j (by omega)
    show 0 ≤ sumF p j + p.fr j ∧ sumF p j + p.fr j ≤ 250 * ((j + 1 : Nat) : Int)
    omega
theorem lkd_sum {c : Nat} {p : Pts} {P : Nat} (h : ∀ i, i < P → 0 ≤ p.fr i ∧ p.fr i ≤ 250) : ∀ j, j ≤ P → lkd c p j = c + sumF p j
  | 0, _ => by show (c : Int) = c + 0; omega
  | j + 1, hj => by
    have h1 := lkd_sum (c := c) h j (by omega)
    have h2 := h j (by omega)
    show lkd c p j + (p.fr j).toNat = c + (sumF p j + p.fr j)
    omega
theorem lkA_len (p : Pts) (j : Nat) (d : Int) (hn : p.n j ≤ 1000) : (lkA p j d).length ≤ 20000 ∧ (lkM p j d).length = (lkA p j d).length ∧ 0 < (lkM p j d).length := by
  have h1 := lkX_len p j d hn
  have h2 := layA_len (elI (lkX p j d)) (lgG (lkX p j d).length (elI (lkX p j d))) (lkX p j d).length (lkX p j d).length
  have h3 : 0 < (lkA p j d).length := stb_pos d (p.f j) (p.n j) _ _
  have e1 : (lkM p j d).length = (lkA p j d).length := h2.2
  refine ⟨?_, e1, by omega⟩
  have := h2.1
  show (layA _ _ _ _).length ≤ _
  omega
theorem lkL_len {c : Nat} {p : Pts} (h : lkSm c p) : ∀ j, j ≤ p.P → (lkL c p j).length ≤ 20000 * j ∧ (lkN c p j).length = (lkL c p j).length ∧ (lkK c p j).length = j
  | 0, _ => ⟨Nat.le_refl _, rfl, rfl⟩
  | j + 1, hj => by
    obtain ⟨h1, h2, h3⟩ := lkL_len h j (by omega)
    obtain ⟨k1, k2, k3⟩ := lkA_len p j (lkd c p j) (h.n j (by omega))
    show (lkL c p j ++ _).length ≤ _ ∧ (lkN c p j ++ _).length = (lkL c p j ++ _).length ∧ (lkK c p j ++ _).length = j + 1
    rw [List.length_append, List.length_append, List.length_append, List.length_map, List.length_singleton]
    omega
structure lkFr (c : Nat) (p : Pts) : Prop where
  fr : ∀ i, i < p.P → 0 ≤ p.fr i ∧ p.fr i ≤ 250
  sum : (c : Int) + sumF p p.P ≤ 4096
theorem lkd_rng {c : Nat} {p : Pts} (h : lkSm c p) (hf : lkFr c p) (j : Nat) (hj : j ≤ p.P) : 0 ≤ lkd c p j ∧ lkd c p j ≤ 2000000 := by
  have h1 := lkd_sum (c := c) hf.fr j hj
  have h2 := sumF_rng hf.fr j hj
  have := h.P; have := h.c
  omega
theorem lkF_none {c : Nat} {p : Pts} {j : Nat} (h : wrgU c p j = false) : (unitR (p.n j) (p.f j)).2 = 0 ∧ lkFar p j (lkd c p j) = none := by
  unfold wrgU at h
  rw [Bool.or_eq_false_iff] at h
  refine ⟨by have := h.1; unfold badU at this; simpa using this, ?_⟩
  have := h.2; unfold farU at this
  cases e : lkFar p j (lkd c p j) with
  | none => rfl
  | some x => rw [e] at this; cases this
structure lkUn (p : Pts) (j : Nat) (d : Int) : Prop where
  cst : cstOk (p.n j + 2) (stbF d (p.f j))
  may : mayU (lkX p j d).length (elI (lkX p j d)) = true
theorem lkUn_of {p : Pts} {j : Nat} {d : Int} (h : (unitR (p.n j) (p.f j)).2 = 0) (hw : ∀ i, i < p.n j → wfIt (p.f j i)) (h0 : 0 ≤ d) (h1 : d ≤ 1000000000000) : lkUn p j d :=
  ⟨cst_of (stb_unit d h) (stb_wf hw h0 h1), xp_may (stb_unit d h) (stb_wf hw h0 h1)⟩
def zImg : Value := .agg #[.slice none 0 0, .slice none 0 0, .slice none 0 0]
def lkNo (e : Int) : List XV := [.inl (.tuple #[zImg, .slice none 0 0, .int .i64 e])]
noncomputable def lkYes (c : Nat) (C : Nat → Int) (p : Pts) : List XV := [.st [.inr (w3E (lkL c p p.P)), .inr (ntE (lkD c C p p.P)), .inr (ntE (lkK c p p.P))], .inr (ntE (lkN c p p.P)), .inl (.int .i64 0)]
theorem frames_ok {p : Pts} (h : fstN (frB p) p.P = none) : ∀ i, i < p.P → 0 ≤ p.fr i ∧ p.fr i ≤ 250 := fun i hi => by
  have := fst_none h i hi; unfold frB at this; simp at this; omega
end Go.Proofs.YtilljoemebbnjaaDoor
