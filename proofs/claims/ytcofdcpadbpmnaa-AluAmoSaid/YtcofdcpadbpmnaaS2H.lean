/- The evaluator with lists: loops by an invariant, the whole call, tables of contracts. No word of the program. -/
import Derived.Test.YtcofdcpadbpmnaaS2K
namespace Go.Proofs.Ytcofdcpadbpmnaa.S2
open Go Go.RowKit Sim
set_option linter.unusedVariables false
set_option linter.unusedSimpArgs false

/-- What a piece of code does, from one state to another. -/
def Sem (E : Env) (w0 : World) (n : Nat) (c : Code) (s : St) (x : X) (s' : St) : Prop :=
  ∀ Q ν a w, TR n ν s a → WR w0 ν s.own s.mem w → (∀ ν' a' w', TR n ν' s' a' → WR w0 ν' s'.own s'.mem w' → Q x.toExit a' w') → c.wp E.P Q a w
theorem sem_run {E : Env} (HC : CallOk E) {w0 : World} (hG : Glob E w0) {fuel n : Nat} {c : Code} {s s' : St} {x : X} (hg : Good s) (h : simC E fuel n c s = some (x, s')) (hh : Holds' s') : Sem E w0 n c s x s' :=
  fun Q ν a w ht hw hQ => (simC_ok HC hG fuel n c s x s' hg h hh Q ν a w ht hw fun ν' a' w' _ => hQ ν' a' w').wp
/-- What is kept of a state: slots, blocks, lists, by their numbers. -/
structure Pick where
  ts : List Nat
  bs : List Nat
  ls : List Nat
  nil : List (Nat × TypeId × Nat × (Nat → List Value)) := []
  opn : List Nat := []
  opb : List Nat := []
def posN : List Nat → Nat → Option Nat
  | [], _ => none
  | x :: r, i => bif Nat.beq x i then some 0 else (match posN r i with
    | some k => some (k + 1)
    | none => none)
def pickC (p : Pick) : CV → Option CV
  | .v fl x => some (.v fl x)
  | .a i off => match posN p.bs i with
    | some i' => some (.a i' off)
    | none => none
  | .l k => match posN p.ls k with
    | some k' => some (.l k')
    | none => none
def pickCL (p : Pick) : List CV → Option (List CV)
  | [] => some []
  | x :: r => match pickC p x, pickCL p r with
    | some y, some l => some (y :: l)
    | _, _ => none
def pickV (p : Pick) : SV → SV
  | .inl q => .inl q
  | .inr (i, off, r) => match posN p.bs i with
    | some i' => .inr (i', off, r)
    | none => .any
  | .c k => match posN p.ls k with
    | some k' => .c k'
    | none => .any
  | .lp k j o sz => match posN p.ls k with
    | some k' => .lp k' j o sz
    | none => .any
  | .tp _ => .any
  | .fn f fs cs => match pickCL p fs, pickCL p cs with
    | some fs', some cs' => .fn f fs' cs'
    | _, _ => .any
  | .sub k lo n sz => match posN p.ls k with
    | some k' => .sub k' lo n sz
    | none => .any
  | .any => .any
def openV (b : Bool) : SV → SV
  | .inl (fl, v) => bif b then .inl (List.replicate v.cells.size true, v) else .inl (fl, v)
  | x => x
theorem openV_is {ν : Nu} {b : Bool} {x : SV} {v : Value} (h : Is ν x v) : Is ν (openV b x) v := by
  cases x with
  | inl p => cases b <;> exact h
  | _ => exact h
def takeL {α : Type} (l : List α) : List Nat → Option (List α)
  | [] => some []
  | i :: r => match l[i]?, takeL l r with
    | some x, some t => some (x :: t)
    | _, _ => none
def nodupB : List Nat → Bool
  | [] => true
  | x :: r => !(r.any fun y => Nat.beq x y) && nodupB r
/-- A slot that holds the nil slice becomes an empty list of the call's own. -/
def nilS (t : Nat) (e : TypeId) (size : Nat) (el : Nat → List Value) (s : St) : Option St := match look s.tmps t with
  | .inl (_, .slice none 0 0) => bif Nat.blt 0 size then some { s with tmps := (t, .c s.own.l.length) :: s.tmps, own := { s.own with l := s.own.l ++ [⟨e, size, 0, el, true, false, true⟩] }, mem := true } else none
  | _ => none
def nilL : List (Nat × TypeId × Nat × (Nat → List Value)) → St → Option St
  | [], s => some s
  | (t, e, size, el) :: r, s => match nilS t e size el s with
    | some s1 => nilL r s1
    | none => none
def pickCells (p : Pick) (o : Bool) : List SV → Option (List SV)
  | [] => some []
  | x :: r => match pickV p x with
    | .any => none
    | y => match pickCells p o r with
      | some l => some (openV o y :: l)
      | none => none
def openK (o : Bool) : Kd → Kd
  | .cells => .cells
  | .iter fl s p => .iter (bif o then [true] else fl) s p
  | .bld fl T e a => .bld (bif o then [true] else fl) T e a
theorem BOk.of {B : Nat} {ν ν' : Nu} {w : World} {a : Nat} {b b0 : Blk} {o : Bool} (h : BOk B ν w a b0) (h1 : concB ν' b.cells = concB ν b0.cells) (h2 : b.elem = b0.elem) (h3 : b.kd = openK o b0.kd) : BOk B ν' w a b := by
  unfold BOk at *
  rw [h3]
  cases hk : b0.kd with
  | cells =>
    rw [hk] at h
    show w.heap[a]? = some (.cells (concB ν' b.cells).toArray b.elem (0, 0))
    rw [h1, h2]; exact h
  | iter fl s p => rw [hk] at h; exact h
  | bld fl T e acc => rw [hk] at h; exact h
def pickBs (p : Pick) : Nat → List Blk → Option (List Blk)
  | _, [] => some []
  | n, b :: r => match pickCells p (p.opb.any fun y => Nat.beq y n) b.cells, pickBs p (n + 1) r with
    | some cs, some l => some (⟨cs, b.elem, openK (p.opb.any fun y => Nat.beq y n) b.kd⟩ :: l)
    | _, _ => none
def takeB (p : Pick) (bs : List Blk) : Option (List Blk) := match takeL bs p.bs with
  | some b => pickBs p 0 b
  | none => none
def pickS0 (p : Pick) (s : St) : Option St := match takeB p s.own.b, takeL s.own.l p.ls with
  | some b, some l => bif nodupB p.bs && nodupB p.ls then some { tmps := p.ts.map fun t => (t, openV (p.opn.any fun y => Nat.beq y t) (pickV p (look s.tmps t))), own := ⟨b, l⟩, lo := 0, llo := 0, mem := true, orc := [], obl := [] } else none
  | _, _ => none
def pickS (p : Pick) (s : St) : Option St := match nilL p.nil s with
  | some s1 => pickS0 p s1
  | none => none
theorem posN_ok : ∀ (l : List Nat) (i k : Nat), posN l i = some k → l[k]? = some i
  | [], i, k, h => by simp [posN] at h
  | x :: r, i, k, h => by
    unfold posN at h
    cases hb : Nat.beq x i
    · rw [hb] at h
      simp only [cond_false] at h
      split at h
      · rename_i k' hk
        simp only [Option.some.injEq] at h
        subst h
        exact posN_ok r i k' hk
      · cases h
    · rw [hb] at h
      simp only [cond_true, Option.some.injEq] at h
      subst h
      rw [Nat.eq_of_beq_eq_true hb]; rfl
theorem takeL_get {α : Type} {l : List α} : ∀ (is : List Nat) (t : List α), takeL l is = some t → t.length = is.length ∧ ∀ (k i : Nat), is[k]? = some i → t[k]? = l[i]?
  | [], t, h => by simp only [takeL, Option.some.injEq] at h; subst h; exact ⟨rfl, fun k i h => by simp at h⟩
  | i :: r, t, h => by
    unfold takeL at h
    split at h
    · rename_i x t' hx ht
      simp only [Option.some.injEq] at h
      subst h
      obtain ⟨h1, h2⟩ := takeL_get r t' ht
      refine ⟨by simp [h1], fun k j hk => ?_⟩
      cases k with
      | zero => simp at hk; subst hk; simp [hx]
      | succ k => simp at hk ⊢; exact h2 k j hk
    · cases h
theorem nodupB_ok : ∀ (l : List Nat), nodupB l = true → ∀ (i j x : Nat), l[i]? = some x → l[j]? = some x → i = j
  | [], _, i, j, x, hi, _ => by simp at hi
  | y :: r, h, i, j, x, hi, hj => by
    simp only [nodupB, Bool.and_eq_true, Bool.not_eq_true', List.any_eq_false] at h
    have hn : ∀ z ∈ r, z ≠ y := fun z hz e => h.1 z hz (by rw [e]; simp)
    cases i with
    | zero =>
      cases j with
      | zero => rfl
      | succ j =>
        simp at hi hj
        subst hi
        exact absurd rfl (hn _ (List.mem_of_getElem? hj))
    | succ i =>
      cases j with
      | zero =>
        simp at hi hj
        subst hj
        exact absurd rfl (hn _ (List.mem_of_getElem? hi))
      | succ j =>
        simp at hi hj
        rw [nodupB_ok r h.2 i j x hi hj]
theorem look_map (f : Nat → SV) (t : Nat) : ∀ (ts : List Nat), look (ts.map fun t => (t, f t)) t = .any ∨ look (ts.map fun t => (t, f t)) t = f t
  | [] => .inl rfl
  | t0 :: r => by
    show look ((t0, f t0) :: r.map fun t => (t, f t)) t = .any ∨ look ((t0, f t0) :: r.map fun t => (t, f t)) t = f t
    unfold look
    cases hb : Nat.beq t0 t
    · exact look_map f t r
    · rw [Nat.eq_of_beq_eq_true hb]; exact .inr rfl
/-- The kept blocks and lists, by their new numbers. -/
def pickNu (p : Pick) (ν : Nu) : Nu := ⟨fun i => ν.l ((p.bs[i]?).getD 0), fun k => ν.v ((p.ls[k]?).getD 0)⟩
theorem pickC_ok {p : Pick} {ν : Nu} {c c' : CV} (hc : pickC p c = some c') : concC (pickNu p ν) c' = concC ν c ∧ okC p.bs.length p.ls.length c' := by
  unfold pickC at hc
  split at hc
  · simp only [Option.some.injEq] at hc; subst hc; exact ⟨rfl, trivial⟩
  · split at hc
    · rename_i i off _ i' hp
      simp only [Option.some.injEq] at hc; subst hc
      have hl := posN_ok _ _ _ hp
      have e : (pickNu p ν).l i' = ν.l i := by show ν.l ((p.bs[i']?).getD 0) = _; rw [hl]; rfl
      exact ⟨by simp only [concC, e], lt_of_some_list hl⟩
    · cases hc
  · split at hc
    · rename_i k _ k' hp
      simp only [Option.some.injEq] at hc; subst hc
      have hl := posN_ok _ _ _ hp
      exact ⟨by show ν.v ((p.ls[k']?).getD 0) = _; rw [hl]; rfl, lt_of_some_list hl⟩
    · cases hc
theorem pickCL_ok {p : Pick} {ν : Nu} : ∀ (l l' : List CV), pickCL p l = some l' → l'.map (concC (pickNu p ν)) = l.map (concC ν) ∧ ∀ x ∈ l', okC p.bs.length p.ls.length x
  | [], l', h => by simp only [pickCL, Option.some.injEq] at h; subst h; exact ⟨rfl, fun x hx => by cases hx⟩
  | c :: r, l', h => by
    unfold pickCL at h
    split at h
    · rename_i y t hy ht
      simp only [Option.some.injEq] at h; subst h
      obtain ⟨h1, h2⟩ := pickC_ok (ν := ν) hy
      obtain ⟨h3, h4⟩ := pickCL_ok (ν := ν) r t ht
      refine ⟨by rw [List.map_cons, List.map_cons, h1, h3], fun x hx => ?_⟩
      rcases List.mem_cons.mp hx with rfl | hx
      · exact h2
      · exact h4 x hx
    · cases h
theorem pickV_ok (p : Pick) (ν : Nu) (x : SV) : pickV p x = .any ∨ (x ≠ .any ∧ conc (pickNu p ν) (pickV p x) = conc ν x ∧ okV p.bs.length p.ls.length (pickV p x)) := by
  cases x with
  | inl q => exact .inr ⟨by simp, rfl, trivial⟩
  | inr q =>
    obtain ⟨i, off, r⟩ := q
    unfold pickV
    simp only
    split
    · rename_i i' hp
      have hl := posN_ok _ _ _ hp
      have e : (pickNu p ν).l i' = ν.l i := by show ν.l ((p.bs[i']?).getD 0) = _; rw [hl]; rfl
      rcases r with _ | ⟨len, cap⟩
      · exact .inr ⟨by simp, by simp only [conc, e], lt_of_some_list hl⟩
      · exact .inr ⟨by simp, by simp only [conc, e], lt_of_some_list hl⟩
    · exact .inl rfl
  | c k =>
    unfold pickV
    simp only
    split
    · rename_i k' hp
      have hl := posN_ok _ _ _ hp
      have e : (pickNu p ν).v k' = ν.v k := by show ν.v ((p.ls[k']?).getD 0) = _; rw [hl]; rfl
      exact .inr ⟨by simp, e, lt_of_some_list hl⟩
    · exact .inl rfl
  | lp k j o sz =>
    unfold pickV
    simp only
    split
    · rename_i k' hp
      have hl := posN_ok _ _ _ hp
      have e : (pickNu p ν).v k' = ν.v k := by show ν.v ((p.ls[k']?).getD 0) = _; rw [hl]; rfl
      exact .inr ⟨by simp, by simp only [conc, e], lt_of_some_list hl⟩
    · exact .inl rfl
  | tp l => exact .inl rfl
  | fn f fs cs =>
    unfold pickV
    simp only
    split
    · rename_i fs' cs' hfs hcs
      obtain ⟨h1, h2⟩ := pickCL_ok (ν := ν) fs fs' hfs
      obtain ⟨h3, h4⟩ := pickCL_ok (ν := ν) cs cs' hcs
      exact .inr ⟨by simp, by simp only [conc, h1, h3], h2, h4⟩
    · exact .inl rfl
  | sub k lo n sz =>
    unfold pickV
    simp only
    split
    · rename_i k' hp
      have hl := posN_ok _ _ _ hp
      have e : (pickNu p ν).v k' = ν.v k := by show ν.v ((p.ls[k']?).getD 0) = _; rw [hl]; rfl
      exact .inr ⟨by simp, by simp only [conc, e], lt_of_some_list hl⟩
    · exact .inl rfl
  | any => exact .inl rfl
theorem pickV_is (p : Pick) {ν : Nu} {x : SV} {v : Value} (h : Is ν x v) : Is (pickNu p ν) (pickV p x) v := by
  rcases pickV_ok p ν x with h0 | ⟨h1, h2, _⟩
  · rw [h0]; trivial
  · have e : v = conc ν x := by cases x <;> first | exact h | exact absurd rfl h1
    rw [e, ← h2]
    cases hy : pickV p x with
    | any => trivial
    | _ => rfl
theorem openV_conc (ν : Nu) (o : Bool) (x : SV) : conc ν (openV o x) = conc ν x := by
  cases x with
  | inl p => cases o <;> rfl
  | _ => rfl
theorem openV_ok {n m : Nat} {o : Bool} {x : SV} (h : okV n m x) : okV n m (openV o x) := by
  cases x with
  | inl p => cases o <;> trivial
  | _ => exact h
theorem pickCells_ok {ν : Nu} (p : Pick) {o : Bool} : ∀ (cs cs' : List SV), pickCells p o cs = some cs' → concB (pickNu p ν) cs' = concB ν cs ∧ ∀ c ∈ cs', okV p.bs.length p.ls.length c
  | [], cs', h => by simp only [pickCells, Option.some.injEq] at h; subst h; exact ⟨rfl, fun c hc => by cases hc⟩
  | x :: r, cs', h => by
    unfold pickCells at h
    split at h
    · cases h
    · rename_i y hne
      split at h
      · rename_i l hl
        simp only [Option.some.injEq] at h
        subst h
        obtain ⟨h1, h2⟩ := pickCells_ok (ν := ν) p r l hl
        rcases pickV_ok p ν x with h0 | ⟨_, h3, h4⟩
        · exact absurd h0 hne
        · refine ⟨?_, fun c hc => ?_⟩
          · show conc (pickNu p ν) (openV o (pickV p x)) :: concB (pickNu p ν) l = conc ν x :: concB ν r
            rw [openV_conc, h3, h1]
          · rcases List.mem_cons.mp hc with rfl | hc
            · exact openV_ok h4
            · exact h2 c hc
      · cases h
theorem pickBs_len (p : Pick) : ∀ (bs bs' : List Blk) (n : Nat), pickBs p n bs = some bs' → bs'.length = bs.length
  | [], bs', n, h => by simp only [pickBs, Option.some.injEq] at h; subst h; rfl
  | b :: r, bs', n, h => by
    unfold pickBs at h
    split at h
    · rename_i cs l hc hl
      simp only [Option.some.injEq] at h
      subst h
      simp [pickBs_len p r l _ hl]
    · cases h
theorem pickBs_get (p : Pick) : ∀ (bs bs' : List Blk) {n : Nat}, pickBs p n bs = some bs' → ∀ (i : Nat) (b : Blk), bs'[i]? = some b → ∃ b0, bs[i]? = some b0 ∧ pickCells p (p.opb.any fun y => Nat.beq y (n + i)) b0.cells = some b.cells ∧ b.elem = b0.elem ∧ ∃ o, b.kd = openK o b0.kd
  | [], bs', n, h, i, b, hi => by simp only [pickBs, Option.some.injEq] at h; subst h; simp at hi
  | b0 :: r, bs', n, h, i, b, hi => by
    unfold pickBs at h
    split at h
    · rename_i cs l hc hl
      simp only [Option.some.injEq] at h
      subst h
      cases i with
      | zero => simp at hi; subst hi; exact ⟨b0, rfl, hc, rfl, _, rfl⟩
      | succ i =>
        simp at hi
        obtain ⟨b1, k1, k2, k3⟩ := pickBs_get p r l hl i b hi
        exact ⟨b1, by simpa using k1, by rw [show n + (i + 1) = n + 1 + i by omega]; exact k2, k3⟩
    · cases h
theorem pick0_ok {p : Pick} {s s' : St} (h : pickS0 p s = some s') {n : Nat} {w0 w : World} {ν : Nu} {a : Act} (ht : TR n ν s a) (hw : WR w0 ν s.own s.mem w) : ∃ ν', TR n ν' s' a ∧ WR w0 ν' s'.own s'.mem w := by
  unfold pickS0 at h
  split at h
  · rename_i bb l hbb hl
    unfold takeB at hbb
    split at hbb
    rotate_left
    · cases hbb
    rename_i b hb
    have hpb := hbb
    have hpl := pickBs_len p _ _ _ hbb
    cases hd : (nodupB p.bs && nodupB p.ls)
    · rw [hd] at h; cases h
    · rw [hd] at h
      simp only [cond_true, Option.some.injEq] at h
      subst h
      simp only [Bool.and_eq_true] at hd
      obtain ⟨b1, b2⟩ := takeL_get _ _ hb
      obtain ⟨l1, l2⟩ := takeL_get _ _ hl
      let ν' : Nu := pickNu p ν
      have hbi : ∀ i, i < b.length → ∃ i0, p.bs[i]? = some i0 ∧ ν'.l i = ν.l i0 ∧ b[i]? = s.own.b[i0]? := fun i hi => by
        have : i < p.bs.length := by omega
        refine ⟨p.bs[i], by simp [this], ?_, b2 i _ (by simp [this])⟩
        show ν.l ((p.bs[i]?).getD 0) = _
        simp [this]
      have hli : ∀ k, k < l.length → ∃ k0, p.ls[k]? = some k0 ∧ ν'.v k = ν.v k0 ∧ l[k]? = s.own.l[k0]? := fun k hk => by
        have : k < p.ls.length := by omega
        refine ⟨p.ls[k], by simp [this], ?_, l2 k _ (by simp [this])⟩
        show ν.v ((p.ls[k]?).getD 0) = _
        simp [this]
      have hblt : ∀ i i0, p.bs[i]? = some i0 → i < b.length := fun i i0 h => by rw [b1]; exact lt_of_some_list h
      have hown : ∀ i, i < b.length → ∃ i0, p.bs[i]? = some i0 ∧ ν'.l i = ν.l i0 ∧ i0 < s.own.b.length := fun i hi => by
        obtain ⟨i0, h1, h2, h3⟩ := hbi i hi
        refine ⟨i0, h1, h2, ?_⟩
        rw [List.getElem?_eq_getElem hi] at h3
        exact lt_of_some_list h3.symm
      refine ⟨ν', ⟨ht.size, fun t => ?_, ht.df⟩, ⟨hw.below, fun i blk hi => ?_, ?_, fun i j hi hj he => ?_, fun k e hk hdead => ?_, fun k e hk hdead ho g hg => ?_, fun h => by cases h⟩⟩
      · show Is ν' (look (p.ts.map fun t => (t, openV (p.opn.any fun y => Nat.beq y t) (pickV p (look s.tmps t)))) t) _
        have hlook := look_map (fun t => openV (p.opn.any fun y => Nat.beq y t) (pickV p (look s.tmps t))) t
        rcases hlook p.ts with h | h
        · rw [h]; trivial
        · rw [h]
          exact openV_is (pickV_is p (ht.tm t))
      · obtain ⟨i0, h1, h2, h3⟩ := hbi i (by rw [← hpl]; exact lt_of_some_list hi)
        obtain ⟨b0, k1, k2, k3⟩ := pickBs_get p _ _ hpb i blk hi
        obtain ⟨k4, k5⟩ := pickCells_ok (ν := ν) p _ _ k2
        rw [h2]
        obtain ⟨m1, m2⟩ := hw.blk i0 b0 (by rw [← h3]; exact k1)
        exact ⟨m1.of k4 k3.1 k3.2.choose_spec, m2⟩
      · intro i blk hi
        obtain ⟨b0, k1, k2, k3⟩ := pickBs_get p _ _ hpb i blk hi
        intro c hc
        have := (pickCells_ok (ν := ν) p _ _ k2).2 c hc
        rw [← b1, ← hpl, ← l1] at this
        exact this
      · obtain ⟨i0, h1, h2, h3⟩ := hown i (by rw [← hpl]; exact hi)
        obtain ⟨j0, k1, k2, k3⟩ := hown j (by rw [← hpl]; exact hj)
        have : i0 = j0 := hw.inj i0 j0 h3 k3 (by rw [← h2, ← k2]; exact he)
        subst this
        exact nodupB_ok _ hd.1 i j i0 h1 k1
      · obtain ⟨k0, h1, h2, h3⟩ := hli k (lt_of_some_list hk)
        rw [h2]
        exact hw.lst k0 e (by rw [← h3]; exact hk) hdead
      · obtain ⟨k0, h1, h2, h3⟩ := hli k (lt_of_some_list hk)
        rw [h2] at hg
        obtain ⟨s1, s2⟩ := hw.sep k0 e (by rw [← h3]; exact hk) hdead ho g hg
        refine ⟨fun i hi => ?_, fun k' e' hk' hd' ho' hne => ?_⟩
        · obtain ⟨i0, j1, j2, j3⟩ := hown i (by rw [← hpl]; exact hi)
          rw [j2]; exact s1 i0 j3
        · obtain ⟨m0, m1, m2, m3⟩ := hli k' (lt_of_some_list hk')
          rw [m2]
          refine s2 m0 e' (by rw [← m3]; exact hk') hd' ho' (fun e0 => hne ?_)
          subst e0
          exact nodupB_ok _ hd.2 k' k m0 m1 h1
  · cases h
theorem nil_ok {t : Nat} {e : TypeId} {size : Nat} {el : Nat → List Value} {s s' : St} (h : nilS t e size el s = some s') {n : Nat} {w0 w : World} {ν : Nu} {a : Act} (ht : TR n ν s a) (hg : ∀ p ∈ s.tmps, okV s.own.b.length s.own.l.length p.2) (hw : WR w0 ν s.own s.mem w) :
    ∃ ν', TR n ν' s' a ∧ (∀ p ∈ s'.tmps, okV s'.own.b.length s'.own.l.length p.2) ∧ WR w0 ν' s'.own s'.mem w := by
  unfold nilS at h
  split at h
  · rename_i fl hl
    cases hb : Nat.blt 0 size
    · rw [hb] at h; cases h
    · rw [hb] at h
      simp only [cond_true, Option.some.injEq] at h
      subst h
      have hsz : 0 < size := by simpa [Nat.blt_eq] using hb
      have h0 : a.tmps.getD t undef = .slice none 0 0 := by have := ht.tm t; rw [hl] at this; exact this
      refine ⟨extV ν s.own.l.length (.slice none 0 0), ⟨ht.size, fun t' => ?_, ht.df⟩, fun p hp => ?_, hw.addRow (e := ⟨e, size, 0, el, true, false, true⟩) rfl ⟨⟨hsz, fun j hj => absurd hj (by simp)⟩, by simp [LE.flat], .inl ⟨rfl, rfl⟩⟩ (fun g hg => by cases hg)⟩
      · show Is _ (look ((t, .c s.own.l.length) :: s.tmps) t') _
        unfold look
        cases hb : Nat.beq t t'
        · exact Is_congr (look_ok hg) (extV_old ν _ _ _) (ht.tm t')
        · rw [← Nat.eq_of_beq_eq_true hb]
          show a.tmps.getD t undef = (extV ν s.own.l.length (.slice none 0 0)).v s.own.l.length
          rw [extV_new]; exact h0
      · have hlen : (s.own.l ++ [(⟨e, size, 0, el, true, false, true⟩ : LE)]).length = s.own.l.length + 1 := by simp
        show okV s.own.b.length (s.own.l ++ [(⟨e, size, 0, el, true, false, true⟩ : LE)]).length p.2
        rw [hlen]
        rcases List.mem_cons.mp hp with rfl | hp
        · show s.own.l.length < _; omega
        · exact (hg p hp).mono (Nat.le_refl _) (by omega)
  · cases h
theorem nilL_ok : ∀ (l : List (Nat × TypeId × Nat × (Nat → List Value))) {s s' : St}, nilL l s = some s' → ∀ {n : Nat} {w0 w : World} {ν : Nu} {a : Act}, TR n ν s a → (∀ p ∈ s.tmps, okV s.own.b.length s.own.l.length p.2) → WR w0 ν s.own s.mem w → ∃ ν', TR n ν' s' a ∧ WR w0 ν' s'.own s'.mem w
  | [], s, s', h, n, w0, w, ν, a, ht, _, hw => by simp only [nilL, Option.some.injEq] at h; subst h; exact ⟨ν, ht, hw⟩
  | (t, e, size, el) :: r, s, s', h, n, w0, w, ν, a, ht, hg, hw => by
    unfold nilL at h
    split at h
    · rename_i s1 h1
      obtain ⟨ν1, t1, g1, w1⟩ := nil_ok h1 ht hg hw
      exact nilL_ok r h t1 g1 w1
    · cases h
theorem pick_ok {p : Pick} {s s' : St} (h : pickS p s = some s') (hg : p.nil = [] ∨ Good s) {n : Nat} {w0 w : World} {ν : Nu} {a : Act} (ht : TR n ν s a) (hw : WR w0 ν s.own s.mem w) : ∃ ν', TR n ν' s' a ∧ WR w0 ν' s'.own s'.mem w := by
  unfold pickS at h
  split at h
  · rename_i s1 h1
    rcases hg with hg | hg
    · rw [hg] at h1
      simp only [nilL, Option.some.injEq] at h1
      subst h1
      exact pick0_ok h ht hw
    · obtain ⟨ν1, t1, w1⟩ := nilL_ok p.nil h1 ht hg.ok hw
      exact pick0_ok h t1 w1
  · cases h
theorem Sem.pre {E : Env} {w0 : World} {n : Nat} {c : Code} {s s1 s' : St} {x : X} {p : Pick} (hp : pickS p s = some s1) (hg : Good s) (h : Sem E w0 n c s1 x s') : Sem E w0 n c s x s' := fun Q ν a w ht hw hQ => by
  obtain ⟨ν', ht', hw'⟩ := pick_ok hp (.inr hg) ht hw
  exact h Q ν' a w ht' hw' hQ
theorem Sem.post {E : Env} {w0 : World} {n : Nat} {c : Code} {s s1 s' : St} {x : X} {p : Pick} (hp : pickS p s1 = some s') (hg : Good s1) (h : Sem E w0 n c s x s1) : Sem E w0 n c s x s' := fun Q ν a w ht hw hQ =>
  h Q ν a w ht hw fun ν' a' w' ht' hw' => by
    obtain ⟨ν'', ht'', hw''⟩ := pick_ok hp (.inr hg) ht' hw'
    exact hQ ν'' a' w' ht'' hw''
/-- A state's slots and memory are all that counts. -/
theorem Sem.of {E : Env} {w0 : World} {n : Nat} {c : Code} {s t s' t' : St} {x : X} (h : Sem E w0 n c s x s') (h1 : t.tmps = s.tmps) (h2 : t.own = s.own) (h3 : t.mem = s.mem) (k1 : s'.tmps = t'.tmps) (k2 : s'.own = t'.own) (k3 : s'.mem = t'.mem) : Sem E w0 n c t x t' := fun Q ν a w ht hw hQ =>
  h Q ν a w (ht.of h1.symm) (by rw [← h2, ← h3]; exact hw) fun ν' a' w' ht' hw' => hQ ν' a' w' (ht'.of k1.symm) (by rw [← k2, ← k3]; exact hw')
/-- Lists that are alike as far as they go. -/
def sameE (e e' : LE) : Prop := e.elT = e'.elT ∧ e.size = e'.size ∧ e.n = e'.n ∧ e.own = e'.own ∧ e.dead = e'.dead ∧ ∀ i, i < e.n → e.el i = e'.el i
def sameL : List LE → List LE → Prop
  | [], [] => True
  | e :: r, e' :: r' => sameE e e' ∧ sameL r r'
  | _, _ => False
theorem sameE.refl (e : LE) : sameE e e := ⟨rfl, rfl, rfl, rfl, rfl, fun _ _ => rfl⟩
theorem sameL.refl : ∀ (l : List LE), sameL l l
  | [] => trivial
  | e :: r => ⟨.refl e, sameL.refl r⟩
theorem sameL_len : ∀ {l l' : List LE}, sameL l l' → l.length = l'.length
  | [], [], _ => rfl
  | e :: r, e2 :: r', h => by simp [sameL_len h.2]
  | [], _ :: _, h => h.elim
  | _ :: _, [], h => h.elim
theorem sameL_get : ∀ {l l' : List LE}, sameL l l' → ∀ (k : Nat) (e' : LE), l'[k]? = some e' → ∃ e, l[k]? = some e ∧ sameE e e'
  | [], [], _, k, e', h => by simp at h
  | e :: r, e2 :: r', h, k, e', hk => by
    cases k with
    | zero => simp at hk; subst hk; exact ⟨e, by simp, h.1⟩
    | succ k => simp at hk ⊢; exact sameL_get h.2 k e' hk
  | [], _ :: _, h, _, _, _ => h.elim
  | _ :: _, [], h, _, _, _ => h.elim
theorem InB.same {B : Nat} {w : World} {e e' : LE} {v : Value} (h : InB B w e v) (hs : sameE e e') : InB B w e' v := by
  obtain ⟨_, h2, h3, _, _, h6⟩ := hs
  obtain ⟨⟨hw1, hw2⟩, a, cap, hv, hle, hc⟩ := h
  refine ⟨⟨by rw [← h2]; exact hw1, fun j hj => by rw [← h6 j (by rw [h3]; exact hj), ← h2]; exact hw2 j (by rw [h3]; exact hj)⟩, a, cap, by rw [← h3]; exact hv, by rw [← h3]; exact hle, fun hn => ?_⟩
  obtain ⟨b, off, ha, hb, hcell⟩ := hc (by rw [h3]; exact hn)
  exact ⟨b, off, ha, hb, fun j hj o c hoc => by rw [← h2]; exact hcell j (by rw [h3]; exact hj) o c (by rw [h6 j (by rw [h3]; exact hj)]; exact hoc)⟩
theorem OwnB.same {B : Nat} {w : World} {e e' : LE} {v : Value} (h : OwnB B w e v) (hs : sameE e e') : OwnB B w e' v := by
  obtain ⟨h1, h2, h3, _, _, h6⟩ := hs
  obtain ⟨⟨hw1, hw2⟩, hrow⟩ := h
  refine ⟨⟨by rw [← h2]; exact hw1, fun j hj => by rw [← h6 j (by rw [h3]; exact hj), ← h2]; exact hw2 j (by rw [h3]; exact hj)⟩, ?_⟩
  have hf : e.flat = e'.flat := by
    unfold LE.flat
    rw [h3]
    unfold List.flatMap
    congr 1
    exact List.map_congr_left fun i hi => h6 i (by rw [h3]; exact List.mem_range.mp hi)
  rw [← hf, ← h1, ← h2, ← h3]; exact hrow
theorem WR.alike {w0 : World} {ν : Nu} {own own' : Mem} {mem : Bool} {w : World} (h : WR w0 ν own mem w) (hb : own.b = own'.b) (hl : sameL own.l own'.l) : WR w0 ν own' mem w := by
  refine ⟨h.below, fun i b hi => h.blk i b (by rw [hb]; exact hi), by rw [← hb, ← sameL_len hl]; exact h.okb, fun i j hi hj => h.inj i j (by rw [hb]; exact hi) (by rw [hb]; exact hj), fun k e' hk hd => ?_, fun k e' hk hd ho g hg => ?_, h.same⟩
  · obtain ⟨e, he, hs⟩ := sameL_get hl k e' hk
    have hd0 : e.dead = false := by rw [hs.2.2.2.2.1]; exact hd
    have := h.lst k e he hd0
    unfold LOk at *
    rw [← hs.2.2.2.1]
    cases ho : e.own
    · rw [ho] at this; exact InB.same this hs
    · rw [ho] at this; exact OwnB.same this hs
  · obtain ⟨e, he, hs⟩ := sameL_get hl k e' hk
    obtain ⟨s1, s2⟩ := h.sep k e he (by rw [hs.2.2.2.2.1]; exact hd) (by rw [hs.2.2.2.1]; exact ho) g hg
    refine ⟨fun i hi => s1 i (by rw [hb]; exact hi), fun k' e2 hk' hd' ho' hne => ?_⟩
    obtain ⟨e3, he3, hs3⟩ := sameL_get hl k' e2 hk'
    exact s2 k' e3 he3 (by rw [hs3.2.2.2.2.1]; exact hd') (by rw [hs3.2.2.2.1]; exact ho') hne
theorem Sem.same {E : Env} {w0 : World} {n : Nat} {c : Code} {s s1 s2 : St} {x : X} (h : Sem E w0 n c s x s1) (h1 : s1.tmps = s2.tmps) (h2 : s1.own.b = s2.own.b) (h3 : sameL s1.own.l s2.own.l) (h4 : s2.mem = s1.mem) : Sem E w0 n c s x s2 := fun Q ν a w ht hw hQ =>
  h Q ν a w ht hw fun ν' a' w' ht' hw' => hQ ν' a' w' (ht'.of h1.symm) (by rw [h4]; exact hw'.alike h2 h3)
/-- A list that has grown by one. -/
theorem joinE_one {j : Nat} {f g : Nat → List Value} (h : g 0 = f j) : ∀ i, i < j + 1 → joinE j f g i = f i := fun i hi => by
  unfold joinE
  cases hb : Nat.blt i j
  · have : ¬ i < j := by intro hc; rw [← Nat.blt_eq, hb] at hc; cases hc
    obtain rfl : i = j := by omega
    show g (i - i) = _
    rw [Nat.sub_self, h]
  · rfl
theorem joinE_many {j m : Nat} {f g : Nat → List Value} (h : ∀ i, i < m → g i = f (j + i)) : ∀ i, i < j + m → joinE j f g i = f i := fun i hi => by
  unfold joinE
  cases hb : Nat.blt i j
  · have : ¬ i < j := by intro hc; rw [← Nat.blt_eq, hb] at hc; cases hc
    show g (i - j) = _
    rw [h (i - j) (by omega), show j + (i - j) = i by omega]
  · rfl
/-- A loop of so many rounds. -/
theorem sem_loop {E : Env} {w0 : World} {n : Nat} {c : Code} {x : X} {s' : St} (S : Nat → St) (N : Nat) (hx : x ≠ none) (body : ∀ j, j < N → Sem E w0 n c (S j) none (S (j + 1))) (last : Sem E w0 n c (S N) x s') : Sem E w0 n (.loop c) (S 0) x s' := fun Q ν a w ht hw hQ => by
  refine wp_loop_rounds (N + 1) ?_
  have key : ∀ k j, j + k = N → ∀ ν a w, TR n ν (S j) a → WR w0 ν (S j).own (S j).mem w → Code.rounds E.P c Q (k + 1) a w := by
    intro k
    induction k with
    | zero =>
      intro j hj ν a w ht hw
      obtain rfl : j = N := by omega
      rw [rounds_succ]
      refine last _ ν a w ht hw fun ν' a' w' ht' hw' => ?_
      rcases x with _ | _ | i
      · exact absurd rfl hx
      · exact hQ ν' a' w' ht' hw'
      · exact hQ ν' a' w' ht' hw'
    | succ k ih =>
      intro j hj ν a w ht hw
      rw [rounds_succ]
      exact body j (by omega) _ ν a w ht hw fun ν' a' w' ht' hw' => ih (j + 1) (by omega) ν' a' w' ht' hw'
  exact key N 0 (by omega) ν a w ht hw
/-- One round: the state that is kept behind it, and what it asks. -/
noncomputable def iter (E : Env) (fuel n : Nat) (c : Code) (p : Pick) (orc : List Bool) (s : St) : Option (X × St × List (Bool × Bool)) := match simC E fuel n c { s with orc := orc, obl := [] } with
  | some (x, s') => match pickS p s' with
    | some s2 => some (x, s2, s'.obl)
    | none => none
  | none => none
def goodB (s : St) : Bool := Nat.ble s.lo s.own.b.length && Nat.ble s.llo s.own.l.length && (s.tmps.all fun p => okVB s.own.b.length s.own.l.length p.2) && s.own.b.all fun b => b.cells.all (okVB s.own.b.length s.own.l.length)
theorem goodB_ok {s : St} (h : goodB s = true) : Good s := by
  unfold goodB at h
  simp only [Bool.and_eq_true, List.all_eq_true] at h
  exact ⟨Nat.le_of_ble_eq_true h.1.1.1, Nat.le_of_ble_eq_true h.1.1.2, fun p hp => okVB_ok (h.1.2 p hp), fun i b hi c hc => okVB_ok (h.2 b (List.mem_of_getElem? hi) c hc)⟩
theorem sem_iter {E : Env} (HC : CallOk E) {w0 : World} (hG : Glob E w0) {fuel n : Nat} {c : Code} {p : Pick} {s s' : St} {x : X} (orc : List Bool) (l : List (Bool × Bool)) (hg : goodB s = true) (h : iter E fuel n c p orc s = some (x, s', l)) (hl : ∀ p ∈ l, p.1 = p.2) : Sem E w0 n c s x s' := by
  unfold iter at h
  split at h
  · rename_i x1 s1 h1
    split at h
    · rename_i s2 h2
      simp only [Option.some.injEq, Prod.mk.injEq] at h
      obtain ⟨rfl, rfl, rfl⟩ := h
      have g := goodB_ok hg
      have := sem_run HC hG (s := { s with orc := orc, obl := [] }) ⟨g.lo, g.llo, g.ok, g.okb⟩ h1 hl
      have h3 : Sem E w0 n c s x1 s1 := Sem.of (t := s) this rfl rfl rfl rfl rfl rfl
      exact h3.post h2 (simC_st E fuel n c { s with orc := orc, obl := [] } x1 s1 ⟨g.lo, g.llo, g.ok, g.okb⟩ h1).2
    · cases h
  · cases h

/-! ### A body with loops -/
/-- A place in the code where the evaluator is told what comes of it: its path, what is kept of the state ahead of it, how it is left, the state behind it. -/
structure Stop where
  path : List Nat
  pick : Pick
  x : X
  s : St
structure Told where
  c : Code
  s : St
  x : X
  s' : St
def pathB : List Nat → List Nat → Bool
  | [], [] => true
  | x :: r, y :: t => Nat.beq x y && pathB r t
  | _, _ => false
/-- Is the first path an opening of the second (both from the end)? -/
def opens (p q : List Nat) : Bool := pathB p (q.drop (q.length - p.length)) && Nat.ble p.length q.length
abbrev Out := X × St × List Stop × List Told
/-- Runs code; at the stops it goes on as told. Paths are kept from the end. -/
noncomputable def simP (E : Env) (fuel n : Nat) : Nat → List Stop → List Nat → Code → St → Option Out
  | 0, _, _, _, _ => none
  | d + 1, plan, path, c, s =>
    match plan with
    | [] => match simC E fuel n c s with
      | some (x, s') => some (x, s', [], [])
      | none => none
    | st :: rest => bif pathB path st.path then
        (match pickS st.pick s with
        | some s1 => bif goodB st.s then some (st.x, { st.s with obl := s.obl, orc := s.orc, lo := 0, llo := 0 }, rest, [⟨c, s1, st.x, st.s⟩]) else none
        | none => none)
      else bif opens path st.path then
        (match c with
        | .seq x y => match simP E fuel n d plan (0 :: path) x s with
          | some (none, s', plan', tr) => match simP E fuel n d plan' (1 :: path) y s' with
            | some (e, s2, plan2, tr2) => some (e, s2, plan2, tr ++ tr2)
            | none => none
          | r => r
        | .cond b x y => match ev s b with
          | .inl (fl, (.bool v)) => match askC s b fl v with
            | (true, s') => simP E fuel n d plan (0 :: path) x s'
            | (false, s') => simP E fuel n d plan (1 :: path) y s'
          | _ => none
        | .block id x => match simP E fuel n d plan (0 :: path) x s with
          | some (some (some i), s', plan', tr) => bif Nat.beq i id then some (none, s', plan', tr) else some (some (some i), s', plan', tr)
          | r => r
        | _ => none)
      else (match simC E fuel n c s with
        | some (x, s') => some (x, s', plan, [])
        | none => none)
theorem simP_ok {E : Env} (HC : CallOk E) {w0 : World} (hG : Glob E w0) {fuel n : Nat} : ∀ (d : Nat) (plan : List Stop) (path : List Nat) (c : Code) (s : St) (x : X) (s' : St) (plan' : List Stop) (tr : List Told),
    Good s → simP E fuel n d plan path c s = some (x, s', plan', tr) → (∀ p ∈ s.obl, p ∈ s'.obl) ∧ Good s' ∧ (Holds' s' → (∀ t ∈ tr, Sem E w0 n t.c t.s t.x t.s') → Sem E w0 n c s x s')
  | 0, _, _, _, _, _, _, _, _, _, h => by simp [simP] at h
  | d + 1, plan, path, c, s, x, s', plan', tr, hg, h => by
    have run : ∀ {x s'}, simC E fuel n c s = some (x, s') → (∀ p ∈ s.obl, p ∈ s'.obl) ∧ Good s' ∧ (Holds' s' → (∀ t ∈ tr, Sem E w0 n t.c t.s t.x t.s') → Sem E w0 n c s x s') := fun {x s'} h1 => by
      obtain ⟨l1, g1⟩ := simC_st E fuel n c s x s' hg h1
      exact ⟨l1.ext, g1, fun hh _ => sem_run HC hG hg h1 hh⟩
    unfold simP at h
    split at h
    · split at h
      · rename_i x1 s1 h1
        simp only [Option.some.injEq, Prod.mk.injEq] at h
        obtain ⟨rfl, rfl, rfl, rfl⟩ := h
        exact run h1
      · cases h
    · rename_i st rest
      cases hpb : pathB path st.path
      · rw [hpb] at h
        simp only [cond_false] at h
        cases hop : opens path st.path
        · rw [hop] at h
          simp only [cond_false] at h
          split at h
          · rename_i x1 s1 h1
            simp only [Option.some.injEq, Prod.mk.injEq] at h
            obtain ⟨rfl, rfl, rfl, rfl⟩ := h
            exact run h1
          · cases h
        · rw [hop] at h
          simp only [cond_true] at h
          split at h
          · rename_i c1 c2
            split at h
            · rename_i s1 plan1 tr1 h1
              obtain ⟨e1, g1, k1⟩ := simP_ok HC hG d _ _ _ _ _ _ _ _ hg h1
              split at h
              · rename_i e s2 plan2 tr2 h2
                simp only [Option.some.injEq, Prod.mk.injEq] at h
                obtain ⟨rfl, rfl, rfl, rfl⟩ := h
                obtain ⟨e2, g2, k2⟩ := simP_ok HC hG d _ _ _ _ _ _ _ _ g1 h2
                refine ⟨fun p hp => e2 p (e1 p hp), g2, fun hh htr => ?_⟩
                have m1 := k1 (fun p hp => hh p (e2 p hp)) (fun t ht => htr t (List.mem_append_left _ ht))
                have m2 := k2 hh (fun t ht => htr t (List.mem_append_right _ ht))
                exact fun Q ν a w ht hw hQ => wp_seq (m1 _ ν a w ht hw fun ν' a' w' ht' hw' => m2 Q ν' a' w' ht' hw' hQ)
              · cases h
            · rename_i hne
              obtain ⟨e1, g1, k1⟩ := simP_ok HC hG d _ _ _ _ _ _ _ _ hg h
              refine ⟨e1, g1, fun hh htr => ?_⟩
              have m1 := k1 hh htr
              refine fun Q ν a w ht hw hQ => wp_seq (m1 _ ν a w ht hw fun ν' a' w' ht' hw' => ?_)
              rcases x with _ | _ | i
              · exact absurd h (hne _ _ _)
              · exact hQ _ _ _ ht' hw'
              · exact hQ _ _ _ ht' hw'
          · rename_i b c1 c2
            split at h
            · rename_i fl v hev
              split at h
              · rename_i s1 hask
                obtain ⟨b1, b2, b3, b4, b5⟩ := askC_ok (n := n) hev hask
                obtain ⟨e1, g1, k1⟩ := simP_ok HC hG d _ _ _ _ _ _ _ _ (b4 hg) h
                refine ⟨fun p hp => e1 p (b1.ext p hp), g1, fun hh htr => ?_⟩
                obtain ⟨hb, ht1⟩ := b5 (fun p hp => hh p (e1 p hp))
                exact fun Q ν a w ht hw hQ => wp_cond_true (by rw [eval_v ht hev, hb]) (k1 hh htr Q ν a w (ht1 ν a ht) (by rw [b2, b3]; exact hw) hQ)
              · rename_i s1 hask
                obtain ⟨b1, b2, b3, b4, b5⟩ := askC_ok (n := n) hev hask
                obtain ⟨e1, g1, k1⟩ := simP_ok HC hG d _ _ _ _ _ _ _ _ (b4 hg) h
                refine ⟨fun p hp => e1 p (b1.ext p hp), g1, fun hh htr => ?_⟩
                obtain ⟨hb, ht1⟩ := b5 (fun p hp => hh p (e1 p hp))
                exact fun Q ν a w ht hw hQ => wp_cond_false (by rw [eval_v ht hev, hb]) (k1 hh htr Q ν a w (ht1 ν a ht) (by rw [b2, b3]; exact hw) hQ)
            · cases h
          · rename_i id c1
            split at h
            · rename_i i s1 plan1 tr1 h1
              obtain ⟨e1, g1, k1⟩ := simP_ok HC hG d _ _ _ _ _ _ _ _ hg h1
              cases hb : Nat.beq i id
              · rw [hb] at h
                simp only [cond_false, Option.some.injEq, Prod.mk.injEq] at h
                obtain ⟨rfl, rfl, rfl, rfl⟩ := h
                have hne : i ≠ id := fun e => by rw [e] at hb; simp at hb
                refine ⟨e1, g1, fun hh htr Q ν a w ht hw hQ => wp_block (k1 hh htr _ ν a w ht hw fun ν' a' w' ht' hw' => ?_)⟩
                simp only [X.toExit, Exit.inBlock, if_neg hne]
                exact hQ _ _ _ ht' hw'
              · rw [hb] at h
                simp only [cond_true, Option.some.injEq, Prod.mk.injEq] at h
                obtain ⟨rfl, rfl, rfl, rfl⟩ := h
                have heq : i = id := Nat.eq_of_beq_eq_true hb
                refine ⟨e1, g1, fun hh htr Q ν a w ht hw hQ => wp_block (k1 hh htr _ ν a w ht hw fun ν' a' w' ht' hw' => ?_)⟩
                simp only [X.toExit, Exit.inBlock, if_pos heq]
                exact hQ _ _ _ ht' hw'
            · rename_i hne
              obtain ⟨e1, g1, k1⟩ := simP_ok HC hG d _ _ _ _ _ _ _ _ hg h
              refine ⟨e1, g1, fun hh htr Q ν a w ht hw hQ => wp_block (k1 hh htr _ ν a w ht hw fun ν' a' w' ht' hw' => ?_)⟩
              rcases x with _ | _ | i
              · exact hQ _ _ _ ht' hw'
              · exact hQ _ _ _ ht' hw'
              · exact absurd h (hne _ _ _ _)
          · cases h
      · rw [hpb] at h
        simp only [cond_true] at h
        split at h
        · rename_i s1 hp
          cases hgb : goodB st.s
          · rw [hgb] at h; cases h
          · rw [hgb] at h
            simp only [cond_true, Option.some.injEq, Prod.mk.injEq] at h
            obtain ⟨rfl, rfl, rfl, rfl⟩ := h
            have g := goodB_ok hgb
            refine ⟨fun p hp => hp, ⟨Nat.zero_le _, Nat.zero_le _, g.ok, g.okb⟩, fun hh htr => ?_⟩
            have := htr ⟨c, s1, st.x, st.s⟩ (by simp)
            exact (this.pre hp hg).of rfl rfl rfl rfl rfl rfl
        · cases h
end Go.Proofs.Ytcofdcpadbpmnaa.S2
