/- The evaluator with lists: loops by an invariant, the whole call, tables of contracts. No word of the program. -/
import Derived.Test.YtpmjfpdogbcigaaDoorS2K
namespace Go.Proofs.YtpmjfpdogbcigaaDoor.S2
open Go Go.RowKit Sim
set_option linter.unusedVariables false
set_option linter.unusedSimpArgs false

/-- What a piece of code does, from one state to another; so many blocks and lists keep their numbers. -/
def SemA (E : Env) (w0 : Base) (nb nl n : Nat) (c : Code) (s : St) (x : X) (s' : St) : Prop :=
  ∀ Q ν a w, TR n ν s a → WR w0 ν s.own s.mem w → (∀ ν' a' w', Agree nb nl ν ν' → TR n ν' s' a' → WR w0 ν' s'.own s'.mem w' → Q x.toExit a' w') → c.wp E.P Q a w
abbrev Sem (E : Env) (w0 : Base) (n : Nat) (c : Code) (s : St) (x : X) (s' : St) : Prop := SemA E w0 0 0 n c s x s'
structure Deep (nb nl : Nat) (s : St) : Prop where
  b : nb ≤ s.own.b.length
  l : nl ≤ s.own.l.length
theorem Deep.zero (s : St) : Deep 0 0 s := ⟨Nat.zero_le _, Nat.zero_le _⟩
theorem sem_runA {E : Env} (HC : CallOk E) {w0 : Base} (hG : GlobB E w0) {nb nl fuel n : Nat} {c : Code} {s s' : St} {x : X} (hD : Deep nb nl s) (hg : Good s) (h : simC E fuel n c s = some (x, s')) (hh : Holds' s') : SemA E w0 nb nl n c s x s' :=
  fun Q ν a w ht hw hQ => (simC_ok HC hG fuel n c s x s' hg h hh Q ν a w ht hw fun ν' a' w' ha => hQ ν' a' w' (ha.mono hD.b hD.l)).wp
/-- A slot that holds the nil slice becomes an empty list of the call's own. -/
def nilS (t : Nat) (e : TypeId) (size : Nat) (el : Nat → List Value) (s : St) : Option St := match look s.tmps t with
  | .inl (_, .slice none 0 0) => bif Nat.blt 0 size then some { s with tmps := (t, .c s.own.l.length) :: s.tmps, own := { s.own with l := s.own.l ++ [⟨e, size, 0, el, true, false, true⟩] }, mem := true } else none
  | _ => none
def nilL : List (Nat × TypeId × Nat × (Nat → List Value)) → St → Option St
  | [], s => some s
  | (t, e, size, el) :: r, s => match nilS t e size el s with
    | some s1 => nilL r s1
    | none => none
def pickS0 (p : Pick) (s : St) : Option St := match pickM p s.own with
  | some m => some { tmps := p.ts.map fun t => (t, openV (p.opn.any fun y => Nat.beq y t) (pickV p (look s.tmps t))), own := m, lo := 0, llo := 0, mem := true, orc := [], obl := [] }
  | none => none
/-- A slot's list of the call's own gets a new number. -/
def mvS (t : Nat) (s : St) : Option St := match look s.tmps t with
  | .c k => match getL s k with
    | some e => bif e.own && bldFree s e.elT then some { s with tmps := (t, .c s.own.l.length) :: s.tmps, own := { s.own with l := killL s.own.l (some k) ++ [e] }, mem := true } else none
    | none => none
  | _ => none
def mvL : List Nat → St → Option St
  | [], s => some s
  | t :: r, s => match mvS t s with
    | some s1 => mvL r s1
    | none => none
/-- A list that came in gets a second number, by which it is called from now on. -/
def cpN (k n i : Nat) : Nat := bif Nat.beq i k then n else i
def cpS (k : Nat) (s : St) : Option St := match getL s k with
  | some e => bif e.own then none else some { s with tmps := s.tmps.map fun p => (p.1, renV (fun i => i) (cpN k s.own.l.length) p.2), own := ⟨s.own.b.map (renB (fun i => i) (cpN k s.own.l.length)), s.own.l ++ [e]⟩, mem := true }
  | none => none
def cpL : List Nat → St → Option St
  | [], s => some s
  | k :: r, s => match cpS k s with
    | some s1 => cpL r s1
    | none => none
def pickS (p : Pick) (s : St) : Option St := match cpL p.cp s with
  | some sc => match mvL p.mv sc with
    | some s0 => match nilL p.nil s0 with
      | some s1 => pickS0 p s1
      | none => none
    | none => none
  | none => none
/-- The first numbers are kept. -/
def prefB (n : Nat) (l : List Nat) : Bool := (List.range n).all fun i => match l[i]? with
  | some j => Nat.beq i j
  | none => false
theorem prefB_ok {n : Nat} {l : List Nat} (h : prefB n l = true) (i : Nat) (hi : i < n) : l[i]? = some i := by
  have := List.all_eq_true.mp h i (List.mem_range.mpr hi)
  split at this
  · rename_i j hj
    rw [hj, Nat.eq_of_beq_eq_true this]
  · cases this
theorem pick0_ok {p : Pick} {s s' : St} (h : pickS0 p s = some s') {n : Nat} {w0 : Base} {w : World} {ν : Nu} {a : Act} (ht : TR n ν s a) (hw : WR w0 ν s.own s.mem w) : TR n (pickNu p ν) s' a ∧ WR w0 (pickNu p ν) s'.own s'.mem w := by
  unfold pickS0 at h
  split at h
  · rename_i m hm
    simp only [Option.some.injEq] at h
    subst h
    refine ⟨⟨ht.size, fun t => ?_, ht.df⟩, pickM_ok hm hw⟩
    show Is (pickNu p ν) (look (p.ts.map fun t => (t, openV (p.opn.any fun y => Nat.beq y t) (pickV p (look s.tmps t)))) t) _
    have hlook := look_map (fun t => openV (p.opn.any fun y => Nat.beq y t) (pickV p (look s.tmps t))) t
    rcases hlook p.ts with h | h
    · rw [h]; trivial
    · rw [h]
      exact openV_is (pickV_is p (ht.tm t))
  · cases h
theorem nil_ok {t : Nat} {e : TypeId} {size : Nat} {el : Nat → List Value} {s s' : St} (h : nilS t e size el s = some s') {n : Nat} {w0 : Base} {w : World} {ν : Nu} {a : Act} (ht : TR n ν s a) (hg : ∀ p ∈ s.tmps, okV s.own.b.length s.own.l.length p.2) (hw : WR w0 ν s.own s.mem w) :
    ∃ ν', Agree s.own.b.length s.own.l.length ν ν' ∧ s.own.l.length ≤ s'.own.l.length ∧ s'.own.b = s.own.b ∧ TR n ν' s' a ∧ (∀ p ∈ s'.tmps, okV s'.own.b.length s'.own.l.length p.2) ∧ WR w0 ν' s'.own s'.mem w := by
  unfold nilS at h
  split at h
  · rename_i fl hl
    cases hb : Nat.blt 0 size
    · rw [hb] at h; cases h
    · rw [hb] at h
      simp only [cond_true, Option.some.injEq] at h
      subst h
      have hsz : 0 < size := by simpa [Nat.blt_eq] using hb
      have h0 : a.tmps.getD t undef = .slice none 0 0 := by have := ht.tm t; rw [hl] at this; exact this
      refine ⟨extV ν s.own.l.length (.slice none 0 0), extV_old _ _ _ _, by simp, rfl, ⟨ht.size, fun t' => ?_, ht.df⟩, fun p hp => ?_, hw.addRow (e := ⟨e, size, 0, el, true, false, true⟩) rfl ⟨⟨hsz, fun j hj => absurd hj (by simp)⟩, by simp [LE.flat], .inl ⟨rfl, rfl⟩⟩ (fun g hg => by cases hg) (fun g hg => by cases hg)⟩
      · show Is _ (look ((t, .c s.own.l.length) :: s.tmps) t') _
        unfold look
        cases hb : Nat.beq t t'
        · exact Is_congr (look_ok hg) (extV_old ν _ _ _) (ht.tm t')
        · rw [← Nat.eq_of_beq_eq_true hb]
          show a.tmps.getD t undef = (extV ν s.own.l.length (.slice none 0 0)).v s.own.l.length
          rw [extV_new]; exact h0
      · have hlen : (s.own.l ++ [(⟨e, size, 0, el, true, false, true⟩ : LE)]).length = s.own.l.length + 1 := by simp
        show okV s.own.b.length (s.own.l ++ [(⟨e, size, 0, el, true, false, true⟩ : LE)]).length p.2
        rw [hlen]
        rcases List.mem_cons.mp hp with rfl | hp
        · show s.own.l.length < _; omega
        · exact (hg p hp).mono (Nat.le_refl _) (by omega)
  · cases h
theorem nilL_ok : ∀ (l : List (Nat × TypeId × Nat × (Nat → List Value))) {s s' : St}, nilL l s = some s' → ∀ {n : Nat} {w0 : Base} {w : World} {ν : Nu} {a : Act}, TR n ν s a → (∀ p ∈ s.tmps, okV s.own.b.length s.own.l.length p.2) → WR w0 ν s.own s.mem w → ∃ ν', Agree s.own.b.length s.own.l.length ν ν' ∧ TR n ν' s' a ∧ WR w0 ν' s'.own s'.mem w
  | [], s, s', h, n, w0, w, ν, a, ht, _, hw => by simp only [nilL, Option.some.injEq] at h; subst h; exact ⟨ν, .refl _ _ _, ht, hw⟩
  | (t, e, size, el) :: r, s, s', h, n, w0, w, ν, a, ht, hg, hw => by
    unfold nilL at h
    split at h
    · rename_i s1 h1
      obtain ⟨ν1, a1, l1, b1, t1, g1, w1⟩ := nil_ok h1 ht hg hw
      obtain ⟨ν2, a2, t2, w2⟩ := nilL_ok r h t1 g1 w1
      exact ⟨ν2, Agree.trans a1 a2 (by rw [b1]; exact Nat.le_refl _) l1, t2, w2⟩
    · cases h
theorem OwnB.elTy {B : Nat} {w : World} {e : LE} {v : Value} (h : OwnB B w e v) {g : Nat} {cs : Array Value} {ty : TypeId} {fz : Nat × Nat} (hg : v.ownBlock = some g) (hc : w.heap[g]? = some (.cells cs ty fz)) : ty = e.elT := by
  rcases h.2.2 with ⟨rfl, _⟩ | ⟨g', cap, cur, rfl, _, hb, _⟩
  · cases hg
  · cases hg
    rw [hb] at hc
    simp only [Option.some.injEq, Obj.cells.injEq] at hc
    exact hc.2.1.symm
theorem mv_ok {t : Nat} {s s' : St} (h : mvS t s = some s') {n : Nat} {w0 : Base} {w : World} {ν : Nu} {a : Act} (ht : TR n ν s a) (hg : ∀ p ∈ s.tmps, okV s.own.b.length s.own.l.length p.2) (hw : WR w0 ν s.own s.mem w) :
    ∃ ν', Agree s.own.b.length s.own.l.length ν ν' ∧ s.own.l.length ≤ s'.own.l.length ∧ s'.own.b = s.own.b ∧ TR n ν' s' a ∧ (∀ p ∈ s'.tmps, okV s'.own.b.length s'.own.l.length p.2) ∧ WR w0 ν' s'.own s'.mem w := by
  unfold mvS at h
  split at h
  · rename_i k hl
    split at h
    · rename_i e he
      cases hb : (e.own && bldFree s e.elT)
      · rw [hb] at h; cases h
      · rw [hb] at h
        simp only [cond_true, Option.some.injEq] at h
        subst h
        simp only [Bool.and_eq_true] at hb
        obtain ⟨hk, hd⟩ := getL_some he
        have h0 : a.tmps.getD t undef = ν.v k := by have := ht.tm t; rw [hl] at this; exact this
        have hlen : (killL s.own.l (some k) ++ [e]).length = s.own.l.length + 1 := by rw [List.length_append, killL_len]; rfl
        have hrow := hw.row hk hd hb.1
        refine ⟨extV ν s.own.l.length (ν.v k), extV_old _ _ _ _, by show _ ≤ (killL s.own.l (some k) ++ [e]).length; omega, rfl, ⟨ht.size, fun t' => ?_, ht.df⟩, fun p hp => ?_, ?_⟩
        · show Is _ (look ((t, .c s.own.l.length) :: s.tmps) t') _
          unfold look
          cases hb : Nat.beq t t'
          · exact Is_congr (look_ok hg) (extV_old ν _ _ _) (ht.tm t')
          · rw [← Nat.eq_of_beq_eq_true hb]
            show a.tmps.getD t undef = (extV ν s.own.l.length (ν.v k)).v s.own.l.length
            rw [extV_new]; exact h0
        · show okV s.own.b.length (killL s.own.l (some k) ++ [e]).length p.2
          rw [hlen]
          rcases List.mem_cons.mp hp with rfl | hp
          · show s.own.l.length < _; omega
          · exact (hg p hp).mono (Nat.le_refl _) (by omega)
        · refine hw.append (k? := some k) (v := ν.v k) (v' := ν.v k) (ne := e) hrow hb.1 (fun g hg => ⟨k, e, rfl, hk, hd, hb.1, hg⟩) ⟨rfl, rfl, rfl, Nat.le_refl _, fun _ _ _ => rfl⟩ (.inl rfl) fun j c fl T e2 acc hj hkd g cs fz hg heq => ?_
          exact bldFree_ok hb.2 j c fl T e2 acc hj hkd (OwnB.elTy hrow hg heq)
    · cases h
  · cases h
theorem mvL_ok : ∀ (l : List Nat) {s s' : St}, mvL l s = some s' → ∀ {n : Nat} {w0 : Base} {w : World} {ν : Nu} {a : Act}, TR n ν s a → (∀ p ∈ s.tmps, okV s.own.b.length s.own.l.length p.2) → WR w0 ν s.own s.mem w → ∃ ν', Agree s.own.b.length s.own.l.length ν ν' ∧ s.own.l.length ≤ s'.own.l.length ∧ s'.own.b = s.own.b ∧ TR n ν' s' a ∧ (∀ p ∈ s'.tmps, okV s'.own.b.length s'.own.l.length p.2) ∧ WR w0 ν' s'.own s'.mem w
  | [], s, s', h, n, w0, w, ν, a, ht, hg, hw => by simp only [mvL, Option.some.injEq] at h; subst h; exact ⟨ν, .refl _ _ _, Nat.le_refl _, rfl, ht, hg, hw⟩
  | t :: r, s, s', h, n, w0, w, ν, a, ht, hg, hw => by
    unfold mvL at h
    split at h
    · rename_i s1 h1
      obtain ⟨ν1, a1, l1, b1, t1, g1, w1⟩ := mv_ok h1 ht hg hw
      obtain ⟨ν2, a2, l2, b2, t2, g2, w2⟩ := mvL_ok r h t1 g1 w1
      exact ⟨ν2, Agree.trans a1 a2 (by rw [b1]; exact Nat.le_refl _) l1, Nat.le_trans l1 l2, b2.trans b1, t2, g2, w2⟩
    · cases h
theorem look_ren (f : SV → SV) (hf : f .any = .any) (t : Nat) : ∀ (l : List (Nat × SV)), look (l.map fun p => (p.1, f p.2)) t = f (look l t)
  | [] => hf.symm
  | (d, x) :: r => by
    show look ((d, f x) :: r.map fun p => (p.1, f p.2)) t = f (look ((d, x) :: r) t)
    unfold look
    cases Nat.beq d t
    · exact look_ren f hf t r
    · rfl
/-- Blocks told in other words. -/
theorem WR.reblk {w0 : Base} {ν : Nu} {own own' : Mem} {mem : Bool} {w : World} (h : WR w0 ν own mem w) (hl : own'.l = own.l) (hn : own'.b.length = own.b.length) (hb : ∀ (i : Nat) b', own'.b[i]? = some b' → ∃ b, own.b[i]? = some b ∧ concB ν b'.cells = concB ν b.cells ∧ b'.elem = b.elem ∧ b'.kd = b.kd)
    (hok : OkB own'.b.length own'.l.length own'.b) : WR w0 ν own' mem w :=
  ⟨h.below, fun i b' hi => by
    obtain ⟨b, h1, h2, h3, h4⟩ := hb i b' hi
    obtain ⟨k1, k2⟩ := h.blk i b h1
    exact ⟨BOk.rel k1 h2 h3 h4, k2⟩, hok, fun i j hi hj => h.inj i j (by rw [← hn]; exact hi) (by rw [← hn]; exact hj), fun k e hk => h.lst k e (by rw [← hl]; exact hk), fun k e hk hd ho g hg => by
    obtain ⟨s1, s2⟩ := h.sep k e (by rw [← hl]; exact hk) hd ho g hg
    exact ⟨fun i hi => s1 i (by rw [← hn]; exact hi), fun k' e' hk' => s2 k' e' (by rw [← hl]; exact hk')⟩, h.same, ⟨h.fr.here, fun i hi => h.fr.offb i (by rw [← hn]; exact hi), fun k e hk => h.fr.offl k e (by rw [← hl]; exact hk)⟩⟩
theorem cp_ok {k : Nat} {s s' : St} (h : cpS k s = some s') {n : Nat} {w0 : Base} {w : World} {ν : Nu} {a : Act} (ht : TR n ν s a) (hg : ∀ p ∈ s.tmps, okV s.own.b.length s.own.l.length p.2) (hw : WR w0 ν s.own s.mem w) :
    ∃ ν', Agree s.own.b.length s.own.l.length ν ν' ∧ s.own.l.length ≤ s'.own.l.length ∧ s'.own.b.length = s.own.b.length ∧ TR n ν' s' a ∧ (∀ p ∈ s'.tmps, okV s'.own.b.length s'.own.l.length p.2) ∧ WR w0 ν' s'.own s'.mem w := by
  unfold cpS at h
  split at h
  · rename_i e he
    cases ho : e.own
    · rw [ho] at h
      simp only [cond_false, Option.some.injEq] at h
      subst h
      obtain ⟨hk, hd⟩ := getL_some he
      have hkl := lt_of_some_list hk
      have hin := hw.lst k e hk hd
      unfold LOk at hin
      rw [ho] at hin
      have hadd := hw.addIn (e := e) (v := ν.v k) ho hin
      have hv : ∀ i, i < s.own.l.length → (extV ν s.own.l.length (ν.v k)).v (cpN k s.own.l.length i) = ν.v i := fun i hi => by
        unfold cpN
        cases hb : Nat.beq i k
        · exact ((extV_old ν 0 s.own.l.length (ν.v k)).2 i hi).symm
        · rw [Nat.eq_of_beq_eq_true hb]
          exact extV_new _ _ _
      -- contents told by old numbers
      have key : ∀ x : SV, okV s.own.b.length s.own.l.length x → conc (extV ν s.own.l.length (ν.v k)) (renV (fun i => i) (cpN k s.own.l.length) x) = conc ν x ∧ okV s.own.b.length (s.own.l.length + 1) (renV (fun i => i) (cpN k s.own.l.length) x) := fun x hx => by
        refine ⟨?_, renV_ok (fun i hi => hi) (fun i hi => ?_) hx⟩
        · let ν2 : Nu := ⟨ν.l, fun i => (extV ν s.own.l.length (ν.v k)).v (cpN k s.own.l.length i)⟩
          rw [renV_conc (ν3 := extV ν s.own.l.length (ν.v k)) (ν2 := ν2) (fb := fun i => i) (fl := cpN k s.own.l.length) (fun i => rfl) (fun i => rfl) x]
          exact conc_congr hx ⟨fun i _ => rfl, fun i hi => hv i hi⟩
        · unfold cpN
          cases Nat.beq i k
          · show i < _; omega
          · show s.own.l.length < _; omega
      refine ⟨extV ν s.own.l.length (ν.v k), extV_old _ _ _ _, by simp, by simp, ⟨ht.size, fun t => ?_, ht.df⟩, fun p hp => ?_, hadd.reblk rfl (by simp) (fun i b' hi => ?_) fun i b' hi c hc => ?_⟩
      · show Is _ (look (s.tmps.map fun p => (p.1, renV (fun i => i) (cpN k s.own.l.length) p.2)) t) _
        rw [look_ren _ rfl]
        have h0 := ht.tm t
        have hx := look_ok (t := t) hg
        cases hy : look s.tmps t with
        | any => trivial
        | _ =>
          rw [hy] at h0 hx
          exact (show _ = conc ν _ from h0).trans (key _ hx).1.symm
      · obtain ⟨p0, hp0, rfl⟩ := List.mem_map.mp hp
        have := (key p0.2 (hg p0 hp0)).2
        simpa using this
      · rw [List.getElem?_map] at hi
        obtain ⟨b, hb, rfl⟩ := Option.map_eq_some_iff.mp hi
        refine ⟨b, hb, ?_, rfl, rfl⟩
        show concB _ (b.cells.map _) = concB _ b.cells
        unfold concB
        rw [List.map_map]
        refine List.map_congr_left fun c hc => ?_
        exact ((key c (hw.okb i b hb c hc)).1).trans (conc_congr (hw.okb i b hb c hc) (extV_old _ _ _ _))
      · rw [List.getElem?_map] at hi
        obtain ⟨b, hb, rfl⟩ := Option.map_eq_some_iff.mp hi
        obtain ⟨c0, hc0, rfl⟩ := List.mem_map.mp hc
        have := (key c0 (hw.okb i b hb c0 hc0)).2
        simpa using this
    · rw [ho] at h; cases h
  · cases h
theorem cpL_ok : ∀ (l : List Nat) {s s' : St}, cpL l s = some s' → ∀ {n : Nat} {w0 : Base} {w : World} {ν : Nu} {a : Act}, TR n ν s a → (∀ p ∈ s.tmps, okV s.own.b.length s.own.l.length p.2) → WR w0 ν s.own s.mem w → ∃ ν', Agree s.own.b.length s.own.l.length ν ν' ∧ s.own.l.length ≤ s'.own.l.length ∧ s'.own.b.length = s.own.b.length ∧ TR n ν' s' a ∧ (∀ p ∈ s'.tmps, okV s'.own.b.length s'.own.l.length p.2) ∧ WR w0 ν' s'.own s'.mem w
  | [], s, s', h, n, w0, w, ν, a, ht, hg, hw => by simp only [cpL, Option.some.injEq] at h; subst h; exact ⟨ν, .refl _ _ _, Nat.le_refl _, rfl, ht, hg, hw⟩
  | t :: r, s, s', h, n, w0, w, ν, a, ht, hg, hw => by
    unfold cpL at h
    split at h
    · rename_i s1 h1
      obtain ⟨ν1, a1, l1, b1, t1, g1, w1⟩ := cp_ok h1 ht hg hw
      obtain ⟨ν2, a2, l2, b2, t2, g2, w2⟩ := cpL_ok r h t1 g1 w1
      exact ⟨ν2, Agree.trans a1 a2 (by rw [b1]; exact Nat.le_refl _) l1, Nat.le_trans l1 l2, b2.trans b1, t2, g2, w2⟩
    · cases h
theorem pickNu_agree {p : Pick} {nb nl : Nat} (hb : prefB nb p.bs = true) (hl : prefB nl p.ls = true) (ν : Nu) : Agree nb nl ν (pickNu p ν) := ⟨fun i hi => by
    show ν.l i = ν.l ((p.bs[i]?).getD 0); rw [prefB_ok hb i hi]; rfl, fun k hk => by
    show ν.v k = ν.v ((p.ls[k]?).getD 0); rw [prefB_ok hl k hk]; rfl⟩
theorem pick_okA {p : Pick} {s s' : St} {nb nl : Nat} (hD : Deep nb nl s) (hb : prefB nb p.bs = true) (hl : prefB nl p.ls = true) (h : pickS p s = some s') (hg : Good s) {n : Nat} {w0 : Base} {w : World} {ν : Nu} {a : Act} (ht : TR n ν s a) (hw : WR w0 ν s.own s.mem w) : ∃ ν', Agree nb nl ν ν' ∧ TR n ν' s' a ∧ WR w0 ν' s'.own s'.mem w := by
  unfold pickS at h
  split at h
  · rename_i sc hc
    split at h
    · rename_i s0 h0
      split at h
      · rename_i s1 h1
        obtain ⟨νc, ac, lc, bc, tc, gc, wc⟩ := cpL_ok p.cp hc ht hg.ok hw
        obtain ⟨ν0, a0, l0, b0, t0, g0, w0'⟩ := mvL_ok p.mv h0 tc gc wc
        obtain ⟨ν1, a1, t1, w1⟩ := nilL_ok p.nil h1 t0 g0 w0'
        obtain ⟨t2, w2⟩ := pick0_ok h t1 w1
        have a2 := pickNu_agree hb hl ν1
        have c1 := ac.mono hD.b hD.l
        have c2 := a0.mono (show nb ≤ _ by rw [bc]; exact hD.b) (Nat.le_trans hD.l lc)
        have c3 := a1.mono (show nb ≤ _ by rw [b0, bc]; exact hD.b) (Nat.le_trans (Nat.le_trans hD.l lc) l0)
        exact ⟨_, Agree.trans (Agree.trans (Agree.trans c1 c2 (Nat.le_refl _) (Nat.le_refl _)) c3 (Nat.le_refl _) (Nat.le_refl _)) a2 (Nat.le_refl _) (Nat.le_refl _), t2, w2⟩
      · cases h
    · cases h
  · cases h
theorem SemA.pre {E : Env} {w0 : Base} {nb nl n : Nat} {c : Code} {s s1 s' : St} {x : X} {p : Pick} (hD : Deep nb nl s) (hb : prefB nb p.bs = true) (hl : prefB nl p.ls = true) (hp : pickS p s = some s1) (hg : Good s) (h : SemA E w0 nb nl n c s1 x s') : SemA E w0 nb nl n c s x s' := fun Q ν a w ht hw hQ => by
  obtain ⟨ν', ha, ht', hw'⟩ := pick_okA hD hb hl hp hg ht hw
  exact h Q ν' a w ht' hw' fun ν2 a2 w2 ha2 => hQ ν2 a2 w2 (Agree.trans ha ha2 (Nat.le_refl _) (Nat.le_refl _))
theorem SemA.post {E : Env} {w0 : Base} {nb nl n : Nat} {c : Code} {s s1 s' : St} {x : X} {p : Pick} (hD : Deep nb nl s1) (hb : prefB nb p.bs = true) (hl : prefB nl p.ls = true) (hp : pickS p s1 = some s') (hg : Good s1) (h : SemA E w0 nb nl n c s x s1) : SemA E w0 nb nl n c s x s' := fun Q ν a w ht hw hQ =>
  h Q ν a w ht hw fun ν' a' w' ha ht' hw' => by
    obtain ⟨ν'', ha2, ht'', hw''⟩ := pick_okA hD hb hl hp hg ht' hw'
    exact hQ ν'' a' w' (Agree.trans ha ha2 (Nat.le_refl _) (Nat.le_refl _)) ht'' hw''
/-- A state's slots and memory are all that counts. -/
theorem SemA.of {E : Env} {w0 : Base} {nb nl n : Nat} {c : Code} {s t s' t' : St} {x : X} (h : SemA E w0 nb nl n c s x s') (h1 : t.tmps = s.tmps) (h2 : t.own = s.own) (h3 : t.mem = s.mem) (k1 : s'.tmps = t'.tmps) (k2 : s'.own = t'.own) (k3 : s'.mem = t'.mem) : SemA E w0 nb nl n c t x t' := fun Q ν a w ht hw hQ =>
  h Q ν a w (ht.of h1.symm) (by rw [← h2, ← h3]; exact hw) fun ν' a' w' ha ht' hw' => hQ ν' a' w' ha (ht'.of k1.symm) (by rw [← k2, ← k3]; exact hw')
/-- Lists that are alike as far as they go. -/
def sameE (e e' : LE) : Prop := e.elT = e'.elT ∧ e.size = e'.size ∧ e.n = e'.n ∧ e.own = e'.own ∧ e.dead = e'.dead ∧ ∀ i, i < e.n → e.el i = e'.el i
def sameL : List LE → List LE → Prop
  | [], [] => True
  | e :: r, e' :: r' => sameE e e' ∧ sameL r r'
  | _, _ => False
theorem sameE.refl (e : LE) : sameE e e := ⟨rfl, rfl, rfl, rfl, rfl, fun _ _ => rfl⟩
theorem sameL.refl : ∀ (l : List LE), sameL l l
  | [] => trivial
  | e :: r => ⟨.refl e, sameL.refl r⟩
theorem sameL_len : ∀ {l l' : List LE}, sameL l l' → l.length = l'.length
  | [], [], _ => rfl
  | e :: r, e2 :: r', h => by simp [sameL_len h.2]
  | [], _ :: _, h => h.elim
  | _ :: _, [], h => h.elim
theorem sameL_get : ∀ {l l' : List LE}, sameL l l' → ∀ (k : Nat) (e' : LE), l'[k]? = some e' → ∃ e, l[k]? = some e ∧ sameE e e'
  | [], [], _, k, e', h => by simp at h
  | e :: r, e2 :: r', h, k, e', hk => by
    cases k with
    | zero => simp at hk; subst hk; exact ⟨e, by simp, h.1⟩
    | succ k => simp at hk ⊢; exact sameL_get h.2 k e' hk
  | [], _ :: _, h, _, _, _ => h.elim
  | _ :: _, [], h, _, _, _ => h.elim
theorem InB.same {B : Nat} {w : World} {e e' : LE} {v : Value} (h : InB B w e v) (hs : sameE e e') : InB B w e' v := by
  obtain ⟨_, h2, h3, _, _, h6⟩ := hs
  obtain ⟨⟨hw1, hw2⟩, a, cap, hv, hle, hc⟩ := h
  refine ⟨⟨by rw [← h2]; exact hw1, fun j hj => by rw [← h6 j (by rw [h3]; exact hj), ← h2]; exact hw2 j (by rw [h3]; exact hj)⟩, a, cap, by rw [← h3]; exact hv, by rw [← h3]; exact hle, fun hn => ?_⟩
  obtain ⟨b, off, ha, hb, hcell⟩ := hc (by rw [h3]; exact hn)
  exact ⟨b, off, ha, hb, fun j hj o c hoc => by rw [← h2]; exact hcell j (by rw [h3]; exact hj) o c (by rw [h6 j (by rw [h3]; exact hj)]; exact hoc)⟩
theorem OwnB.same {B : Nat} {w : World} {e e' : LE} {v : Value} (h : OwnB B w e v) (hs : sameE e e') : OwnB B w e' v := by
  obtain ⟨h1, h2, h3, _, _, h6⟩ := hs
  obtain ⟨⟨hw1, hw2⟩, hrow⟩ := h
  refine ⟨⟨by rw [← h2]; exact hw1, fun j hj => by rw [← h6 j (by rw [h3]; exact hj), ← h2]; exact hw2 j (by rw [h3]; exact hj)⟩, ?_⟩
  have hf : e.flat = e'.flat := by
    unfold LE.flat
    rw [h3]
    unfold List.flatMap
    congr 1
    exact List.map_congr_left fun i hi => h6 i (by rw [h3]; exact List.mem_range.mp hi)
  rw [← hf, ← h1, ← h2, ← h3]; exact hrow
theorem WR.alike {w0 : Base} {ν : Nu} {own own' : Mem} {mem : Bool} {w : World} (h : WR w0 ν own mem w) (hb : own.b = own'.b) (hl : sameL own.l own'.l) : WR w0 ν own' mem w := by
  refine ⟨h.below, fun i b hi => h.blk i b (by rw [hb]; exact hi), by rw [← hb, ← sameL_len hl]; exact h.okb, fun i j hi hj => h.inj i j (by rw [hb]; exact hi) (by rw [hb]; exact hj), fun k e' hk hd => ?_, fun k e' hk hd ho g hg => ?_, h.same, ⟨h.fr.here, fun i hi => h.fr.offb i (by rw [hb]; exact hi), fun k e' hk hd ho g hg => by
    obtain ⟨e, he, hs⟩ := sameL_get hl k e' hk
    exact h.fr.offl k e he (by rw [hs.2.2.2.2.1]; exact hd) (by rw [hs.2.2.2.1]; exact ho) g hg⟩⟩
  · obtain ⟨e, he, hs⟩ := sameL_get hl k e' hk
    have hd0 : e.dead = false := by rw [hs.2.2.2.2.1]; exact hd
    have := h.lst k e he hd0
    unfold LOk at *
    rw [← hs.2.2.2.1]
    cases ho : e.own
    · rw [ho] at this; exact InB.same this hs
    · rw [ho] at this; exact OwnB.same this hs
  · obtain ⟨e, he, hs⟩ := sameL_get hl k e' hk
    obtain ⟨s1, s2⟩ := h.sep k e he (by rw [hs.2.2.2.2.1]; exact hd) (by rw [hs.2.2.2.1]; exact ho) g hg
    refine ⟨fun i hi => s1 i (by rw [hb]; exact hi), fun k' e2 hk' hd' ho' hne => ?_⟩
    obtain ⟨e3, he3, hs3⟩ := sameL_get hl k' e2 hk'
    exact s2 k' e3 he3 (by rw [hs3.2.2.2.2.1]; exact hd') (by rw [hs3.2.2.2.1]; exact ho') hne
theorem SemA.same {E : Env} {w0 : Base} {nb nl n : Nat} {c : Code} {s s1 s2 : St} {x : X} (h : SemA E w0 nb nl n c s x s1) (h1 : s1.tmps = s2.tmps) (h2 : s1.own.b = s2.own.b) (h3 : sameL s1.own.l s2.own.l) (h4 : s2.mem = s1.mem) : SemA E w0 nb nl n c s x s2 := fun Q ν a w ht hw hQ =>
  h Q ν a w ht hw fun ν' a' w' ha ht' hw' => hQ ν' a' w' ha (ht'.of h1.symm) (by rw [h4]; exact hw'.alike h2 h3)
/-- .. from a state that is alike. -/
theorem SemA.alike {E : Env} {w0 : Base} {nb nl n : Nat} {c : Code} {s1 s2 s' : St} {x : X} (h : SemA E w0 nb nl n c s1 x s') (h1 : s1.tmps = s2.tmps) (h2 : s2.own.b = s1.own.b) (h3 : sameL s2.own.l s1.own.l) (h4 : s1.mem = s2.mem) : SemA E w0 nb nl n c s2 x s' := fun Q ν a w ht hw hQ =>
  h Q ν a w (ht.of h1) (by rw [h4]; exact hw.alike h2 h3) hQ
/-- A list that has grown by one. -/
theorem joinE_one {j : Nat} {f g : Nat → List Value} (h : g 0 = f j) : ∀ i, i < j + 1 → joinE j f g i = f i := fun i hi => by
  unfold joinE
  cases hb : Nat.blt i j
  · have : ¬ i < j := by intro hc; rw [← Nat.blt_eq, hb] at hc; cases hc
    obtain rfl : i = j := by omega
    show g (i - i) = _
    rw [Nat.sub_self, h]
  · rfl
theorem joinE_many {j m : Nat} {f g : Nat → List Value} (h : ∀ i, i < m → g i = f (j + i)) : ∀ i, i < j + m → joinE j f g i = f i := fun i hi => by
  unfold joinE
  cases hb : Nat.blt i j
  · have : ¬ i < j := by intro hc; rw [← Nat.blt_eq, hb] at hc; cases hc
    show g (i - j) = _
    rw [h (i - j) (by omega), show j + (i - j) = i by omega]
  · rfl
/-- A loop of so many rounds. -/
theorem sem_loop {E : Env} {w0 : Base} {nb nl n : Nat} {c : Code} {x : X} {s' : St} (S : Nat → St) (N : Nat) (hx : x ≠ none) (body : ∀ j, j < N → SemA E w0 nb nl n c (S j) none (S (j + 1))) (last : SemA E w0 nb nl n c (S N) x s') : SemA E w0 nb nl n (.loop c) (S 0) x s' := fun Q ν a w ht hw hQ => by
  refine wp_loop_rounds (N + 1) ?_
  have key : ∀ k j, j + k = N → ∀ ν1 a w, Agree nb nl ν ν1 → TR n ν1 (S j) a → WR w0 ν1 (S j).own (S j).mem w → Code.rounds E.P c Q (k + 1) a w := by
    intro k
    induction k with
    | zero =>
      intro j hj ν1 a w ha ht hw
      obtain rfl : j = N := by omega
      rw [rounds_succ]
      refine last _ ν1 a w ht hw fun ν' a' w' ha' ht' hw' => ?_
      have ha2 := Agree.trans ha ha' (Nat.le_refl _) (Nat.le_refl _)
      rcases x with _ | _ | i
      · exact absurd rfl hx
      · exact hQ ν' a' w' ha2 ht' hw'
      · exact hQ ν' a' w' ha2 ht' hw'
    | succ k ih =>
      intro j hj ν1 a w ha ht hw
      rw [rounds_succ]
      exact body j (by omega) _ ν1 a w ht hw fun ν' a' w' ha' ht' hw' => ih (j + 1) (by omega) ν' a' w' (Agree.trans ha ha' (Nat.le_refl _) (Nat.le_refl _)) ht' hw'
  exact key N 0 (by omega) ν a w (.refl _ _ _) ht hw
/-- One round: the state that is kept behind it, and what it asks. -/
noncomputable def iter (E : Env) (fuel n : Nat) (c : Code) (p : Pick) (orc : List Bool) (s : St) : Option (X × St × List (Bool × Bool)) := match simC E fuel n c { s with orc := orc, obl := [] } with
  | some (x, s') => match pickS p s' with
    | some s2 => some (x, s2, s'.obl)
    | none => none
  | none => none
def goodB (s : St) : Bool := Nat.ble s.lo s.own.b.length && Nat.ble s.llo s.own.l.length && (s.tmps.all fun p => okVB s.own.b.length s.own.l.length p.2) && s.own.b.all fun b => b.cells.all (okVB s.own.b.length s.own.l.length)
theorem goodB_ok {s : St} (h : goodB s = true) : Good s := by
  unfold goodB at h
  simp only [Bool.and_eq_true, List.all_eq_true] at h
  exact ⟨Nat.le_of_ble_eq_true h.1.1.1, Nat.le_of_ble_eq_true h.1.1.2, fun p hp => okVB_ok (h.1.2 p hp), fun i b hi c hc => okVB_ok (h.2 b (List.mem_of_getElem? hi) c hc)⟩
theorem semA_iter {E : Env} (HC : CallOk E) {w0 : Base} (hG : GlobB E w0) {nb nl fuel n : Nat} {c : Code} {p : Pick} {s s' : St} {x : X} (orc : List Bool) (l : List (Bool × Bool)) (hg : (goodB s && Nat.ble nb s.own.b.length && Nat.ble nl s.own.l.length && prefB nb p.bs && prefB nl p.ls) = true) (h : iter E fuel n c p orc s = some (x, s', l)) (hl : ∀ p ∈ l, p.1 = p.2) : SemA E w0 nb nl n c s x s' := by
  simp only [Bool.and_eq_true] at hg
  obtain ⟨⟨⟨⟨hg, hb1⟩, hl1⟩, hb2⟩, hl2⟩ := hg
  have hD : Deep nb nl s := ⟨Nat.le_of_ble_eq_true hb1, Nat.le_of_ble_eq_true hl1⟩
  unfold iter at h
  split at h
  · rename_i x1 s1 h1
    split at h
    · rename_i s2 h2
      simp only [Option.some.injEq, Prod.mk.injEq] at h
      obtain ⟨rfl, rfl, rfl⟩ := h
      have g := goodB_ok hg
      have := sem_runA HC hG (s := { s with orc := orc, obl := [] }) ⟨hD.b, hD.l⟩ ⟨g.lo, g.llo, g.ok, g.okb⟩ h1 hl
      have h3 : SemA E w0 nb nl n c s x1 s1 := SemA.of (t := s) this rfl rfl rfl rfl rfl rfl
      obtain ⟨k1, k2⟩ := simC_st E fuel n c { s with orc := orc, obl := [] } x1 s1 ⟨g.lo, g.llo, g.ok, g.okb⟩ h1
      exact h3.post ⟨Nat.le_trans hD.b k1.len, Nat.le_trans hD.l k1.llen⟩ hb2 hl2 h2 k2
    · cases h
  · cases h
theorem sem_iter {E : Env} (HC : CallOk E) {w0 : World} (hG : Glob E w0) {fuel n : Nat} {c : Code} {p : Pick} {s s' : St} {x : X} (orc : List Bool) (l : List (Bool × Bool)) (hg : goodB s = true) (h : iter E fuel n c p orc s = some (x, s', l)) (hl : ∀ p ∈ l, p.1 = p.2) : Sem E w0 n c s x s' :=
  semA_iter HC (.of hG) orc l (by rw [hg]; rfl) h hl

/-! ### A body with loops -/
/-- A place in the code where the evaluator is told what comes of it: its path, what is kept of the state ahead of it, how it is left, the state behind it. -/
structure Stop where
  path : List Nat
  pick : Pick
  x : X
  s : St
structure Told where
  c : Code
  s : St
  x : X
  s' : St
def pathB : List Nat → List Nat → Bool
  | [], [] => true
  | x :: r, y :: t => Nat.beq x y && pathB r t
  | _, _ => false
/-- Is the first path an opening of the second (both from the end)? -/
def opens (p q : List Nat) : Bool := pathB p (q.drop (q.length - p.length)) && Nat.ble p.length q.length
abbrev Out := X × St × List Stop × List Told
/-- Runs code; at the stops it goes on as told. Paths are kept from the end. -/
noncomputable def simP (E : Env) (fuel n : Nat) : Nat → List Stop → List Nat → Code → St → Option Out
  | 0, _, _, _, _ => none
  | d + 1, plan, path, c, s =>
    match plan with
    | [] => match simC E fuel n c s with
      | some (x, s') => some (x, s', [], [])
      | none => none
    | st :: rest => bif pathB path st.path then
        (match pickS st.pick s with
        | some s1 => bif goodB st.s then some (st.x, { st.s with obl := s.obl, orc := s.orc, lo := 0, llo := 0 }, rest, [⟨c, s1, st.x, st.s⟩]) else none
        | none => none)
      else bif opens path st.path then
        (match c with
        | .seq x y => match simP E fuel n d plan (0 :: path) x s with
          | some (none, s', plan', tr) => match simP E fuel n d plan' (1 :: path) y s' with
            | some (e, s2, plan2, tr2) => some (e, s2, plan2, tr ++ tr2)
            | none => none
          | r => r
        | .cond b x y => match ev s b with
          | .inl (fl, (.bool v)) => match askC s b fl v with
            | (true, s') => simP E fuel n d plan (0 :: path) x s'
            | (false, s') => simP E fuel n d plan (1 :: path) y s'
          | _ => none
        | .block id x => match simP E fuel n d plan (0 :: path) x s with
          | some (some (some i), s', plan', tr) => bif Nat.beq i id then some (none, s', plan', tr) else some (some (some i), s', plan', tr)
          | r => r
        | _ => none)
      else (match simC E fuel n c s with
        | some (x, s') => some (x, s', plan, [])
        | none => none)
/-- The stops keep the first numbers. -/
def okStop (nb nl : Nat) (st : Stop) : Bool := prefB nb st.pick.bs && prefB nl st.pick.ls && Nat.ble nb st.s.own.b.length && Nat.ble nl st.s.own.l.length
theorem okStop_zero (plan : List Stop) : ∀ st ∈ plan, okStop 0 0 st = true := fun st _ => rfl
theorem simP_okA {E : Env} (HC : CallOk E) {w0 : Base} (hG : GlobB E w0) {nb nl fuel n : Nat} : ∀ (d : Nat) (plan : List Stop) (path : List Nat) (c : Code) (s : St) (x : X) (s' : St) (plan' : List Stop) (tr : List Told),
    Good s → Deep nb nl s → (∀ st ∈ plan, okStop nb nl st = true) → simP E fuel n d plan path c s = some (x, s', plan', tr) → (∀ p ∈ s.obl, p ∈ s'.obl) ∧ Good s' ∧ (Deep nb nl s' ∧ ∀ st ∈ plan', okStop nb nl st = true) ∧ (Holds' s' → (∀ t ∈ tr, SemA E w0 nb nl n t.c t.s t.x t.s') → SemA E w0 nb nl n c s x s')
  | 0, _, _, _, _, _, _, _, _, _, _, _, h => by simp [simP] at h
  | d + 1, plan, path, c, s, x, s', plan', tr, hg, hD, hP, h => by
    have run : ∀ {x s'} (plan' : List Stop), (∀ st ∈ plan', okStop nb nl st = true) → simC E fuel n c s = some (x, s') → (∀ p ∈ s.obl, p ∈ s'.obl) ∧ Good s' ∧ (Deep nb nl s' ∧ ∀ st ∈ plan', okStop nb nl st = true) ∧ (Holds' s' → (∀ t ∈ tr, SemA E w0 nb nl n t.c t.s t.x t.s') → SemA E w0 nb nl n c s x s') := fun {x s'} plan' hP' h1 => by
      obtain ⟨l1, g1⟩ := simC_st E fuel n c s x s' hg h1
      exact ⟨l1.ext, g1, ⟨⟨Nat.le_trans hD.b l1.len, Nat.le_trans hD.l l1.llen⟩, hP'⟩, fun hh _ => sem_runA HC hG hD hg h1 hh⟩
    unfold simP at h
    split at h
    · split at h
      · rename_i x1 s1 h1
        simp only [Option.some.injEq, Prod.mk.injEq] at h
        obtain ⟨rfl, rfl, rfl, rfl⟩ := h
        exact run [] (fun st hst => by cases hst) h1
      · cases h
    · rename_i st rest
      cases hpb : pathB path st.path
      · rw [hpb] at h
        simp only [cond_false] at h
        cases hop : opens path st.path
        · rw [hop] at h
          simp only [cond_false] at h
          split at h
          · rename_i x1 s1 h1
            simp only [Option.some.injEq, Prod.mk.injEq] at h
            obtain ⟨rfl, rfl, rfl, rfl⟩ := h
            exact run _ hP h1
          · cases h
        · rw [hop] at h
          simp only [cond_true] at h
          split at h
          · rename_i c1 c2
            split at h
            · rename_i s1 plan1 tr1 h1
              obtain ⟨e1, g1, D1, k1⟩ := simP_okA HC hG d _ _ _ _ _ _ _ _ hg hD hP h1
              split at h
              · rename_i e s2 plan2 tr2 h2
                simp only [Option.some.injEq, Prod.mk.injEq] at h
                obtain ⟨rfl, rfl, rfl, rfl⟩ := h
                obtain ⟨e2, g2, D2, k2⟩ := simP_okA HC hG d _ _ _ _ _ _ _ _ g1 D1.1 D1.2 h2
                refine ⟨fun p hp => e2 p (e1 p hp), g2, D2, fun hh htr => ?_⟩
                have m1 := k1 (fun p hp => hh p (e2 p hp)) (fun t ht => htr t (List.mem_append_left _ ht))
                have m2 := k2 hh (fun t ht => htr t (List.mem_append_right _ ht))
                exact fun Q ν a w ht hw hQ => wp_seq (m1 _ ν a w ht hw fun ν' a' w' ha ht' hw' => m2 Q ν' a' w' ht' hw' fun ν2 a2 w2 ha2 => hQ ν2 a2 w2 (Agree.trans ha ha2 (Nat.le_refl _) (Nat.le_refl _)))
              · cases h
            · rename_i hne
              obtain ⟨e1, g1, D1, k1⟩ := simP_okA HC hG d _ _ _ _ _ _ _ _ hg hD hP h
              refine ⟨e1, g1, D1, fun hh htr => ?_⟩
              have m1 := k1 hh htr
              refine fun Q ν a w ht hw hQ => wp_seq (m1 _ ν a w ht hw fun ν' a' w' ha ht' hw' => ?_)
              rcases x with _ | _ | i
              · exact absurd h (hne _ _ _)
              · exact hQ _ _ _ ha ht' hw'
              · exact hQ _ _ _ ha ht' hw'
          · rename_i b c1 c2
            split at h
            · rename_i fl v hev
              split at h
              · rename_i s1 hask
                obtain ⟨b1, b2, b3, b4, b5⟩ := askC_ok (n := n) hev hask
                obtain ⟨e1, g1, D1, k1⟩ := simP_okA HC hG d _ _ _ _ _ _ _ _ (b4 hg) ⟨by rw [b2]; exact hD.b, by rw [b2]; exact hD.l⟩ hP h
                refine ⟨fun p hp => e1 p (b1.ext p hp), g1, D1, fun hh htr => ?_⟩
                obtain ⟨hb, ht1⟩ := b5 (fun p hp => hh p (e1 p hp))
                exact fun Q ν a w ht hw hQ => wp_cond_true (by rw [eval_v ht hev, hb]) (k1 hh htr Q ν a w (ht1 ν a ht) (by rw [b2, b3]; exact hw) hQ)
              · rename_i s1 hask
                obtain ⟨b1, b2, b3, b4, b5⟩ := askC_ok (n := n) hev hask
                obtain ⟨e1, g1, D1, k1⟩ := simP_okA HC hG d _ _ _ _ _ _ _ _ (b4 hg) ⟨by rw [b2]; exact hD.b, by rw [b2]; exact hD.l⟩ hP h
                refine ⟨fun p hp => e1 p (b1.ext p hp), g1, D1, fun hh htr => ?_⟩
                obtain ⟨hb, ht1⟩ := b5 (fun p hp => hh p (e1 p hp))
                exact fun Q ν a w ht hw hQ => wp_cond_false (by rw [eval_v ht hev, hb]) (k1 hh htr Q ν a w (ht1 ν a ht) (by rw [b2, b3]; exact hw) hQ)
            · cases h
          · rename_i id c1
            split at h
            · rename_i i s1 plan1 tr1 h1
              obtain ⟨e1, g1, D1, k1⟩ := simP_okA HC hG d _ _ _ _ _ _ _ _ hg hD hP h1
              cases hb : Nat.beq i id
              · rw [hb] at h
                simp only [cond_false, Option.some.injEq, Prod.mk.injEq] at h
                obtain ⟨rfl, rfl, rfl, rfl⟩ := h
                have hne : i ≠ id := fun e => by rw [e] at hb; simp at hb
                refine ⟨e1, g1, D1, fun hh htr Q ν a w ht hw hQ => wp_block (k1 hh htr _ ν a w ht hw fun ν' a' w' ha ht' hw' => ?_)⟩
                simp only [X.toExit, Exit.inBlock, if_neg hne]
                exact hQ _ _ _ ha ht' hw'
              · rw [hb] at h
                simp only [cond_true, Option.some.injEq, Prod.mk.injEq] at h
                obtain ⟨rfl, rfl, rfl, rfl⟩ := h
                have heq : i = id := Nat.eq_of_beq_eq_true hb
                refine ⟨e1, g1, D1, fun hh htr Q ν a w ht hw hQ => wp_block (k1 hh htr _ ν a w ht hw fun ν' a' w' ha ht' hw' => ?_)⟩
                simp only [X.toExit, Exit.inBlock, if_pos heq]
                exact hQ _ _ _ ha ht' hw'
            · rename_i hne
              obtain ⟨e1, g1, D1, k1⟩ := simP_okA HC hG d _ _ _ _ _ _ _ _ hg hD hP h
              refine ⟨e1, g1, D1, fun hh htr Q ν a w ht hw hQ => wp_block (k1 hh htr _ ν a w ht hw fun ν' a' w' ha ht' hw' => ?_)⟩
              rcases x with _ | _ | i
              · exact hQ _ _ _ ha ht' hw'
              · exact hQ _ _ _ ha ht' hw'
              · exact absurd h (hne _ _ _ _)
          · cases h
      · rw [hpb] at h
        simp only [cond_true] at h
        split at h
        · rename_i s1 hp
          cases hgb : goodB st.s
          · rw [hgb] at h; cases h
          · rw [hgb] at h
            simp only [cond_true, Option.some.injEq, Prod.mk.injEq] at h
            obtain ⟨rfl, rfl, rfl, rfl⟩ := h
            have g := goodB_ok hgb
            have ho := hP st List.mem_cons_self
            unfold okStop at ho
            simp only [Bool.and_eq_true] at ho
            refine ⟨fun p hp => hp, ⟨Nat.zero_le _, Nat.zero_le _, g.ok, g.okb⟩, ⟨⟨Nat.le_of_ble_eq_true ho.1.2, Nat.le_of_ble_eq_true ho.2⟩, fun st' hst' => hP st' (List.mem_cons_of_mem _ hst')⟩, fun hh htr => ?_⟩
            have := htr ⟨c, s1, st.x, st.s⟩ (by simp)
            exact (this.pre hD ho.1.1.1 ho.1.1.2 hp hg).of rfl rfl rfl rfl rfl rfl
        · cases h
end Go.Proofs.YtpmjfpdogbcigaaDoor.S2
