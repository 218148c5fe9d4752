/- The evaluator with lists: the whole call; tables of contracts with lists. No word of the program. -/
import Derived.Test.YtpmjfpdogbcigaaDoorS2H
namespace Go.Proofs.YtpmjfpdogbcigaaDoor.S2
open Go Go.RowKit Sim
set_option linter.unusedVariables false
set_option linter.unusedSimpArgs false

/-- A struct's cells at the call's beginning. -/
def initC (fl : List Bool) : Nat → Nat → List (Sum Value LE) → List CV × List LE
  | _, _, [] => ([], [])
  | k, m, .inl v :: r => (.v [(fl[k]?).getD false] v :: (initC fl (k + 1) m r).1, (initC fl (k + 1) m r).2)
  | k, m, .inr e :: r => (.l m :: (initC fl (k + 1) (m + 1) r).1, { e with own := false, dead := false } :: (initC fl (k + 1) (m + 1) r).2)
/-- The slots' contents and the table at the call's beginning. -/
def initX (fls : List (List Bool)) : Nat → Nat → List XV → List SV × List LE
  | _, _, [] => ([], [])
  | i, m, .inl v :: r => (.inl ((fls[i]?).getD [], v) :: (initX fls (i + 1) m r).1, (initX fls (i + 1) m r).2)
  | i, m, .inr e :: r => (.c m :: (initX fls (i + 1) (m + 1) r).1, { e with own := false, dead := false } :: (initX fls (i + 1) (m + 1) r).2)
  | i, m, .st cs :: r => (.st (initC ((fls[i]?).getD []) 0 m cs).1 :: (initX fls (i + 1) (m + (initC ((fls[i]?).getD []) 0 m cs).2.length) r).1, (initC ((fls[i]?).getD []) 0 m cs).2 ++ (initX fls (i + 1) (m + (initC ((fls[i]?).getD []) 0 m cs).2.length) r).2)
def notSl : Value → Bool
  | .slice _ _ _ => false
  | _ => true
/-- Cells among the results; the lists that are handed out already. -/
def outK (s : St) (ks0 : List Nat) : List CV → Option (List (Sum Value LE) × List Nat)
  | [] => some ([], ks0)
  | .v _ v :: r => bif notSl v then (match outK s ks0 r with
    | some (l, ks) => some (.inl v :: l, ks)
    | none => none) else none
  | .l k :: r => match getL s k, outK s ks0 r with
    | some e, some (l, ks) => bif e.own && !(ks.any fun y => Nat.beq k y) then some (.inr e :: l, k :: ks) else none
    | _, _ => none
  | .a _ _ :: _ => none
def cvT : TV → List CV
  | .inl (fl, v) => [.v fl v]
  | .inr k => [.l k]
  | .st cs => cs
def mkX : TV → List (Sum Value LE) → Option XV
  | .inl _, [.inl v] => some (.inl v)
  | .inr _, [.inr e] => some (.inr e)
  | .st _, l => some (.st l)
  | _, _ => none
def outT (s : St) : List TV → Option (List XV × List Nat)
  | [] => some ([], [])
  | x :: r => match outT s r with
    | some (l, ks) => match outK s ks (cvT x) with
      | some (c, ks') => match mkX x c with
        | some y => some (y :: l, ks')
        | none => none
      | none => none
    | none => none
def outS (s : St) : SV → Option (Bool × List XV)
  | .inl (_, v) => some (false, [.inl v])
  | .c k => match outT s [.inr k] with
    | some (l, _) => some (false, l)
    | none => none
  | .tp l => match outT s l with
    | some (l, _) => some (true, l)
    | none => none
  | .st cs => match outT s [.st cs] with
    | some (l, _) => some (false, l)
    | none => none
  | _ => none
abbrev Res := Bool × List XV × List (Bool × Bool) × List Told
noncomputable def simF (E : Env) (fuel d : Nat) (plan : List Stop) (orc : List Bool) (f : FuncId) (fls : List (List Bool)) (args : List XV) : Option Res :=
  match E.P.funcs[f]? with
  | some fn => match fn.body with
    | some c => match simP E fuel (args.length + (fn.ntmps - args.length)) d plan [] c { tmps := initS 0 (initX fls 0 0 args).1, own := ⟨[], (initX fls 0 0 args).2⟩, lo := 0, llo := (initX fls 0 0 args).2.length, mem := false, orc := orc, obl := [] } with
      | some (x, s', [], tr) => bif (match x with | some (some _) => false | _ => true) then (match simRes E.P fn s' with
        | some r => match outS s' r with
          | some (tup, res) => some (tup, res, s'.obl, tr)
          | none => none
        | none => none) else none
      | _ => none
    | none => none
  | none => none
def listValsC : List (Sum Value LE) → List Value → List Value
  | .inl _ :: r, _ :: vs => listValsC r vs
  | .inr _ :: r, v :: vs => v :: listValsC r vs
  | _, _ => []
def listVals : List XV → List Value → List Value
  | .inl _ :: r, _ :: vs => listVals r vs
  | .inr _ :: r, v :: vs => v :: listVals r vs
  | .st cs :: r, v :: vs => listValsC cs v.cells.toList ++ listVals r vs
  | _, _ => []
theorem initC_ok {fl : List Bool} {w : World} {ν : Nu} : ∀ (cs : List (Sum Value LE)) (us : List Value) (k m : Nat), CellsOk w cs us → (∀ (j : Nat) v, (listValsC cs us)[j]? = some v → ν.v (m + j) = v) →
    (initC fl k m cs).1.map (concC ν) = us ∧ (∀ (j : Nat) e, (initC fl k m cs).2[j]? = some e → e.own = false ∧ InB w.heap.size w e (ν.v (m + j))) ∧ (∀ y ∈ (initC fl k m cs).1, okC 0 (m + (initC fl k m cs).2.length) y) ∧ (initC fl k m cs).2.length = (listValsC cs us).length
  | [], [], k, m, _, _ => ⟨rfl, fun j e h => by simp [initC] at h, fun y hy => by simp [initC] at hy, rfl⟩
  | [], _ :: _, _, _, h, _ => h.elim
  | .inl x :: r, [], _, _, h, _ => h.elim
  | .inr e :: r, [], _, _, h, _ => h.elim
  | .inl x :: r, v :: vs, k, m, h, hν => by
    obtain ⟨h1, h2, h3, h4⟩ := initC_ok (fl := fl) r vs (k + 1) m h.2 hν
    refine ⟨?_, h2, fun y hy => ?_, h4⟩
    · show x :: (initC fl (k + 1) m r).1.map (concC ν) = _
      rw [h1, show v = x from h.1]
    · rcases List.mem_cons.mp (show y ∈ .v [(fl[k]?).getD false] x :: (initC fl (k + 1) m r).1 from hy) with rfl | hy
      · trivial
      · exact h3 y hy
  | .inr e :: r, v :: vs, k, m, h, hν => by
    obtain ⟨h1, h2, h3, h4⟩ := initC_ok (fl := fl) (ν := ν) r vs (k + 1) (m + 1) h.2 (fun j u hj => by
      have := hν (j + 1) u (by simpa [listValsC] using hj)
      rw [← this]; congr 1; omega)
    have hv : ν.v m = v := hν 0 v rfl
    refine ⟨?_, fun j e' hj => ?_, fun y hy => ?_, ?_⟩
    · show ν.v m :: (initC fl (k + 1) (m + 1) r).1.map (concC ν) = _
      rw [h1, hv]
    · cases j with
      | zero =>
        have : e' = { e with own := false, dead := false } := by
          have : some ({ e with own := false, dead := false } : LE) = some e' := hj
          simpa using this.symm
        subst this
        refine ⟨rfl, ?_⟩
        rw [Nat.add_zero, hv]; exact h.1
      | succ j =>
        obtain ⟨k1, k2⟩ := h2 j e' hj
        exact ⟨k1, by rw [show m + (j + 1) = m + 1 + j by omega]; exact k2⟩
    · rcases List.mem_cons.mp (show y ∈ .l m :: (initC fl (k + 1) (m + 1) r).1 from hy) with rfl | hy
      · show m < m + ((initC fl (k + 1) (m + 1) r).2.length + 1); omega
      · exact (h3 y hy).mono (Nat.le_refl _) (by show m + 1 + _ ≤ m + ((initC fl (k + 1) (m + 1) r).2.length + 1); omega)
    · show (initC fl (k + 1) (m + 1) r).2.length + 1 = (listValsC r vs).length + 1
      rw [h4]
theorem initX_ok {fls : List (List Bool)} {w : World} {ν : Nu} : ∀ (args : List XV) (vals : List Value) (i m : Nat), ArgsOk w args vals → (∀ (j : Nat) v, (listVals args vals)[j]? = some v → ν.v (m + j) = v) →
    IsL ν (initX fls i m args).1 vals ∧ (∀ (j : Nat) e, (initX fls i m args).2[j]? = some e → e.own = false ∧ InB w.heap.size w e (ν.v (m + j))) ∧ (∀ y ∈ (initX fls i m args).1, okV 0 (m + (initX fls i m args).2.length) y) ∧ (initX fls i m args).1.length = args.length
  | [], [], i, m, _, _ => ⟨trivial, fun j e h => by simp [initX] at h, fun y hy => by simp [initX] at hy, rfl⟩
  | [], _ :: _, _, _, h, _ => h.elim
  | .inl x :: r, [], _, _, h, _ => h.elim
  | .inr e :: r, [], _, _, h, _ => h.elim
  | .st cs :: r, [], _, _, h, _ => h.elim
  | .st cs :: r, v :: vs, i, m, h, hν => by
    obtain ⟨⟨us, rfl, hc⟩, hr⟩ := h
    have hcells : (Value.agg us.toArray).cells.toList = us := rfl
    obtain ⟨c1, c2, c3, c4⟩ := initC_ok (fl := (fls[i]?).getD []) (ν := ν) cs us 0 m hc (fun j u hj => hν j u (by
      show (listValsC cs us ++ listVals r vs)[j]? = some u
      rw [List.getElem?_append_left (lt_of_some_list hj)]; exact hj))
    obtain ⟨h1, h2, h3, h4⟩ := initX_ok (fls := fls) (ν := ν) r vs (i + 1) (m + (initC ((fls[i]?).getD []) 0 m cs).2.length) hr (fun j u hj => by
      have := hν ((listValsC cs us).length + j) u (by
        show (listValsC cs us ++ listVals r vs)[_]? = some u
        rw [List.getElem?_append_right (by omega), Nat.add_sub_cancel_left]; exact hj)
      rw [← this, c4]; congr 1; omega)
    refine ⟨⟨?_, h1⟩, fun j e' hj => ?_, fun y hy => ?_, ?_⟩
    · show Value.agg us.toArray = .agg ((initC ((fls[i]?).getD []) 0 m cs).1.map (concC ν)).toArray
      rw [c1]
    · have hj : ((initC ((fls[i]?).getD []) 0 m cs).2 ++ (initX fls (i + 1) (m + (initC ((fls[i]?).getD []) 0 m cs).2.length) r).2)[j]? = some e' := hj
      rcases Nat.lt_or_ge j (initC ((fls[i]?).getD []) 0 m cs).2.length with hl | hl
      · rw [List.getElem?_append_left hl] at hj; exact c2 j e' hj
      · rw [List.getElem?_append_right hl] at hj
        obtain ⟨k1, k2⟩ := h2 _ e' hj
        exact ⟨k1, by rw [show m + j = m + (initC ((fls[i]?).getD []) 0 m cs).2.length + (j - (initC ((fls[i]?).getD []) 0 m cs).2.length) by omega]; exact k2⟩
    · have hle : m + ((initC ((fls[i]?).getD []) 0 m cs).2 ++ (initX fls (i + 1) (m + (initC ((fls[i]?).getD []) 0 m cs).2.length) r).2).length = m + (initC ((fls[i]?).getD []) 0 m cs).2.length + (initX fls (i + 1) (m + (initC ((fls[i]?).getD []) 0 m cs).2.length) r).2.length := by rw [List.length_append]; omega
      show okV 0 (m + ((initC ((fls[i]?).getD []) 0 m cs).2 ++ (initX fls (i + 1) (m + (initC ((fls[i]?).getD []) 0 m cs).2.length) r).2).length) y
      rw [hle]
      rcases List.mem_cons.mp (show y ∈ .st (initC ((fls[i]?).getD []) 0 m cs).1 :: (initX fls (i + 1) (m + (initC ((fls[i]?).getD []) 0 m cs).2.length) r).1 from hy) with rfl | hy
      · exact fun c hc => (c3 c hc).mono (Nat.le_refl _) (by omega)
      · exact h3 y hy
    · show ((initX fls (i + 1) (m + (initC ((fls[i]?).getD []) 0 m cs).2.length) r).1.length + 1) = _
      rw [h4]; rfl
  | .inl x :: r, v :: vs, i, m, h, hν => by
    obtain ⟨h1, h2, h3, h4⟩ := initX_ok (fls := fls) r vs (i + 1) m h.2 hν
    refine ⟨⟨h.1, h1⟩, h2, fun y hy => ?_, ?_⟩
    · rcases List.mem_cons.mp (show y ∈ .inl ((fls[i]?).getD [], x) :: (initX fls (i + 1) m r).1 from hy) with rfl | hy
      · trivial
      · exact h3 y hy
    · show ((initX fls (i + 1) m r).1.length + 1) = _
      rw [h4]; rfl
  | .inr e :: r, v :: vs, i, m, h, hν => by
    obtain ⟨h1, h2, h3, h4⟩ := initX_ok (fls := fls) (ν := ν) r vs (i + 1) (m + 1) h.2 (fun j u hj => by
      have := hν (j + 1) u (by simpa [listVals] using hj)
      rw [← this]; congr 1; omega)
    have hv : ν.v m = v := hν 0 v rfl
    refine ⟨⟨hv.symm, h1⟩, fun j e' hj => ?_, fun y hy => ?_, ?_⟩
    · cases j with
      | zero =>
        have : e' = { e with own := false, dead := false } := by
          have : some ({ e with own := false, dead := false } : LE) = some e' := hj
          simpa using this.symm
        subst this
        refine ⟨rfl, ?_⟩
        rw [Nat.add_zero, hv]; exact h.1
      | succ j =>
        obtain ⟨k1, k2⟩ := h2 j e' hj
        exact ⟨k1, by rw [show m + (j + 1) = m + 1 + j by omega]; exact k2⟩
    · rcases List.mem_cons.mp (show y ∈ .c m :: (initX fls (i + 1) (m + 1) r).1 from hy) with rfl | hy
      · show m < m + ((initX fls (i + 1) (m + 1) r).2.length + 1); omega
      · exact (h3 y hy).mono (Nat.le_refl _) (by show m + 1 + _ ≤ m + ((initX fls (i + 1) (m + 1) r).2.length + 1); omega)
    · show ((initX fls (i + 1) (m + 1) r).1.length + 1) = _
      rw [h4]; rfl
/-- What is handed out: whose rows these are. -/
def Given (s : St) (ν : Nu) (us : List Value) (ks : List Nat) : Prop := ∀ u ∈ us, ∀ g, u.ownBlock = some g → ∃ k ∈ ks, ν.v k = u ∧ ∃ e, s.own.l[k]? = some e ∧ e.dead = false ∧ e.own = true
theorem outK_ok {s : St} {w0 : Base} {w : World} {ν : Nu} {mem : Bool} (hw : WR w0 ν s.own mem w) {ks0 : List Nat} {c0 : List (Sum Value LE)} {us0 : List Value} (h0 : CellsOut w0.heap.size w c0 us0) (g0 : Given s ν us0 ks0) :
    ∀ (l : List CV) (c : List (Sum Value LE)) (ks : List Nat), outK s ks0 l = some (c, ks) → CellsOut w0.heap.size w (c ++ c0) (l.map (concC ν) ++ us0) ∧ Given s ν (l.map (concC ν) ++ us0) ks ∧ c.length = l.length
  | [], c, ks, h => by simp only [outK, Option.some.injEq, Prod.mk.injEq] at h; obtain ⟨rfl, rfl⟩ := h; exact ⟨h0, g0, rfl⟩
  | .v fl v :: r, c, ks, h => by
    unfold outK at h
    cases hn : notSl v
    · rw [hn] at h; cases h
    · rw [hn] at h
      simp only [cond_true] at h
      split at h
      · rename_i l ks' hr
        simp only [Option.some.injEq, Prod.mk.injEq] at h
        obtain ⟨rfl, rfl⟩ := h
        obtain ⟨h1, h2, h3⟩ := outK_ok hw h0 g0 r l ks' hr
        refine ⟨⟨rfl, h1⟩, fun u hu g hg => ?_, by simp [h3]⟩
        rcases List.mem_cons.mp (show u ∈ v :: (r.map (concC ν) ++ us0) from hu) with rfl | hu
        · exfalso
          cases u <;> first | (cases hg; done) | (cases hn; done)
        · exact h2 u hu g hg
      · cases h
  | .l k :: r, c, ks, h => by
    unfold outK at h
    split at h
    · rename_i e l ks' he hr
      cases hb : (e.own && !(ks'.any fun y => Nat.beq k y))
      · rw [hb] at h; cases h
      · rw [hb] at h
        simp only [cond_true, Option.some.injEq, Prod.mk.injEq] at h
        obtain ⟨rfl, rfl⟩ := h
        simp only [Bool.and_eq_true, Bool.not_eq_true', List.any_eq_false] at hb
        obtain ⟨hk, hd⟩ := getL_some he
        obtain ⟨h1, h2, h3⟩ := outK_ok hw h0 g0 r l ks' hr
        refine ⟨⟨⟨hw.row hk hd hb.1, fun g hg u hu hug => ?_⟩, h1⟩, fun u hu g hg => ?_, by simp [h3]⟩
        · obtain ⟨k', hk', hv', e', he', hd', ho'⟩ := h2 u hu g hug
          have hne : k' ≠ k := fun e => hb.2 k' hk' (by rw [e]; simp)
          refine (hw.sep k e hk hd hb.1 g hg).2 k' e' he' hd' ho' hne ?_
          rw [hv']; exact hug
        · rcases List.mem_cons.mp (show u ∈ ν.v k :: (r.map (concC ν) ++ us0) from hu) with rfl | hu
          · exact ⟨k, List.mem_cons_self, rfl, e, hk, hd, hb.1⟩
          · obtain ⟨k', hk', rest⟩ := h2 u hu g hg
            exact ⟨k', List.mem_cons_of_mem _ hk', rest⟩
    · cases h
  | .a _ _ :: r, c, ks, h => by simp [outK] at h
theorem outT_ok {s : St} {w0 : Base} {w : World} {ν : Nu} {mem : Bool} (hw : WR w0 ν s.own mem w) : ∀ (l : List TV) (xs : List XV) (ks : List Nat), outT s l = some (xs, ks) →
    ∃ us, Shape xs (l.map (concT ν)) us ∧ CellsOut w0.heap.size w (flatX xs) us ∧ Given s ν us ks
  | [], xs, ks, h => by
    simp only [outT, Option.some.injEq, Prod.mk.injEq] at h
    obtain ⟨rfl, rfl⟩ := h
    exact ⟨[], ⟨rfl, rfl⟩, trivial, fun u hu => by cases hu⟩
  | x :: r, xs, ks, h => by
    unfold outT at h
    split at h
    · rename_i l ks1 hr
      split at h
      · rename_i c ks2 hc
        split at h
        · rename_i y hy
          simp only [Option.some.injEq, Prod.mk.injEq] at h
          obtain ⟨rfl, rfl⟩ := h
          obtain ⟨us, s1, s2, s3⟩ := outT_ok hw r l ks1 hr
          obtain ⟨k1, k2, k3⟩ := outK_ok hw s2 s3 (cvT x) c ks2 hc
          refine ⟨(cvT x).map (concC ν) ++ us, ?_, ?_, k2⟩
          · cases x with
            | inl p =>
              unfold mkX at hy
              split at hy <;> first | (cases hy; done) | skip
              all_goals (simp only [Option.some.injEq] at hy; subst hy)
              · exact ⟨_, _, _, rfl, rfl, s1⟩
              · rename_i heq; cases heq
              · rename_i heq; cases heq
            | inr k =>
              unfold mkX at hy
              split at hy <;> first | (cases hy; done) | skip
              all_goals (simp only [Option.some.injEq] at hy; subst hy)
              · rename_i heq; cases heq
              · exact ⟨_, _, _, rfl, rfl, s1⟩
              · rename_i heq; cases heq
            | st cs =>
              simp only [mkX, Option.some.injEq] at hy
              subst hy
              exact ⟨cs.map (concC ν), _, _, rfl, rfl, by rw [List.length_map]; exact k3.symm, s1⟩
          · have hf : flatX (y :: l) = c ++ flatX l := by
              unfold mkX at hy
              split at hy <;> first | (cases hy; done) | skip
              all_goals (simp only [Option.some.injEq] at hy; subst hy; rfl)
            rw [hf]; exact k1
        · cases h
      · cases h
    · cases h
theorem outS_ok {s : St} {w0 : Base} {w : World} {ν : Nu} {mem : Bool} (hw : WR w0 ν s.own mem w) {x : SV} {tup : Bool} {xs : List XV} (h : outS s x = some (tup, xs)) {v : Value} (hv : Is ν x v) : ∃ vs, v = outV tup vs ∧ OutOk w0.heap.size w xs vs := by
  unfold outS at h
  split at h
  · rename_i u
    simp only [Option.some.injEq, Prod.mk.injEq] at h
    obtain ⟨rfl, rfl⟩ := h
    exact ⟨[v], rfl, [v], ⟨v, [], [], rfl, rfl, rfl, rfl⟩, hv, trivial⟩
  · rename_i k
    split at h
    · rename_i l ks hl
      simp only [Option.some.injEq, Prod.mk.injEq] at h
      obtain ⟨rfl, rfl⟩ := h
      obtain ⟨us, s1, s2, _⟩ := outT_ok hw _ _ _ hl
      exact ⟨[ν.v k], hv, us, s1, s2⟩
    · cases h
  · rename_i l
    split at h
    · rename_i l' ks hl
      simp only [Option.some.injEq, Prod.mk.injEq] at h
      obtain ⟨rfl, rfl⟩ := h
      obtain ⟨us, s1, s2, _⟩ := outT_ok hw _ _ _ hl
      exact ⟨l.map (concT ν), hv, us, s1, s2⟩
    · cases h
  · rename_i cs
    split at h
    · rename_i l ks hl
      simp only [Option.some.injEq, Prod.mk.injEq] at h
      obtain ⟨rfl, rfl⟩ := h
      obtain ⟨us, s1, s2, _⟩ := outT_ok hw _ _ _ hl
      exact ⟨[.agg (cs.map (concC ν)).toArray], hv, us, s1, s2⟩
    · cases h
  · cases h
theorem fn_ok {E : Env} (HC : CallOk E) {fuel d : Nat} {plan : List Stop} {orc : List Bool} {f : FuncId} {fls : List (List Bool)} {args : List XV} {tup : Bool} {res : List XV} {l : List (Bool × Bool)} {tr : List Told}
    (h : simF E fuel d plan orc f fls args = some (tup, res, l, tr)) (hl : ∀ p ∈ l, p.1 = p.2) {fn : Func} (hfn : E.P.funcs[f]? = some fn) (w : World) (vals : List Value) (hG : Glob E w) (ha : ArgsOk w args vals)
    (htr : ∀ t ∈ tr, Sem E w (args.length + (fn.ntmps - args.length)) t.c t.s t.x t.s') : LRet E.P f vals tup res w := by
  unfold simF at h
  split at h
  · rename_i fn' hf
    rw [hfn] at hf
    obtain rfl := Option.some.inj hf
    split at h
    · rename_i c hbody
      split at h
      · rename_i x s' tr' hs
        cases hx : (match x with | some (some _) => false | _ => true)
        · rw [hx] at h; cases h
        · rw [hx] at h
          simp only [cond_true] at h
          split at h
          · rename_i r hr
            split at h
            · rename_i tup' res' hout
              simp only [Option.some.injEq, Prod.mk.injEq] at h
              obtain ⟨rfl, rfl, rfl, rfl⟩ := h
              let ν : Nu := ⟨fun _ => 0, fun k => ((listVals args vals)[k]?).getD undef⟩
              obtain ⟨i1, i2, i3, i4⟩ := initX_ok (fls := fls) (ν := ν) args vals 0 0 ha (fun j v hj => by show ((listVals args vals)[0 + j]?).getD undef = v; rw [Nat.zero_add, hj]; rfl)
              simp only [Nat.zero_add] at i2 i3
              have hg : Good { tmps := initS 0 (initX fls 0 0 args).1, own := ⟨[], (initX fls 0 0 args).2⟩, lo := 0, llo := (initX fls 0 0 args).2.length, mem := false, orc := orc, obl := [] } :=
                ⟨Nat.le_refl _, Nat.le_refl _, fun p hp => i3 _ (initS_mem' _ _ p hp), fun i b hi => by simp at hi⟩
              have hwr : WR (base0 w) ν ⟨[], (initX fls 0 0 args).2⟩ false w :=
                ⟨Below.refl _ _, fun i b hi => by simp at hi, fun i b hi => by simp at hi, fun i j hi => by simp at hi, fun k e hk hd => (by
                  obtain ⟨k1, k2⟩ := i2 k e hk
                  unfold LOk
                  rw [k1]; exact k2), fun k e hk hd ho => (by
                  rw [(i2 k e hk).1] at ho; exact absurd ho (by simp)), (fun _ => rfl), .void _ _ _⟩
              obtain ⟨_, _, _, hsem⟩ := simP_okA (w0 := base0 w) HC (.of hG) d plan [] c _ x s' [] tr' hg (.zero _) (okStop_zero _) hs
              have htr' := tr_init (args := (initX fls 0 0 args).1) i1 fn.ntmps { tmps := initS 0 (initX fls 0 0 args).1, own := ⟨[], (initX fls 0 0 args).2⟩, lo := 0, llo := (initX fls 0 0 args).2.length, mem := false, orc := orc, obl := [] }
              rw [i4] at htr'
              refine calls_of_wp hfn hbody (hsem hl htr _ ν _ w htr' hwr fun ν' a' w' _ ht' hw' => ?_)
              obtain ⟨v, hv, hres⟩ := simRes_ok hr ht' hw'
              obtain ⟨vs, rfl, hok⟩ := outS_ok hw' hout hv
              rcases x with _ | _ | i
              · exact bodyPost_end hres ht'.df ⟨vs, rfl, hok, hw'.below⟩
              · exact bodyPost_ret hres ht'.df ⟨vs, rfl, hok, hw'.below⟩
              · cases hx
            · cases h
          · cases h
      · cases h
    · cases h
  · cases h

/-! ### A body that works on memory of its caller's -/
noncomputable def simFS (E : Env) (fuel d : Nat) (plan : List Stop) (orc : List Bool) (f : FuncId) (args : List SV) (own : Mem) : Option (SV × Mem × List (Bool × Bool) × List Told) :=
  match E.P.funcs[f]? with
  | some fn => match fn.body with
    | some c => match simP E fuel (args.length + (fn.ntmps - args.length)) d plan [] c { tmps := initS 0 args, own := own, lo := 0, llo := 0, mem := true, orc := orc, obl := [] } with
      | some (x, s', [], tr) => bif (match x with | some (some _) => false | _ => true) then (match simRes E.P fn s' with
        | some r => some (r, s'.own, s'.obl, tr)
        | none => none) else none
      | _ => none
    | none => none
  | none => none
/-- Are the arguments and the memory fit, and do the stops keep their numbers? -/
def fitS2 (args : List SV) (own : Mem) (plan : List Stop) : Bool := args.all (okVB own.b.length own.l.length) && (own.b.all fun b => b.cells.all (okVB own.b.length own.l.length)) && plan.all (okStop own.b.length own.l.length)
theorem fnS_ok {E : Env} (HC : CallOk E) (hbt : E.bt = none) {fuel d : Nat} {plan : List Stop} {orc : List Bool} {f : FuncId} {args : List SV} {own own' : Mem} {r : SV} {l : List (Bool × Bool)} {tr : List Told}
    (hfit : fitS2 args own plan = true) (h : simFS E fuel d plan orc f args own = some (r, own', l, tr)) (hl : ∀ p ∈ l, p.1 = p.2) {fn : Func} (hfn : E.P.funcs[f]? = some fn)
    (htr : ∀ (w0 : Base), GlobB E w0 → ∀ t ∈ tr, SemA E w0 own.b.length own.l.length (args.length + (fn.ntmps - args.length)) t.c t.s t.x t.s') : SemF E.P E.glob f args own r own' := fun w0 hG0 ν w vs hvs hw => by
  have hG : GlobB E w0 := ⟨hG0, fun h => by rw [hbt] at h; cases h⟩
  unfold fitS2 at hfit
  simp only [Bool.and_eq_true, List.all_eq_true] at hfit
  obtain ⟨⟨f1, f2⟩, f3⟩ := hfit
  unfold simFS at h
  split at h
  · rename_i fn' hf
    rw [hfn] at hf
    obtain rfl := Option.some.inj hf
    split at h
    · rename_i c hbody
      split at h
      · rename_i x s' tr' hs
        cases hx : (match x with | some (some _) => false | _ => true)
        · rw [hx] at h; cases h
        · rw [hx] at h
          simp only [cond_true] at h
          split at h
          · rename_i r' hr
            simp only [Option.some.injEq, Prod.mk.injEq] at h
            obtain ⟨rfl, rfl, rfl, rfl⟩ := h
            have hg : Good { tmps := initS 0 args, own := own, lo := 0, llo := 0, mem := true, orc := orc, obl := [] } :=
              ⟨Nat.zero_le _, Nat.zero_le _, fun p hp => okVB_ok (f1 _ (initS_mem' _ _ p hp)), fun i b hi c hc => okVB_ok (f2 b (List.mem_of_getElem? hi) c hc)⟩
            obtain ⟨_, _, _, hsem⟩ := simP_okA (w0 := w0) HC hG d plan [] c _ x s' [] tr' hg ⟨Nat.le_refl _, Nat.le_refl _⟩ f3 hs
            have ht := tr_init hvs fn.ntmps { tmps := initS 0 args, own := own, lo := 0, llo := 0, mem := true, orc := orc, obl := [] }
            refine calls_of_wp hfn hbody (hsem hl (htr w0 hG) _ ν _ w ht hw fun ν' a' w' ha ht' hw' => ?_)
            have hmem : WR w0 ν' s'.own true w' := hw'.mem
            obtain ⟨v, hv, hres⟩ := simRes_ok hr ht' hw'
            rcases x with _ | _ | i
            · exact bodyPost_end hres ht'.df ⟨ν', v, ha, rfl, hv, hmem⟩
            · exact bodyPost_ret hres ht'.df ⟨ν', v, ha, rfl, hv, hmem⟩
            · cases hx
          · cases h
      · cases h
    · cases h
  · cases h
theorem SemF.same {P : Program} {gl : Nat → Option (List Value)} {f : FuncId} {args : List SV} {own own' own2 : Mem} {r : SV} (h : SemF P gl f args own r own') (hb : own'.b = own2.b) (hl : sameL own'.l own2.l) : SemF P gl f args own r own2 := fun w0 hG ν w vs hvs hw =>
  (h w0 hG ν w vs hvs hw).mono fun e w' ⟨ν', v, h1, h2, h3, h4⟩ => ⟨ν', v, h1, h2, h3, h4.alike hb hl⟩
theorem sameL_flip : ∀ {l l' : List LE}, sameL l l' → sameL l' l
  | [], [], _ => trivial
  | e :: r, e2 :: r', h => ⟨⟨h.1.1.symm, h.1.2.1.symm, h.1.2.2.1.symm, h.1.2.2.2.1.symm, h.1.2.2.2.2.1.symm, fun i hi => (h.1.2.2.2.2.2 i (by rw [h.1.2.2.1]; exact hi)).symm⟩, sameL_flip h.2⟩
  | [], _ :: _, h => h.elim
  | _ :: _, [], h => h.elim
theorem SemF.from {P : Program} {gl : Nat → Option (List Value)} {f : FuncId} {args : List SV} {own own2 own' : Mem} {r : SV} (h : SemF P gl f args own r own') (hb : own2.b = own.b) (hl : sameL own2.l own.l) : SemF P gl f args own2 r own' := fun w0 hG ν w vs hvs hw =>
  (h w0 hG ν w vs hvs (hw.alike hb hl)).mono fun e w' ⟨ν', v, h1, h2, h3, h4⟩ => ⟨ν', v, by show Agree own2.b.length own2.l.length ν ν'; rw [hb, sameL_len hl]; exact h1, h2, h3, h4⟩
theorem SemF.anyGlob {P : Program} {gl : Nat → Option (List Value)} {f : FuncId} {args : List SV} {own own' : Mem} {x : SV} (h : SemF P (fun _ => none) f args own x own') : SemF P gl f args own x own' := fun w0 _ => h w0 (GlobOk.none _)
/-- Marks do not count. -/
theorem semF_reblk {P : Program} {gl : Nat → Option (List Value)} {f : FuncId} {args : List SV} {own own' own2 : Mem} {x : SV} (h : SemF P gl f args own x own') (hl : own2.l = own'.l) (hb : ∀ ν, own2.b.map (fun b => (concB ν b.cells, b.elem, b.kd)) = own'.b.map (fun b => (concB ν b.cells, b.elem, b.kd)))
    (hok : (own2.b.all fun b => b.cells.all (okVB own2.b.length own2.l.length)) = true) : SemF P gl f args own x own2 := fun w0 hG ν w vs hvs hw =>
  (h w0 hG ν w vs hvs hw).mono fun e w' ⟨ν', v, h1, h2, h3, h4⟩ => ⟨ν', v, h1, h2, h3, h4.reblk hl (by have := congrArg List.length (hb ν'); simpa using this) (fun i b' hi => by
    have e := congrArg (fun l => l[i]?) (hb ν')
    simp only [List.getElem?_map, hi, Option.map_some] at e
    obtain ⟨b, hb, e2⟩ := Option.map_eq_some_iff.mp e.symm
    simp only [Prod.mk.injEq] at e2
    exact ⟨b, hb, e2.1.symm, e2.2.1.symm, e2.2.2.symm⟩) (fun i b hi c hc => okVB_ok (List.all_eq_true.mp (List.all_eq_true.mp hok b (List.mem_of_getElem? hi)) c hc))⟩
theorem semF_pre {P : Program} {gl : Nat → Option (List Value)} {f : FuncId} {args : List SV} {own own' own2 : Mem} {x : SV} (h : SemF P gl f args own x own') (hl : sameL own2.l own.l) (hb : ∀ ν, own2.b.map (fun b => (concB ν b.cells, b.elem, b.kd)) = own.b.map (fun b => (concB ν b.cells, b.elem, b.kd)))
    (hok : (own.b.all fun b => b.cells.all (okVB own.b.length own.l.length)) = true) : SemF P gl f args own2 x own' := fun w0 hG ν w vs hvs hw => by
  have hlen : own.b.length = own2.b.length := by have := congrArg List.length (hb ν); simpa using this.symm
  have hw1 : WR w0 ν ⟨own2.b, own.l⟩ true w := hw.alike (own' := ⟨own2.b, own.l⟩) rfl hl
  have hw2 : WR w0 ν own true w := hw1.reblk rfl hlen (fun i b' hi => by
    have e := congrArg (fun l => l[i]?) (hb ν)
    simp only [List.getElem?_map, hi, Option.map_some] at e
    obtain ⟨b, hb, e2⟩ := Option.map_eq_some_iff.mp e
    simp only [Prod.mk.injEq] at e2
    exact ⟨b, hb, e2.1.symm, e2.2.1.symm, e2.2.2.symm⟩) (fun i b hi c hc => okVB_ok (List.all_eq_true.mp (List.all_eq_true.mp hok b (List.mem_of_getElem? hi)) c hc))
  exact (h w0 hG ν w vs hvs hw2).mono fun e w' ⟨ν', v, h1, h2, h3, h4⟩ => ⟨ν', v, by show Agree own2.b.length own2.l.length ν ν'; rw [← hlen, sameL_len hl]; exact h1, h2, h3, h4⟩
/-- Tables of callees that change the call's own memory. -/
abbrev ETab := FuncId → Option (List SV → Mem → Option Eff)
def erow (k : FuncId) (dec : List SV → Mem → Option Eff) : ETab := fun f => bif Nat.beq f k then some dec else none
def orE (c1 c2 : ETab) : ETab := fun f => match c1 f with
  | some g => some g
  | none => c2 f
theorem EffOk.row {P : Program} {gl : Nat → Option (List Value)} {k : FuncId} {dec : List SV → Mem → Option Eff} (h : ∀ args own r, dec args own = some r → r.ok = true → SemF P gl k args own r.x (applyE own r)) : EffOk P gl (erow k dec) := fun f g args own r hf hg hr => by
  unfold erow at hf
  cases hb : Nat.beq f k
  · rw [hb] at hf; cases hf
  · rw [hb] at hf
    simp only [cond_true, Option.some.injEq] at hf
    subst hf
    have he : f = k := Nat.eq_of_beq_eq_true hb
    subst he
    exact h args own r hg hr
theorem EffOk.or {P : Program} {gl : Nat → Option (List Value)} {c1 c2 : ETab} (h1 : EffOk P gl c1) (h2 : EffOk P gl c2) : EffOk P gl (orE c1 c2) := fun f g args own r hf hg hr => by
  unfold orE at hf
  split at hf
  · rename_i g' hg'
    simp only [Option.some.injEq] at hf
    subst hf
    exact h1 f g' args own r hg' hg hr
  · exact h2 f g args own r hf hg hr
/-- A function's code, and a piece of it by its path (from the end). -/
def codeOf (P : Program) (f : FuncId) : Code := match P.funcs[f]? with
  | some fn => match fn.body with
    | some c => c
    | none => .skip
  | none => .skip
def childC : Nat → Code → Code
  | 0, .seq x _ => x
  | 1, .seq _ y => y
  | 0, .cond _ x _ => x
  | 1, .cond _ _ y => y
  | 0, .block _ x => x
  | 0, .loop x => x
  | _, c => c
def codeAt (c : Code) : List Nat → Code
  | [] => c
  | d :: p => childC d (codeAt c p)
def ntmpsOf (P : Program) (f : FuncId) : Nat := match P.funcs[f]? with
  | some fn => fn.ntmps
  | none => 0
/-! ### What is asked -/
theorem all_nil : ∀ p ∈ ([] : List (Bool × Bool)), p.1 = p.2 := fun _ h => by cases h
theorem all_cons {b c : Bool} {l : List (Bool × Bool)} (h : b = c) (t : ∀ p ∈ l, p.1 = p.2) : ∀ p ∈ (b, c) :: l, p.1 = p.2 := fun p hp => by
  rcases List.mem_cons.mp hp with rfl | hp
  · exact h
  · exact t p hp
theorem ob_inI {x : Int} (h : -9223372036854775808 ≤ x ∧ x ≤ 9223372036854775807) : pre (inI x) = true := by unfold pre inI; exact decide_eq_true h
theorem ob_idx {n : Int} {len : Nat} (h : 0 ≤ n ∧ n < len) : pre (idxB n len) = true := by unfold pre idxB; exact decide_eq_true h
theorem ob_lt {j n : Nat} (h : j < n) : pre (decide (j < n)) = true := by unfold pre; exact decide_eq_true h
theorem ob_app {n m b : Nat} (h : n + m ≤ 1000000000000) (hb : b ≤ 128) (hm : 0 < m) : pre (decide (n + m ≤ maxLen ∧ (n + m) * b ≤ 140737488355328 ∧ 0 < m)) = true := by
  unfold pre
  refine decide_eq_true ⟨Nat.le_trans h (by decide), ?_, hm⟩
  exact Nat.le_trans (Nat.mul_le_mul h hb) (by decide)
theorem ob_yes {p : Prop} [Decidable p] (h : p) : decide p = true := decide_eq_true h
theorem ob_no {p : Prop} [Decidable p] (h : ¬ p) : decide p = false := decide_eq_false h
/-! ### Tables -/
abbrev LTab := FuncId → List XV → Option (Bool × List XV × Bool)
def noL : LTab := fun _ _ => none
def lrow (k : FuncId) (dec : List XV → Option (Bool × List XV × Bool)) : LTab := fun f args => bif Nat.beq f k then dec args else none
def orL (c1 c2 : LTab) : LTab := fun f args => match c1 f args with
  | some v => some v
  | none => c2 f args
def LTabOk (P : Program) (gl : Nat → Option (List Value)) (c : LTab) : Prop := ∀ f args tup res, c f args = some (tup, res, true) → ∀ w vals, GlobOk gl w → ArgsOk w args vals → LRet P f vals tup res w
theorem LTabOk.none (P : Program) (gl : Nat → Option (List Value)) : LTabOk P gl noL := fun _ _ _ _ h => by cases h
theorem LTabOk.row {P : Program} {gl : Nat → Option (List Value)} {k : FuncId} {dec : List XV → Option (Bool × List XV × Bool)} (h : ∀ args tup res, dec args = some (tup, res, true) → ∀ w vals, GlobOk gl w → ArgsOk w args vals → LRet P k vals tup res w) : LTabOk P gl (lrow k dec) := fun f args tup res hv w vals hG ha => by
  unfold lrow at hv
  cases hb : Nat.beq f k
  · rw [hb] at hv; cases hv
  · rw [hb] at hv
    have he : f = k := Nat.eq_of_beq_eq_true hb
    subst he
    exact h args tup res hv w vals hG ha
theorem LTabOk.or {P : Program} {gl : Nat → Option (List Value)} {c1 c2 : LTab} (h1 : LTabOk P gl c1) (h2 : LTabOk P gl c2) : LTabOk P gl (orL c1 c2) := fun f args tup res hv w vals hG ha => by
  unfold orL at hv
  split at hv
  · rename_i u hu
    simp only [Option.some.injEq] at hv
    subst hv
    exact h1 f args tup res hu w vals hG ha
  · exact h2 f args tup res hv w vals hG ha
def env (P : Program) (gl : Nat → Option (List Value)) (c : Tab) (pc : PTab) (lc : LTab) : Env := { P := P, glob := gl, call := c, pcall := pc, lcall := lc }
theorem env_ok {P : Program} {gl : Nat → Option (List Value)} {c : Tab} {pc : PTab} {lc : LTab} (h1 : TabOk P gl c) (h2 : PTabOk P gl pc) (h3 : LTabOk P gl lc) : CallOk (env P gl c pc lc) := ⟨h1, h2, h3, (fun _ _ _ _ h => by cases h), (fun _ _ _ h => by cases h), .none⟩
/-- .. with arithmetic as atoms. -/
def envq (P : Program) (gl : Nat → Option (List Value)) (c : Tab) (pc : PTab) (lc : LTab) : Env := { P := P, glob := gl, call := c, pcall := pc, lcall := lc, opq := true }
theorem envq_ok {P : Program} {gl : Nat → Option (List Value)} {c : Tab} {pc : PTab} {lc : LTab} (h1 : TabOk P gl c) (h2 : PTabOk P gl pc) (h3 : LTabOk P gl lc) : CallOk (envq P gl c pc lc) := ⟨h1, h2, h3, (fun _ _ _ _ h => by cases h), (fun _ _ _ h => by cases h), .none⟩
/-- .. with strings.Builder. -/
def envb (P : Program) (gl : Nat → Option (List Value)) (c : Tab) (pc : PTab) (lc : LTab) (T e : TypeId) (bop : FuncId → Option BOp) (sh : FuncId → Bool) : Env := { P := P, glob := gl, call := c, pcall := pc, lcall := lc, opq := true, bt := some (T, e), bop := bop, shut := sh }
theorem envb_ok {P : Program} {gl : Nat → Option (List Value)} {c : Tab} {pc : PTab} {lc : LTab} {T e : TypeId} {bop : FuncId → Option BOp} {sh : FuncId → Bool} (h1 : TabOk P gl c) (h2 : PTabOk P gl pc) (h3 : LTabOk P gl lc) (h4 : ∀ f op, bop f = some op → BldOk P T e op f) : CallOk (envb P gl c pc lc T e bop sh) :=
  ⟨h1, h2, h3, (fun f op T' e' h1 h2 => by
    simp only [envb, Option.some.injEq, Prod.mk.injEq] at h2
    obtain ⟨rfl, rfl⟩ := h2
    exact h4 f op h1), (fun _ _ _ h => by cases h), .none⟩
/-- A table of callees whose answer's second part nobody tells. -/
def ATabOk (P : Program) (gl : Nat → Option (List Value)) (c : FuncId → List Value → Option (Value × Bool)) : Prop := ∀ f args v, c f args = some (v, true) → ∀ w, GlobOk gl w → Calls P f args.toArray w fun e w' => (∃ u, e = .returned (.tuple #[v, u])) ∧ Below w.heap.size w w'
def enva (P : Program) (gl : Nat → Option (List Value)) (c : Tab) (pc : PTab) (lc : LTab) (ac : FuncId → List Value → Option (Value × Bool)) : Env := { P := P, glob := gl, call := c, pcall := pc, lcall := lc, opq := true, acall := ac }
theorem enva_ok {P : Program} {gl : Nat → Option (List Value)} {c : Tab} {pc : PTab} {lc : LTab} {ac : FuncId → List Value → Option (Value × Bool)} (h1 : TabOk P gl c) (h2 : PTabOk P gl pc) (h3 : LTabOk P gl lc) (h4 : ATabOk P gl ac) : CallOk (enva P gl c pc lc ac) :=
  ⟨h1, h2, h3, (fun _ _ _ _ h => by cases h), h4, .none⟩
/-- .. with such callees. -/
def envf (P : Program) (gl : Nat → Option (List Value)) (c : Tab) (pc : PTab) (lc : LTab) (ef : ETab) : Env := { P := P, glob := gl, call := c, pcall := pc, lcall := lc, opq := true, eff := ef, cut := true }
theorem envf_ok {P : Program} {gl : Nat → Option (List Value)} {c : Tab} {pc : PTab} {lc : LTab} {ef : ETab} (h1 : TabOk P gl c) (h2 : PTabOk P gl pc) (h3 : LTabOk P gl lc) (h4 : EffOk P gl ef) : CallOk (envf P gl c pc lc ef) :=
  ⟨h1, h2, h3, (fun _ _ _ _ h => by cases h), (fun _ _ _ h => by cases h), h4⟩
/-- .. with slice literals as lists. -/
def envl (P : Program) (gl : Nat → Option (List Value)) (c : Tab) (pc : PTab) (lc : LTab) (ef : ETab) : Env := { P := P, glob := gl, call := c, pcall := pc, lcall := lc, opq := true, eff := ef, cut := true, lit := true }
theorem envl_ok {P : Program} {gl : Nat → Option (List Value)} {c : Tab} {pc : PTab} {lc : LTab} {ef : ETab} (h1 : TabOk P gl c) (h2 : PTabOk P gl pc) (h3 : LTabOk P gl lc) (h4 : EffOk P gl ef) : CallOk (envl P gl c pc lc ef) :=
  ⟨h1, h2, h3, (fun _ _ _ _ h => by cases h), (fun _ _ _ h => by cases h), h4⟩
/-- .. with marks of slice literals, arrays at open indices; with or without cut sums. -/
def envk (P : Program) (gl : Nat → Option (List Value)) (nw : Bool) (c : Tab) (pc : PTab) (lc : LTab) : Env := { P := P, glob := gl, call := c, pcall := pc, lcall := lc, opq := true, mks := true, nowrap := nw }
theorem envk_ok {P : Program} {gl : Nat → Option (List Value)} {nw : Bool} {c : Tab} {pc : PTab} {lc : LTab} (h1 : TabOk P gl c) (h2 : PTabOk P gl pc) (h3 : LTabOk P gl lc) : CallOk (envk P gl nw c pc lc) := ⟨h1, h2, h3, (fun _ _ _ _ h => by cases h), (fun _ _ _ h => by cases h), .none⟩
/-- A plain result. -/
theorem LRet.plain {P : Program} {f : FuncId} {vals : List Value} {v : Value} {w : World} (h : LRet P f vals false [.inl v] w) : Ret P f vals.toArray v w := h.mono fun e w' ⟨vs, he, ho, hb⟩ => by
  obtain rfl := outOk_v ho
  exact ⟨he, hb⟩
theorem outOk_one {B : Nat} {w : World} {e : LE} {v : Value} (h : OwnB B w e v) : OutOk B w [.inr e] [v] := ⟨[v], ⟨v, [], [], rfl, rfl, rfl, rfl⟩, ⟨h, fun _ _ u hu => by cases hu⟩, trivial⟩
theorem outOk_val (B : Nat) (w : World) (x : Value) : OutOk B w [.inl x] [x] := ⟨[x], ⟨x, [], [], rfl, rfl, rfl, rfl⟩, rfl, trivial⟩
theorem ArgsOk.plain {w : World} : ∀ (l : List Value), ArgsOk w (l.map .inl) l
  | [] => trivial
  | v :: r => ⟨rfl, ArgsOk.plain r⟩
end Go.Proofs.YtpmjfpdogbcigaaDoor.S2
namespace Go.Proofs.YtpmjfpdogbcigaaDoor
open Go Go.RowKit Sim S2
noncomputable def propB (p : Prop) : Bool := @decide p (Classical.propDecidable p)
theorem propB_ok {p : Prop} : pre (propB p) = true ↔ p := by unfold pre propB; exact @decide_eq_true_iff p (Classical.propDecidable p)
end Go.Proofs.YtpmjfpdogbcigaaDoor
