/- The evaluator with lists: the whole call; tables of contracts with lists. No word of the program. -/
import Derived.Test.YtcofdcpadbpmnaaS2H
namespace Go.Proofs.Ytcofdcpadbpmnaa.S2
open Go Go.RowKit Sim
set_option linter.unusedVariables false
set_option linter.unusedSimpArgs false

/-- The slots' contents and the table at the call's beginning. -/
def initX (fls : List (List Bool)) : Nat → Nat → List XV → List SV × List LE
  | _, _, [] => ([], [])
  | i, m, .inl v :: r => (.inl ((fls[i]?).getD [], v) :: (initX fls (i + 1) m r).1, (initX fls (i + 1) m r).2)
  | i, m, .inr e :: r => (.c m :: (initX fls (i + 1) (m + 1) r).1, { e with own := false, dead := false } :: (initX fls (i + 1) (m + 1) r).2)
def notSl : Value → Bool
  | .slice _ _ _ => false
  | _ => true
def outT (s : St) : List (Sum (List Bool × Value) Nat) → Option (List XV × List Nat)
  | [] => some ([], [])
  | .inl (_, v) :: r => bif notSl v then (match outT s r with
    | some (l, ks) => some (.inl v :: l, ks)
    | none => none) else none
  | .inr k :: r => match getL s k, outT s r with
    | some e, some (l, ks) => bif e.own && !(ks.any fun y => Nat.beq k y) then some (.inr e :: l, k :: ks) else none
    | _, _ => none
def outS (s : St) : SV → Option (Bool × List XV)
  | .inl (_, v) => some (false, [.inl v])
  | .c k => match outT s [.inr k] with
    | some (l, _) => some (false, l)
    | none => none
  | .tp l => match outT s l with
    | some (l, _) => some (true, l)
    | none => none
  | _ => none
abbrev Res := Bool × List XV × List (Bool × Bool) × List Told
noncomputable def simF (E : Env) (fuel d : Nat) (plan : List Stop) (orc : List Bool) (f : FuncId) (fls : List (List Bool)) (args : List XV) : Option Res :=
  match E.P.funcs[f]? with
  | some fn => match fn.body with
    | some c => match simP E fuel (args.length + (fn.ntmps - args.length)) d plan [] c { tmps := initS 0 (initX fls 0 0 args).1, own := ⟨[], (initX fls 0 0 args).2⟩, lo := 0, llo := (initX fls 0 0 args).2.length, mem := false, orc := orc, obl := [] } with
      | some (x, s', [], tr) => bif (match x with | some (some _) => false | _ => true) then (match simRes E.P fn s' with
        | some r => match outS s' r with
          | some (tup, res) => some (tup, res, s'.obl, tr)
          | none => none
        | none => none) else none
      | _ => none
    | none => none
  | none => none
def listVals : List XV → List Value → List Value
  | .inl _ :: r, _ :: vs => listVals r vs
  | .inr _ :: r, v :: vs => v :: listVals r vs
  | _, _ => []
theorem initX_ok {fls : List (List Bool)} {w : World} {ν : Nu} : ∀ (args : List XV) (vals : List Value) (i m : Nat), ArgsOk w args vals → (∀ (j : Nat) v, (listVals args vals)[j]? = some v → ν.v (m + j) = v) →
    IsL ν (initX fls i m args).1 vals ∧ (∀ (j : Nat) e, (initX fls i m args).2[j]? = some e → e.own = false ∧ InB w.heap.size w e (ν.v (m + j))) ∧ (∀ y ∈ (initX fls i m args).1, okV 0 (m + (initX fls i m args).2.length) y) ∧ (initX fls i m args).1.length = args.length
  | [], [], i, m, _, _ => ⟨trivial, fun j e h => by simp [initX] at h, fun y hy => by simp [initX] at hy, rfl⟩
  | [], _ :: _, _, _, h, _ => h.elim
  | .inl x :: r, [], _, _, h, _ => h.elim
  | .inr e :: r, [], _, _, h, _ => h.elim
  | .inl x :: r, v :: vs, i, m, h, hν => by
    obtain ⟨h1, h2, h3, h4⟩ := initX_ok (fls := fls) r vs (i + 1) m h.2 hν
    refine ⟨⟨h.1, h1⟩, h2, fun y hy => ?_, ?_⟩
    · rcases List.mem_cons.mp (show y ∈ .inl ((fls[i]?).getD [], x) :: (initX fls (i + 1) m r).1 from hy) with rfl | hy
      · trivial
      · exact h3 y hy
    · show ((initX fls (i + 1) m r).1.length + 1) = _
      rw [h4]; rfl
  | .inr e :: r, v :: vs, i, m, h, hν => by
    obtain ⟨h1, h2, h3, h4⟩ := initX_ok (fls := fls) (ν := ν) r vs (i + 1) (m + 1) h.2 (fun j u hj => by
      have := hν (j + 1) u (by simpa [listVals] using hj)
      rw [← this]; congr 1; omega)
    have hv : ν.v m = v := hν 0 v rfl
    refine ⟨⟨hv.symm, h1⟩, fun j e' hj => ?_, fun y hy => ?_, ?_⟩
    · cases j with
      | zero =>
        have : e' = { e with own := false, dead := false } := by
          have : some ({ e with own := false, dead := false } : LE) = some e' := hj
          simpa using this.symm
        subst this
        refine ⟨rfl, ?_⟩
        rw [Nat.add_zero, hv]; exact h.1
      | succ j =>
        obtain ⟨k1, k2⟩ := h2 j e' hj
        exact ⟨k1, by rw [show m + (j + 1) = m + 1 + j by omega]; exact k2⟩
    · rcases List.mem_cons.mp (show y ∈ .c m :: (initX fls (i + 1) (m + 1) r).1 from hy) with rfl | hy
      · show m < m + ((initX fls (i + 1) (m + 1) r).2.length + 1); omega
      · exact (h3 y hy).mono (Nat.le_refl _) (by show m + 1 + _ ≤ m + ((initX fls (i + 1) (m + 1) r).2.length + 1); omega)
    · show ((initX fls (i + 1) (m + 1) r).1.length + 1) = _
      rw [h4]; rfl
theorem outT_ok {s : St} {w0 w : World} {ν : Nu} {mem : Bool} (hw : WR w0 ν s.own mem w) : ∀ (l : List (Sum (List Bool × Value) Nat)) (xs : List XV) (ks : List Nat), outT s l = some (xs, ks) →
    OutOk w0.heap.size w xs (l.map (concT ν)) ∧ ∀ u ∈ l.map (concT ν), ∀ g, u.ownBlock = some g → ∃ k ∈ ks, ν.v k = u ∧ ∃ e, s.own.l[k]? = some e ∧ e.dead = false ∧ e.own = true
  | [], xs, ks, h => by simp only [outT, Option.some.injEq, Prod.mk.injEq] at h; obtain ⟨rfl, rfl⟩ := h; exact ⟨trivial, fun u hu => by cases hu⟩
  | .inl (fl, v) :: r, xs, ks, h => by
    unfold outT at h
    cases hn : notSl v
    · rw [hn] at h; cases h
    · rw [hn] at h
      simp only [cond_true] at h
      split at h
      · rename_i l ks' hr
        simp only [Option.some.injEq, Prod.mk.injEq] at h
        obtain ⟨rfl, rfl⟩ := h
        obtain ⟨h1, h2⟩ := outT_ok hw r l ks' hr
        refine ⟨⟨rfl, h1⟩, fun u hu g hg => ?_⟩
        rcases List.mem_cons.mp hu with rfl | hu
        · exfalso
          cases u <;> first | (cases hg; done) | (cases hn; done)
        · exact h2 u hu g hg
      · cases h
  | .inr k :: r, xs, ks, h => by
    unfold outT at h
    split at h
    · rename_i e l ks' he hr
      cases hb : (e.own && !(ks'.any fun y => Nat.beq k y))
      · rw [hb] at h; cases h
      · rw [hb] at h
        simp only [cond_true, Option.some.injEq, Prod.mk.injEq] at h
        obtain ⟨rfl, rfl⟩ := h
        simp only [Bool.and_eq_true, Bool.not_eq_true', List.any_eq_false] at hb
        obtain ⟨hk, hd⟩ := getL_some he
        obtain ⟨h1, h2⟩ := outT_ok hw r l ks' hr
        refine ⟨⟨⟨hw.row hk hd hb.1, fun g hg u hu hug => ?_⟩, h1⟩, fun u hu g hg => ?_⟩
        · obtain ⟨k', hk', hv', e', he', hd', ho'⟩ := h2 u hu g hug
          have hne : k' ≠ k := fun e => hb.2 k' hk' (by rw [e]; simp)
          refine (hw.sep k e hk hd hb.1 g hg).2 k' e' he' hd' ho' hne ?_
          rw [hv']; exact hug
        · rcases List.mem_cons.mp hu with rfl | hu
          · exact ⟨k, List.mem_cons_self, rfl, e, hk, hd, hb.1⟩
          · obtain ⟨k', hk', rest⟩ := h2 u hu g hg
            exact ⟨k', List.mem_cons_of_mem _ hk', rest⟩
    · cases h
theorem outS_ok {s : St} {w0 w : World} {ν : Nu} {mem : Bool} (hw : WR w0 ν s.own mem w) {x : SV} {tup : Bool} {xs : List XV} (h : outS s x = some (tup, xs)) {v : Value} (hv : Is ν x v) : ∃ vs, v = outV tup vs ∧ OutOk w0.heap.size w xs vs := by
  unfold outS at h
  split at h
  · simp only [Option.some.injEq, Prod.mk.injEq] at h
    obtain ⟨rfl, rfl⟩ := h
    exact ⟨[v], rfl, hv, trivial⟩
  · rename_i k
    split at h
    · rename_i l ks hl
      simp only [Option.some.injEq, Prod.mk.injEq] at h
      obtain ⟨rfl, rfl⟩ := h
      exact ⟨[ν.v k], hv, (outT_ok hw _ _ _ hl).1⟩
    · cases h
  · rename_i l
    split at h
    · rename_i l' ks hl
      simp only [Option.some.injEq, Prod.mk.injEq] at h
      obtain ⟨rfl, rfl⟩ := h
      exact ⟨l.map (concT ν), hv, (outT_ok hw _ _ _ hl).1⟩
    · cases h
  · cases h
theorem fn_ok {E : Env} (HC : CallOk E) {fuel d : Nat} {plan : List Stop} {orc : List Bool} {f : FuncId} {fls : List (List Bool)} {args : List XV} {tup : Bool} {res : List XV} {l : List (Bool × Bool)} {tr : List Told}
    (h : simF E fuel d plan orc f fls args = some (tup, res, l, tr)) (hl : ∀ p ∈ l, p.1 = p.2) {fn : Func} (hfn : E.P.funcs[f]? = some fn) (w : World) (vals : List Value) (hG : Glob E w) (ha : ArgsOk w args vals)
    (htr : ∀ t ∈ tr, Sem E w (args.length + (fn.ntmps - args.length)) t.c t.s t.x t.s') : LRet E.P f vals tup res w := by
  unfold simF at h
  split at h
  · rename_i fn' hf
    rw [hfn] at hf
    obtain rfl := Option.some.inj hf
    split at h
    · rename_i c hbody
      split at h
      · rename_i x s' tr' hs
        cases hx : (match x with | some (some _) => false | _ => true)
        · rw [hx] at h; cases h
        · rw [hx] at h
          simp only [cond_true] at h
          split at h
          · rename_i r hr
            split at h
            · rename_i tup' res' hout
              simp only [Option.some.injEq, Prod.mk.injEq] at h
              obtain ⟨rfl, rfl, rfl, rfl⟩ := h
              let ν : Nu := ⟨fun _ => 0, fun k => ((listVals args vals)[k]?).getD undef⟩
              obtain ⟨i1, i2, i3, i4⟩ := initX_ok (fls := fls) (ν := ν) args vals 0 0 ha (fun j v hj => by show ((listVals args vals)[0 + j]?).getD undef = v; rw [Nat.zero_add, hj]; rfl)
              simp only [Nat.zero_add] at i2 i3
              have hg : Good { tmps := initS 0 (initX fls 0 0 args).1, own := ⟨[], (initX fls 0 0 args).2⟩, lo := 0, llo := (initX fls 0 0 args).2.length, mem := false, orc := orc, obl := [] } :=
                ⟨Nat.le_refl _, Nat.le_refl _, fun p hp => i3 _ (initS_mem' _ _ p hp), fun i b hi => by simp at hi⟩
              have hwr : WR w ν ⟨[], (initX fls 0 0 args).2⟩ false w :=
                ⟨Below.refl _ _, fun i b hi => by simp at hi, fun i b hi => by simp at hi, fun i j hi => by simp at hi, fun k e hk hd => (by
                  obtain ⟨k1, k2⟩ := i2 k e hk
                  unfold LOk
                  rw [k1]; exact k2), fun k e hk hd ho => (by
                  rw [(i2 k e hk).1] at ho; exact absurd ho (by simp)), fun _ => rfl⟩
              obtain ⟨_, _, hsem⟩ := simP_ok HC hG d plan [] c _ x s' [] tr' hg hs
              have htr' := tr_init (args := (initX fls 0 0 args).1) i1 fn.ntmps { tmps := initS 0 (initX fls 0 0 args).1, own := ⟨[], (initX fls 0 0 args).2⟩, lo := 0, llo := (initX fls 0 0 args).2.length, mem := false, orc := orc, obl := [] }
              rw [i4] at htr'
              refine calls_of_wp hfn hbody (hsem hl htr _ ν _ w htr' hwr fun ν' a' w' ht' hw' => ?_)
              obtain ⟨v, hv, hres⟩ := simRes_ok hr ht' hw'
              obtain ⟨vs, rfl, hok⟩ := outS_ok hw' hout hv
              rcases x with _ | _ | i
              · exact bodyPost_end hres ht'.df ⟨vs, rfl, hok, hw'.below⟩
              · exact bodyPost_ret hres ht'.df ⟨vs, rfl, hok, hw'.below⟩
              · cases hx
            · cases h
          · cases h
      · cases h
    · cases h
  · cases h

/-- A function's code, and a piece of it by its path (from the end). -/
def codeOf (P : Program) (f : FuncId) : Code := match P.funcs[f]? with
  | some fn => match fn.body with
    | some c => c
    | none => .skip
  | none => .skip
def childC : Nat → Code → Code
  | 0, .seq x _ => x
  | 1, .seq _ y => y
  | 0, .cond _ x _ => x
  | 1, .cond _ _ y => y
  | 0, .block _ x => x
  | 0, .loop x => x
  | _, c => c
def codeAt (c : Code) : List Nat → Code
  | [] => c
  | d :: p => childC d (codeAt c p)
def ntmpsOf (P : Program) (f : FuncId) : Nat := match P.funcs[f]? with
  | some fn => fn.ntmps
  | none => 0
/-! ### What is asked -/
theorem all_nil : ∀ p ∈ ([] : List (Bool × Bool)), p.1 = p.2 := fun _ h => by cases h
theorem all_cons {b c : Bool} {l : List (Bool × Bool)} (h : b = c) (t : ∀ p ∈ l, p.1 = p.2) : ∀ p ∈ (b, c) :: l, p.1 = p.2 := fun p hp => by
  rcases List.mem_cons.mp hp with rfl | hp
  · exact h
  · exact t p hp
theorem ob_inI {x : Int} (h : -9223372036854775808 ≤ x ∧ x ≤ 9223372036854775807) : pre (inI x) = true := by unfold pre inI; exact decide_eq_true h
theorem ob_idx {n : Int} {len : Nat} (h : 0 ≤ n ∧ n < len) : pre (idxB n len) = true := by unfold pre idxB; exact decide_eq_true h
theorem ob_lt {j n : Nat} (h : j < n) : pre (decide (j < n)) = true := by unfold pre; exact decide_eq_true h
theorem ob_app {n m b : Nat} (h : n + m ≤ 1000000000000) (hb : b ≤ 128) (hm : 0 < m) : pre (decide (n + m ≤ maxLen ∧ (n + m) * b ≤ 140737488355328 ∧ 0 < m)) = true := by
  unfold pre
  refine decide_eq_true ⟨Nat.le_trans h (by decide), ?_, hm⟩
  exact Nat.le_trans (Nat.mul_le_mul h hb) (by decide)
theorem ob_yes {p : Prop} [Decidable p] (h : p) : decide p = true := decide_eq_true h
theorem ob_no {p : Prop} [Decidable p] (h : ¬ p) : decide p = false := decide_eq_false h
/-! ### Tables -/
abbrev LTab := FuncId → List XV → Option (Bool × List XV × Bool)
def noL : LTab := fun _ _ => none
def lrow (k : FuncId) (dec : List XV → Option (Bool × List XV × Bool)) : LTab := fun f args => bif Nat.beq f k then dec args else none
def orL (c1 c2 : LTab) : LTab := fun f args => match c1 f args with
  | some v => some v
  | none => c2 f args
def LTabOk (P : Program) (gl : Nat → Option (List Value)) (c : LTab) : Prop := ∀ f args tup res, c f args = some (tup, res, true) → ∀ w vals, GlobOk gl w → ArgsOk w args vals → LRet P f vals tup res w
theorem LTabOk.none (P : Program) (gl : Nat → Option (List Value)) : LTabOk P gl noL := fun _ _ _ _ h => by cases h
theorem LTabOk.row {P : Program} {gl : Nat → Option (List Value)} {k : FuncId} {dec : List XV → Option (Bool × List XV × Bool)} (h : ∀ args tup res, dec args = some (tup, res, true) → ∀ w vals, GlobOk gl w → ArgsOk w args vals → LRet P k vals tup res w) : LTabOk P gl (lrow k dec) := fun f args tup res hv w vals hG ha => by
  unfold lrow at hv
  cases hb : Nat.beq f k
  · rw [hb] at hv; cases hv
  · rw [hb] at hv
    have he : f = k := Nat.eq_of_beq_eq_true hb
    subst he
    exact h args tup res hv w vals hG ha
theorem LTabOk.or {P : Program} {gl : Nat → Option (List Value)} {c1 c2 : LTab} (h1 : LTabOk P gl c1) (h2 : LTabOk P gl c2) : LTabOk P gl (orL c1 c2) := fun f args tup res hv w vals hG ha => by
  unfold orL at hv
  split at hv
  · rename_i u hu
    simp only [Option.some.injEq] at hv
    subst hv
    exact h1 f args tup res hu w vals hG ha
  · exact h2 f args tup res hv w vals hG ha
def env (P : Program) (gl : Nat → Option (List Value)) (c : Tab) (pc : PTab) (lc : LTab) : Env := { P := P, glob := gl, call := c, pcall := pc, lcall := lc }
theorem env_ok {P : Program} {gl : Nat → Option (List Value)} {c : Tab} {pc : PTab} {lc : LTab} (h1 : TabOk P gl c) (h2 : PTabOk P gl pc) (h3 : LTabOk P gl lc) : CallOk (env P gl c pc lc) := ⟨h1, h2, h3, (fun _ _ _ _ h => by cases h), fun _ _ _ h => by cases h⟩
/-- .. with arithmetic as atoms. -/
def envq (P : Program) (gl : Nat → Option (List Value)) (c : Tab) (pc : PTab) (lc : LTab) : Env := { P := P, glob := gl, call := c, pcall := pc, lcall := lc, opq := true }
theorem envq_ok {P : Program} {gl : Nat → Option (List Value)} {c : Tab} {pc : PTab} {lc : LTab} (h1 : TabOk P gl c) (h2 : PTabOk P gl pc) (h3 : LTabOk P gl lc) : CallOk (envq P gl c pc lc) := ⟨h1, h2, h3, (fun _ _ _ _ h => by cases h), fun _ _ _ h => by cases h⟩
/-- .. with strings.Builder. -/
def envb (P : Program) (gl : Nat → Option (List Value)) (c : Tab) (pc : PTab) (lc : LTab) (T e : TypeId) (bop : FuncId → Option BOp) (sh : FuncId → Bool) : Env := { P := P, glob := gl, call := c, pcall := pc, lcall := lc, opq := true, bt := some (T, e), bop := bop, shut := sh }
theorem envb_ok {P : Program} {gl : Nat → Option (List Value)} {c : Tab} {pc : PTab} {lc : LTab} {T e : TypeId} {bop : FuncId → Option BOp} {sh : FuncId → Bool} (h1 : TabOk P gl c) (h2 : PTabOk P gl pc) (h3 : LTabOk P gl lc) (h4 : ∀ f op, bop f = some op → BldOk P T e op f) : CallOk (envb P gl c pc lc T e bop sh) :=
  ⟨h1, h2, h3, (fun f op T' e' h1 h2 => by
    simp only [envb, Option.some.injEq, Prod.mk.injEq] at h2
    obtain ⟨rfl, rfl⟩ := h2
    exact h4 f op h1), fun _ _ _ h => by cases h⟩
/-- A table of callees whose answer's second part nobody tells. -/
def ATabOk (P : Program) (gl : Nat → Option (List Value)) (c : FuncId → List Value → Option (Value × Bool)) : Prop := ∀ f args v, c f args = some (v, true) → ∀ w, GlobOk gl w → Calls P f args.toArray w fun e w' => (∃ u, e = .returned (.tuple #[v, u])) ∧ Below w.heap.size w w'
def enva (P : Program) (gl : Nat → Option (List Value)) (c : Tab) (pc : PTab) (lc : LTab) (ac : FuncId → List Value → Option (Value × Bool)) : Env := { P := P, glob := gl, call := c, pcall := pc, lcall := lc, opq := true, acall := ac }
theorem enva_ok {P : Program} {gl : Nat → Option (List Value)} {c : Tab} {pc : PTab} {lc : LTab} {ac : FuncId → List Value → Option (Value × Bool)} (h1 : TabOk P gl c) (h2 : PTabOk P gl pc) (h3 : LTabOk P gl lc) (h4 : ATabOk P gl ac) : CallOk (enva P gl c pc lc ac) :=
  ⟨h1, h2, h3, (fun _ _ _ _ h => by cases h), h4⟩
/-- A plain result. -/
theorem LRet.plain {P : Program} {f : FuncId} {vals : List Value} {v : Value} {w : World} (h : LRet P f vals false [.inl v] w) : Ret P f vals.toArray v w := h.mono fun e w' ⟨vs, he, ho, hb⟩ => by
  cases vs with
  | nil => exact ho.elim
  | cons u r =>
    cases r with
    | nil => exact ⟨by rw [he, show u = v from ho.1]; rfl, hb⟩
    | cons _ _ => exact ho.2.elim
theorem ArgsOk.plain {w : World} : ∀ (l : List Value), ArgsOk w (l.map .inl) l
  | [] => trivial
  | v :: r => ⟨rfl, ArgsOk.plain r⟩
end Go.Proofs.Ytcofdcpadbpmnaa.S2
