/- What listed package-level variables of plain data (bools, integers, strings, structs and arrays of these) hold, cell by cell: by a program that turns the listed datum into cells. No word of the program. -/
import Derived.Test.YthmmmbfjhfocfaaDoorSimCalls
import Derived.ProofKit
import Derived.LaidMore
import Derived.OpenShut
import Derived.FnData
namespace Go.Proofs.YthmmmbfjhfocfaaDoor
set_option linter.unusedVariables false
open Sim Go.ChangeShapes Go.WideShapes Go.ChangeAt Go.RowKit

section
variable {H : Type}
def backF (P : Program) (rec : TypeId → DataW H → Option (List Value)) : List Field → List (DataW H) → Nat → Option (List Value)
  | [], [], _ => some []
  | f :: fs, d :: ds, off => bif Nat.beq f.offset off then (match rec f.type d with
    | some c => bif Nat.beq c.length (P.cellsOf f.type) then (match backF P rec fs ds (off + c.length) with
      | some r => some (c ++ r)
      | none => none) else none
    | none => none) else none
  | _, _, _ => none
def backA (k : Nat) (rec : DataW H → Option (List Value)) : List (DataW H) → Option (List Value)
  | [] => some []
  | d :: ds => match rec d with
    | some c => bif Nat.beq c.length k then (match backA k rec ds with
      | some r => some (c ++ r)
      | none => none) else none
    | none => none
/-- The cells that read as this datum, at a type of plain data. -/
def backD (P : Program) : Nat → TypeId → DataW H → Option (List Value)
  | 0, _, _ => none
  | n + 1, t, d => match P.underlying t, d with
    | some .bool, .lit (.bool b) => some [.bool b]
    | some (.int k), .lit (.int j x) => bif decide (k = j) then some [.int k x] else none
    | some .string, .lit (.string l) => some [.string ⟨l.toArray⟩]
    | some (.struct fs), .agg ds => match backF P (backD P n) fs.toList ds 0 with
      | some r => bif Nat.beq r.length (P.cellsOf t) then some r else none
      | none => none
    | some (.array m e), .agg ds => match backA (P.cellsOf e) (backD P n e) ds with
      | some r => bif Nat.beq r.length (P.cellsOf t) then some r else none
      | none => none
    | _, _ => none
theorem backF_ok {P : Program} {rec : TypeId → DataW H → Option (List Value)} {cs : List Value} : ∀ (fs : List Field) (ds : List (DataW H)) (off : Nat) (r : List Value), backF P rec fs ds off = some r →
    (∀ (j : Nat) f d c, fs[j]? = some f → ds[j]? = some d → rec f.type d = some c → (cs.drop f.offset).take (P.cellsOf f.type) = c) → (cs.drop off).take r.length = r
  | [], [], off, r, h, _ => by simp [backF] at h; subst h; rfl
  | f :: fs, d :: ds, off, r, h, hall => by
    unfold backF at h
    cases hb : Nat.beq f.offset off
    · rw [hb] at h; cases h
    · rw [hb] at h
      have hoff := Nat.eq_of_beq_eq_true hb
      simp only [cond_true] at h
      split at h
      · rename_i c hc
        cases hb2 : Nat.beq c.length (P.cellsOf f.type)
        · rw [hb2] at h; cases h
        · rw [hb2] at h
          have hlen := Nat.eq_of_beq_eq_true hb2
          simp only [cond_true] at h
          split at h
          · rename_i r' hr
            simp only [Option.some.injEq] at h
            subst h
            have h1 := hall 0 f d c rfl rfl hc
            have h2 := backF_ok fs ds (off + c.length) r' hr fun j f' d' c' hf hd hrec => hall (j + 1) f' d' c' (by simpa using hf) (by simpa using hd) hrec
            rw [hoff, ← hlen] at h1
            rw [List.length_append, List.take_add, h1, List.drop_drop, h2]
          · cases h
      · cases h
  | [], _ :: _, _, _, h, _ => by simp [backF] at h
  | _ :: _, [], _, _, h, _ => by simp [backF] at h
theorem backA_ok {k : Nat} {rec : DataW H → Option (List Value)} {cs : List Value} : ∀ (ds : List (DataW H)) (o : Nat) (r : List Value), backA k rec ds = some r →
    (∀ (j : Nat) d c, ds[j]? = some d → rec d = some c → (cs.drop ((o + j) * k)).take k = c) → (cs.drop (o * k)).take r.length = r
  | [], _, r, h, _ => by simp [backA] at h; subst h; rfl
  | d :: ds, o, r, h, hall => by
    unfold backA at h
    split at h
    · rename_i c hc
      cases hb2 : Nat.beq c.length k
      · rw [hb2] at h; cases h
      · rw [hb2] at h
        have hlen := Nat.eq_of_beq_eq_true hb2
        simp only [cond_true] at h
        split at h
        · rename_i r' hr
          simp only [Option.some.injEq] at h
          subst h
          have h1 := hall 0 d c rfl hc
          have h2 := backA_ok ds (o + 1) r' hr fun j d' c' hd hrec => by
            have := hall (j + 1) d' c' (by simpa using hd) hrec
            rw [show o + 1 + j = o + (j + 1) by omega]; exact this
          rw [Nat.add_zero] at h1
          have e : (o + 1) * k = o * k + k := by rw [Nat.add_mul, Nat.one_mul]
          rw [List.length_append, List.take_add, hlen, h1, List.drop_drop, ← e, h2]
        · cases h
    · cases h
theorem backD_ok {enc : TypeId × Value → H} {P : Program} {w : World} {base : Nat} {spare : Nat → Bool} {held : Bool} : ∀ (n : Nat) (t : TypeId) (d : DataW H) (r : List Value) (fuel : Nat) (cs : List Value) (ps : List MemPlace),
    backD P n t d = some r → DataW.trod enc P w base spare held fuel t cs = some (d, ps) → cs = r
  | 0, _, _, _, _, _, _, h, _ => by simp [backD] at h
  | n + 1, t, d, r, fuel, cs, ps, h, hd => by
    unfold backD at h
    split at h
    · rename_i b hu
      obtain ⟨m, h0, hx⟩ := DataW.trod_bool hu hd
      rw [Prod.mk.injEq, DataW.lit.injEq, Lit.bool.injEq] at hx
      rw [Option.some.injEq] at h
      rw [h0, ← h, hx.1]
    · rename_i k j x hu
      cases hk : decide (k = j)
      · rw [hk] at h; cases h
      · rw [hk] at h
        obtain ⟨m, h0, hx, _⟩ := DataW.trod_int hu hd
        rw [Prod.mk.injEq, DataW.lit.injEq, Lit.int.injEq] at hx
        simp only [cond_true, Option.some.injEq] at h
        rw [h0, ← h, hx.1.2]
    · rename_i l hu
      obtain ⟨m, h0, hx, _⟩ := DataW.trod_string hu hd
      rw [Prod.mk.injEq, DataW.lit.injEq, Lit.string.injEq] at hx
      rw [Option.some.injEq] at h
      rw [h0, ← h, hx.1]
    · rename_i fs ds hu
      obtain ⟨xs, m, _, hx, hl, hlen, hf⟩ := DataW.trod_struct hu hd
      simp at hx
      split at h
      · rename_i r' hr
        cases hb : Nat.beq r'.length (P.cellsOf t)
        · rw [hb] at h; cases h
        · rw [hb] at h
          simp only [cond_true, Option.some.injEq] at h
          subst h
          have hb := Nat.eq_of_beq_eq_true hb
          have := backF_ok (cs := cs) fs.toList ds 0 r' hr fun j f d' c hfj hdj hrec => by
            have h3 := hf j f (by simpa using hfj)
            rw [hx.1, List.getElem?_map] at hdj
            cases hxj : xs[j]? with
            | none => rw [hxj] at hdj; cases hdj
            | some y =>
              rw [hxj] at hdj h3
              simp at hdj
              obtain ⟨y1, y2⟩ := y
              simp at hdj
              subst hdj
              exact backD_ok n f.type y1 c m _ y2 hrec h3
          rw [List.drop_zero, hb, ← hl, List.take_length] at this
          exact this
      · cases h
    · rename_i k e ds hu
      obtain ⟨xs, m, _, hx, hl, hlen, hf⟩ := DataW.trod_array hu hd
      simp at hx
      split at h
      · rename_i r' hr
        cases hb : Nat.beq r'.length (P.cellsOf t)
        · rw [hb] at h; cases h
        · rw [hb] at h
          simp only [cond_true, Option.some.injEq] at h
          subst h
          have hb := Nat.eq_of_beq_eq_true hb
          have := backA_ok (cs := cs) ds 0 r' hr fun j d' c hdj hrec => by
            rw [hx.1, List.getElem?_map] at hdj
            cases hxj : xs[j]? with
            | none => rw [hxj] at hdj; cases hdj
            | some y =>
              have hjl : j < xs.length := by
                rcases Nat.lt_or_ge j xs.length with h' | h'
                · exact h'
                · rw [List.getElem?_eq_none h'] at hxj; cases hxj
              have h3 := hf j (by omega)
              rw [hxj] at hdj h3
              simp at hdj
              obtain ⟨y1, y2⟩ := y
              simp at hdj
              subst hdj
              rw [Nat.zero_add]
              exact backD_ok n e y1 c m _ y2 hrec h3
          rw [Nat.zero_mul, List.drop_zero, hb, ← hl, List.take_length] at this
          exact this
      · cases h
    · cases h
end
/-- One listed variable's cells. -/
theorem laid_cells {P : Program} {W : World} {n : String} {g g0 : Nat} {t t0 : TypeId} {cs0 : Array Value} {d : DataW Unit} {k fuel : Nat} {p : List MemPlace} {r : List Value} {spare : Nat → Bool} {held : Bool} {base : Nat} {enc : TypeId × Value → Unit}
    (hg : P.globalNamed n = some g) (ht : (P.globals[g]?).map (·.type) = some t) (hr : backD P k t d = some r)
    (hg0 : P.globalNamed n = some g0) (ht0 : (P.globals[g0]?).map (·.type) = some t0) (hv0 : W.var? P n = some cs0) (hd0 : DataW.trod enc P W base spare held fuel t0 cs0.toList = some (d, p)) (i : Nat) : W.cell? ⟨g, i, none⟩ = r[i]? := by
  obtain rfl := Option.some.inj (hg.symm.trans hg0)
  obtain rfl := Option.some.inj (ht.symm.trans ht0)
  rw [World.var?_cell hg hv0 i, ← backD_ok k t d r fuel cs0.toList p hr hd0, Array.getElem?_toList]
/-- All listed variables at once: their numbers and cells. -/
def tabOf (P : Program) (k : Nat) : List (String × DataW Unit) → Option (List (Nat × List Value))
  | [] => some []
  | (n, d) :: r => match P.globalNamed n with
    | some g => match (P.globals[g]?).map (·.type) with
      | some t => match backD P k t d, tabOf P k r with
        | some c, some l => some ((g, c) :: l)
        | _, _ => none
      | none => none
    | none => none
theorem tabOf_ok {P : Program} {k : Nat} {W : World} : ∀ (laid : List (String × DataW Unit)) (tab : List (Nat × List Value)) (ps : List MemPlace), tabOf P k laid = some tab → DataW.LaidVars P W laid ps → ∀ g r, (g, r) ∈ tab → ∀ i, W.cell? ⟨g, i, none⟩ = r[i]?
  | [], tab, ps, h, _, g, r, hm, i => by simp only [tabOf, Option.some.injEq] at h; subst h; cases hm
  | (n, d) :: l, tab, ps, h, hL, g, r, hm, i => by
    obtain ⟨g0, t0, cs0, f0, p0, q0, hg0, ht0, hv0, hd0, hl, _⟩ := hL
    unfold tabOf at h
    split at h
    · rename_i g1 hg1
      split at h
      · rename_i t1 ht1
        split at h
        · rename_i c l' hc hl'
          simp only [Option.some.injEq] at h
          subst h
          rcases List.mem_cons.mp hm with e | hm
          · cases e
            exact laid_cells hg1 ht1 hc hg0 ht0 hv0 hd0 i
          · exact tabOf_ok l l' q0 hl' hl g r hm i
        · cases h
      · cases h
    · cases h
theorem globs_of_laid {P : Program} {W : World} {k : Nat} {laid : List (String × DataW Unit)} {tab : List (Nat × List Value)} {gl : Nat → Option (List Value)} (hp : (laid.all fun x => x.2.handleName?.isNone) = true) (ht : tabOf P k laid = some tab) (hg : ∀ g cs, gl g = some cs → (g, cs) ∈ tab)
    (h : laidMetH P laid W) : GlobOk gl W := by
  rw [MakeChecks.laidMetH_plain _ _ _ hp] at h
  obtain ⟨ps, hL, _⟩ := h
  intro g cs hgc
  exact ⟨fun i v hv => by rw [tabOf_ok laid tab ps ht hL g cs (hg g cs hgc) i]; exact hv, fun _ i => tabOf_ok laid tab ps ht hL g cs (hg g cs hgc) i⟩
end Go.Proofs.YthmmmbfjhfocfaaDoor
