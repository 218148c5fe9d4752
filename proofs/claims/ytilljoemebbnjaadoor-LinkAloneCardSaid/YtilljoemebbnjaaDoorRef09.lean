/- Items of a unit (layer 9): their cells and lists; the answers by definition. -/
import Derived.Test.YtilljoemebbnjaaDoorK02
import Derived.Test.YtilljoemebbnjaaDoorPlain03
import Derived.Test.YtilljoemebbnjaaDoorSimV
import Derived.Test.YtilljoemebbnjaaDoorIsa
import Derived.Test.YtilljoemebbnjaaDoorK04
import Derived.Test.YtilljoemebbnjaaDoorRows
import Derived.KernelRfl
set_option linter.unusedVariables false
set_option linter.unusedSimpArgs false
namespace Go.Proofs.YtilljoemebbnjaaDoor
open Go.RowKit Sim S2
structure It where
  kind : Int
  ins : In
  n : Int
  note : Int
def itC (i : It) : List Value := [.int .i64 i.kind, .int .i64 i.ins.op, .int .i64 i.ins.rd, .int .i64 i.ins.a, .int .i64 i.ins.b, .int .i64 i.ins.imm, .bool i.ins.aq, .bool i.ins.rl, .int .i64 i.n, .int .i64 i.note]
def itV (i : It) : Value := .agg #[.int .i64 i.kind, .int .i64 i.ins.op, .int .i64 i.ins.rd, .int .i64 i.ins.a, .int .i64 i.ins.b, .int .i64 i.ins.imm, .bool i.ins.aq, .bool i.ins.rl, .int .i64 i.n, .int .i64 i.note]
def itE (n : Nat) (f : Nat → It) : LE := ⟨44, 10, n, fun j => itC (f j), false, false, true⟩
def itO : List Bool := [true, true, true, true, true, true, true, true, true, true]
def zeroIn (x : In) : Bool := x.op == 0 && (x.rd == 0 && (x.a == 0 && (x.b == 0 && (x.imm == 0 && (x.aq == false && (x.rl == false && true))))))
def zeroRd (x : In) : Bool := x.op == 0 && (x.rd == x.rd && (x.a == 0 && (x.b == 0 && (x.imm == 0 && (x.aq == false && (x.rl == false && true))))))
def rightB (i : It) : Bool :=
  bif i.kind == 0 then mayB i.ins && (i.n == 0 && decide (i.note ≥ 0))
  else bif i.kind == 1 then zeroIn i.ins && (decide (i.n ≥ 0) && decide (i.note ≥ 0))
  else bif i.kind == 2 then zeroIn i.ins && (decide (i.n ≥ 0) && decide (i.note ≥ 0))
  else bif i.kind == 3 then (formZ i.ins.op == 4) && (mayB i.ins && (i.ins.imm == 0 && (decide (i.n ≥ 0) && decide (i.note ≥ 0))))
  else bif i.kind == 4 then decide (i.ins.rd ≥ 0) && (decide (i.ins.rd ≤ 31) && (zeroRd i.ins && decide (i.note ≥ 0)))
  else false
theorem first_yes (f : Nat → Bool) : ∀ (h : Nat), (List.range h).any f = true → ∃ k, k < h ∧ f k = true ∧ ∀ j, j < k → f j = false
  | 0, hf => by simp at hf
  | h + 1, hf => by
    cases hp : (List.range h).any f
    · rw [List.range_succ, List.any_append, hp] at hf
      simp at hf
      refine ⟨h, by omega, hf, fun j hj => ?_⟩
      rw [List.any_eq_false] at hp
      simpa using hp j (List.mem_range.mpr hj)
    · obtain ⟨k, h1, h2, h3⟩ := first_yes f h hp
      exact ⟨k, by omega, h2, h3⟩
theorem any_no {f : Nat → Bool} {h : Nat} (hf : (List.range h).any f = false) (j : Nat) (hj : j < h) : f j = false := by
  rw [List.any_eq_false] at hf
  simpa using hf j (List.mem_range.mpr hj)
def labB (f : Nat → It) (x : Int) (j : Nat) : Bool := (f j).kind == 1 && (f j).n == x
def standsB (f : Nat → It) (x : Int) (k : Nat) : Bool := (List.range k).any (labB f x)
def decIt : List Value → Option It
  | [.agg cs] => match cs.toList with
    | [.int .i64 k, .int .i64 a, .int .i64 b, .int .i64 c, .int .i64 d, .int .i64 e, .bool f, .bool g, .int .i64 n, .int .i64 m] => some ⟨k, ⟨a, b, c, d, e, f, g⟩, n, m⟩
    | _ => none
  | _ => none
theorem decIt_eq : ∀ (l : List Value) (i : It), decIt l = some i → l = [itV i] := by
  intro l i h
  unfold decIt at h
  split at h
  · rename_i cs
    split at h
    · rename_i hc
      cases h
      obtain ⟨ls⟩ := cs
      simp only at hc
      subst hc
      rfl
    · cases h
  · cases h
def isItE (e : LE) (n : Nat) (f : Nat → It) : Prop := e.size = 10 ∧ e.n = n ∧ (∀ j, j < n → e.el j = itC (f j)) ∧ n ≤ 1000000000000
theorem InB.it {B : Nat} {w : World} {e : LE} {v : Value} {n : Nat} {f : Nat → It} (h : InB B w e v) (he : isItE e n f) : InB B w (itE n f) v := by
  obtain ⟨h1, h2, h3, _⟩ := he
  subst h2
  obtain ⟨_, a, cap, hv, hcap, hc⟩ := h
  refine ⟨⟨by show 0 < 10; decide, fun j hj => ⟨rfl, rfl⟩⟩, a, cap, hv, hcap, fun hp => ?_⟩
  obtain ⟨b, off, ha, hb, hcell⟩ := hc hp
  refine ⟨b, off, ha, hb, fun j hj o c ho => ?_⟩
  have := hcell j hj o c (by rw [h3 j hj]; exact ho)
  rw [h1] at this
  exact this
def bad1 (f : Nat → It) (j : Nat) : Bool := !rightB (f j)
def bad2 (f : Nat → It) (j : Nat) : Bool := (f j).kind == 1 && standsB f (f j).n j
def bad3 (n : Nat) (f : Nat → It) (j : Nat) : Bool := ((f j).kind == 2 || (f j).kind == 3) && !standsB f (f j).n n
def fstN (p : Nat → Bool) (n : Nat) : Option Nat := (List.range n).find? p
theorem fst_some {p : Nat → Bool} {n j : Nat} (h : fstN p n = some j) : j < n ∧ p j = true ∧ ∀ i, i < j → p i = false := by
  unfold fstN at h
  rw [List.find?_range_eq_some] at h
  obtain ⟨h1, h2, h3⟩ := h
  exact ⟨List.mem_range.mp h2, h1, fun i hi => by simpa using h3 i hi⟩
theorem fst_none {p : Nat → Bool} {n : Nat} (h : fstN p n = none) (j : Nat) (hj : j < n) : p j = false := by
  unfold fstN at h
  rw [List.find?_eq_none] at h
  simpa using h j (List.mem_range.mpr hj)
def unitR (n : Nat) (f : Nat → It) : Int × Int := match fstN (bad1 f) n with
  | some j => (j, 1)
  | none => match fstN (bad2 f) n with
    | some j => (j, 5)
    | none => match fstN (bad3 n f) n with
      | some j => (j, 4)
      | none => (0, 0)
theorem isItE_self (n : Nat) (f : Nat → It) (hn : n ≤ 1000000000000) : isItE (itE n f) n f := ⟨rfl, rfl, fun _ _ => rfl, hn⟩
theorem itSelf (x : It) : (!(x.kind == x.kind && (x.ins.op == x.ins.op && (x.ins.rd == x.ins.rd && (x.ins.a == x.ins.a && (x.ins.b == x.ins.b && (x.ins.imm == x.ins.imm && (x.ins.aq == x.ins.aq && (x.ins.rl == x.ins.rl && true)))))) && (x.n == x.n && (x.note == x.note && true))))) = false := by simp
noncomputable def env9m : S2.Env := envq Tryd.prog (fun _ => none) noT noP noL
theorem env9m_ok : CallOk env9m := envq_ok (.none _ _) (.none _ _) (.none _ _)
def smiS (n : Nat) (f : Nat → It) (j : Nat) : S2.St := { tmps := [(0, .c 0), (1, .c 1), (5, .inl ([true], .int .i64 j))], own := ⟨[], [itE n f, itE n f]⟩, lo := 0, llo := 0, mem := true, orc := [], obl := [] }
def smiPath : List Nat := [0, 1, 0, 1, 1]
noncomputable def smiC : Code := codeAt (codeOf Tryd.prog 14) (0 :: smiPath)
theorem smi_step (n : Nat) (f : Nat → It) (hn : n ≤ 1000000000000) (j : Nat) (hj : j < n) (w : World) : S2.Sem env9m w 26 smiC (smiS n f j) none (smiS n f (j + 1)) := by
  refine sem_iter env9m_ok (GlobOk.none w) (p := { ts := [0, 1, 5], bs := [], ls := [0, 1] }) (fuel := 1000) [true, false]
    [(pre (inI ((j : Int) + 1)), true), (!((f (j : Int).toNat).kind == (f (j : Int).toNat).kind && ((f (j : Int).toNat).ins.op == (f (j : Int).toNat).ins.op && ((f (j : Int).toNat).ins.rd == (f (j : Int).toNat).ins.rd && ((f (j : Int).toNat).ins.a == (f (j : Int).toNat).ins.a && ((f (j : Int).toNat).ins.b == (f (j : Int).toNat).ins.b && ((f (j : Int).toNat).ins.imm == (f (j : Int).toNat).ins.imm && ((f (j : Int).toNat).ins.aq == (f (j : Int).toNat).ins.aq && ((f (j : Int).toNat).ins.rl == (f (j : Int).toNat).ins.rl && true)))))) && ((f (j : Int).toNat).n == (f (j : Int).toNat).n && ((f (j : Int).toNat).note == (f (j : Int).toNat).note && true)))), false), (pre (decide ((j : Int).toNat < n)), true), (pre (idxB (j : Int) n), true), (pre (decide ((j : Int).toNat < n)), true), (pre (idxB (j : Int) n), true), (decide ((j : Int) < n), true)] (by kernel_rfl) (by kernel_rfl) ?_
  rw [Int.toNat_natCast]
  exact all_cons (ob_inI (by omega)) <| all_cons (itSelf _) <| all_cons (ob_lt hj) <| all_cons (ob_idx (by omega)) <| all_cons (ob_lt hj) <| all_cons (ob_idx (by omega)) <| all_cons (ob_yes (by omega)) all_nil
theorem smi_end (n : Nat) (f : Nat → It) (w : World) : S2.Sem env9m w 26 smiC (smiS n f n) (some (some 0)) (smiS n f n) :=
  sem_iter env9m_ok (GlobOk.none w) (p := { ts := [0, 1, 5], bs := [], ls := [0, 1] }) (fuel := 1000) [false] [(decide ((n : Int) < n), false)] (by kernel_rfl) (by kernel_rfl) (all_cons (ob_no (by omega)) all_nil)
theorem refSameIt_ret (n : Nat) (f : Nat → It) (hn : n ≤ 1000000000000) (w : World) (vals : List Value) (ha : ArgsOk w [.inr (itE n f), .inr (itE n f)] vals) : LRet Tryd.prog 14 vals false [.inl (.bool true)] w := by
  refine fn_ok env9m_ok (fuel := 1000) (d := 30) (plan := [⟨smiPath, { ts := [0, 1, 5], bs := [], ls := [0, 1], opn := [5] }, some (some 0), smiS n f n⟩]) (orc := [false]) (fls := [[], []]) (l := [(((n : Int) != (n : Int)), false)]) (tr := [⟨.loop smiC, smiS n f 0, some (some 0), smiS n f n⟩]) (by kernel_rfl) (all_cons (by simp) all_nil) Tryd.func14 w vals (GlobOk.none w) ha fun t ht => ?_
  obtain rfl := List.mem_singleton.mp ht
  exact sem_loop (smiS n f) n (by simp) (fun i hi => smi_step n f hn i hi w) (smi_end n f w)
noncomputable def lRefSameIt (n : Nat) (f : Nat → It) : LTab := lrow 14 fun args => match args with
  | [.inr e, .inr e'] => some (false, [.inl (.bool true)], pre (propB (isItE e n f ∧ isItE e' n f)))
  | _ => none
theorem lRefSameIt_ok {gl : Nat → Option (List Value)} (n : Nat) (f : Nat → It) : LTabOk Tryd.prog gl (lRefSameIt n f) := .row fun args tup res h w vals hG ha => by
  split at h
  · rename_i e e'
    simp only [Option.some.injEq, Prod.mk.injEq] at h
    obtain ⟨rfl, rfl, hp⟩ := h
    obtain ⟨h1, h2⟩ := propB_ok.mp hp
    match vals, ha with
    | [u, v], ha => exact refSameIt_ret n f h1.2.2.2 w [u, v] ⟨InB.it ha.1 h1, InB.it ha.2.1 h2, trivial⟩
    | [], ha => exact ha.elim
    | [_], ha => exact ha.2.elim
    | _ :: _ :: _ :: _, ha => exact ha.2.2.elim
  · cases h
end Go.Proofs.YtilljoemebbnjaaDoor
