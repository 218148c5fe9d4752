/- Openers for layer 9: lists of items, the registers. -/
import Derived.Test.YtohefnfombkkbaaOpenF
import Derived.Test.YtohefnfombkkbaaRef09
namespace Go.Proofs.Ytohefnfombkkbaa
open Go.Joins Go.ChangeShapes Go.WideShapes Go.RowKit Go.Deep S2
set_option linter.unusedVariables false

def itK : List FK := [some (some .i64), some (some .i64), some (some .i64), some (some .i64), some (some .i64), some (some .i64), none, none, some (some .i64), some (some .i64)]
def wfIt (i : It) : Prop := -9223372036854775808 ≤ i.n ∧ i.n ≤ 9223372036854775807
theorem it_cells {cs : List Value} (h : FV itK cs) : ∃ i : It, cs = itC i ∧ wfIt i := by
  obtain ⟨_, _, rfl, ⟨kind, rfl, _⟩, h1⟩ := fv_cons h
  obtain ⟨_, _, rfl, ⟨op, rfl, _⟩, h2⟩ := fv_cons h1
  obtain ⟨_, _, rfl, ⟨rd, rfl, _⟩, h3⟩ := fv_cons h2
  obtain ⟨_, _, rfl, ⟨a, rfl, _⟩, h4⟩ := fv_cons h3
  obtain ⟨_, _, rfl, ⟨b, rfl, _⟩, h5⟩ := fv_cons h4
  obtain ⟨_, _, rfl, ⟨imm, rfl, _⟩, h6⟩ := fv_cons h5
  obtain ⟨_, _, rfl, ⟨aq, rfl⟩, h7⟩ := fv_cons h6
  obtain ⟨_, _, rfl, ⟨rl, rfl⟩, h8⟩ := fv_cons h7
  obtain ⟨_, _, rfl, ⟨n, rfl, wn⟩, h9⟩ := fv_cons h8
  obtain ⟨_, _, rfl, ⟨note, rfl, _⟩, h10⟩ := fv_cons h9
  rw [fv_nil h10]
  refine ⟨⟨kind, ⟨op, rd, a, b, imm, aq, rl⟩, n, note⟩, rfl, ?_⟩
  have h : (decide (IntKind.min .i64 ≤ n) && decide (n ≤ IntKind.max .i64)) = true := wn
  rw [Bool.and_eq_true] at h
  exact ⟨of_decide_eq_true h.1, of_decide_eq_true h.2⟩
theorem its_in {H : Type} {enc : TypeId × Value → H} {P : Program} {w : World} {t e : TypeId} {a : Option Addr} {len cap : Nat} {d : DataW H} {p : List MemPlace} (ht : P.underlying t = some (.slice e)) (hk : (flatK P 4 e == some itK && Nat.beq (P.cellsOf e) 10) = true)
    (h : DataW.Trod enc P w 0 (fun _ => true) true t (.slice a len cap) d p) : ∃ f : Nat → It, (∀ j, j < len → wfIt (f j)) ∧ len ≤ maxLen ∧ InB w.heap.size w (itE len f) (.slice a len cap) := by
  rw [Bool.and_eq_true] at hk
  have hk1 : flatK P 4 e = some itK := by simpa using hk.1
  obtain ⟨hl, hm, hc⟩ := slice_flat ht hk1 (Nat.eq_of_beq_eq_true hk.2) (by decide) h
  have wf : ∀ f : Nat → It, (itE len f).wf := fun f => ⟨by show 0 < 10; decide, fun j _ => ⟨rfl, rfl⟩⟩
  rcases Nat.eq_zero_or_pos len with h0 | hp
  · subst h0
    exact ⟨fun _ => ⟨0, ⟨0, 0, 0, 0, 0, false, false⟩, 0, 0⟩, fun j hj => by omega, by omega, wf _, a, cap, rfl, hl, fun h => absurd h (by simp [itE])⟩
  · obtain ⟨b, off, ha, hb, hcell⟩ := hc hp
    have hex : ∀ j, ∃ i : It, j < len → wfIt i ∧ ∀ (o : Nat) c, (itC i)[o]? = some c → w.cell? ⟨b, off + j * 10 + o, none⟩ = some c := by
      intro j
      by_cases hj : j < len
      · obtain ⟨cs, hfv, hcs⟩ := hcell j hj
        obtain ⟨i, rfl, hw⟩ := it_cells hfv
        exact ⟨i, fun _ => ⟨hw, hcs⟩⟩
      · exact ⟨⟨0, ⟨0, 0, 0, 0, 0, false, false⟩, 0, 0⟩, fun h => absurd h hj⟩
    obtain ⟨f, hf⟩ := Classical.axiomOfChoice hex
    exact ⟨f, fun j hj => (hf j hj).1, by omega, wf f, a, cap, rfl, hl, fun _ => ⟨b, off, ha, hb, fun j hj => (hf j hj).2⟩⟩
end Go.Proofs.Ytohefnfombkkbaa
