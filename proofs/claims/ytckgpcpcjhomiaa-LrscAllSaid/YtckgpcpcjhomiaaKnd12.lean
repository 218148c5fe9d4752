/- Layer 12: what lrsc and the reference ask of one instruction. -/
import Derived.Test.YtckgpcpcjhomiaaRef03
namespace Go.Proofs.Ytckgpcpcjhomiaa
open Go.RowKit Sim
set_option linter.unusedVariables false
set_option linter.unusedSimpArgs false
def resI (i : In) : Bool := i.op == 66 || i.op == 77
def conI (i : In) : Bool := i.op == 67 || i.op == 78
def leadI (i : In) : Bool := formZ i.op == 4 || (i.op == 3 && i.rd == 0)
def plainI (i : In) : Bool := (i.op == 1 || i.op == 2) || ((decide (22 ≤ i.op) && decide (i.op ≤ 49)) || (leadI i && decide (i.imm > 0)))
def recR (i : In) : Bool := (i.op == 1 || i.op == 2) || (decide (i.op ≥ 22) && decide (i.op ≤ 49))
def turnR (i : In) : Bool := (decide (i.op ≥ 5) && decide (i.op ≤ 10)) || (i.op == 3 && i.rd == 0)
theorem isReserve_ret {gl : Gl} (i : In) (w : World) (hG : GlobOk gl w) : Ret Try.prog 14 #[inV i] (.bool (resI i)) w := by
  --was 20 "(TabOk.none _ _) (fuel := 1000)" "OIn" "resI, inV" fun (i : In) (p : List Bool) => simCall (E_gen (fun _ => none) noT) 1000 OIn p 14 [inV i]
  rcases Bool.eq_false_or_eq_true (i.op == 66) with h0 | h0
  · exact (ret (TabOk.none _ _) (fuel := 1000) OIn [true] (v := .bool (true)) [(i.op == 66, true)] (by kernel_rfl) (by simp [h0]) w hG).of_eq (by first | (simp only [resI, inV, h0]; rfl) | simp [resI, inV, h0])
  · exact (ret (TabOk.none _ _) (fuel := 1000) OIn [false] (v := .bool (i.op == 77)) [(i.op == 66, false)] (by kernel_rfl) (by simp [h0]) w hG).of_eq (by first | (simp only [resI, inV, h0]; rfl) | simp [resI, inV, h0])
def tIsRes : Tab := row 14 decIn fun i => .bool (resI i)
theorem tIsRes_ok {gl : Gl} : TabOk Try.prog gl tIsRes := tabV decIn_eq fun x w hG => isReserve_ret x w hG
theorem isConditional_ret {gl : Gl} (i : In) (w : World) (hG : GlobOk gl w) : Ret Try.prog 27 #[inV i] (.bool (conI i)) w := by
  --was 20 "(TabOk.none _ _) (fuel := 1000)" "OIn" "conI, inV" fun (i : In) (p : List Bool) => simCall (E_gen (fun _ => none) noT) 1000 OIn p 27 [inV i]
  rcases Bool.eq_false_or_eq_true (i.op == 67) with h0 | h0
  · exact (ret (TabOk.none _ _) (fuel := 1000) OIn [true] (v := .bool (true)) [(i.op == 67, true)] (by kernel_rfl) (by simp [h0]) w hG).of_eq (by first | (simp only [conI, inV, h0]; rfl) | simp [conI, inV, h0])
  · exact (ret (TabOk.none _ _) (fuel := 1000) OIn [false] (v := .bool (i.op == 78)) [(i.op == 67, false)] (by kernel_rfl) (by simp [h0]) w hG).of_eq (by first | (simp only [conI, inV, h0]; rfl) | simp [conI, inV, h0])
def tIsCon : Tab := row 27 decIn fun i => .bool (conI i)
theorem tIsCon_ok {gl : Gl} : TabOk Try.prog gl tIsCon := tabV decIn_eq fun x w hG => isConditional_ret x w hG
theorem leads_ret {gl : Gl} (i : In) (w : World) (hG : GlobOk gl w) : Ret Try.prog 25 #[inV i] (.bool (leadI i)) w := by
  --was 20 "tBranch_ok (fuel := 1000)" "OIn" "leadI, inV" fun (i : In) (p : List Bool) => simCall (E_gen (fun _ => none) tBranch) 1000 OIn p 25 [inV i]
  rcases Bool.eq_false_or_eq_true (formZ i.op == 4) with h0 | h0
  · exact (ret tBranch_ok (fuel := 1000) OIn [true] (v := .bool (true)) [(formZ i.op == 4, true)] (by kernel_rfl) (by simp [h0]) w hG).of_eq (by first | (simp only [leadI, inV, h0]; rfl) | simp [leadI, inV, h0])
  · rcases Bool.eq_false_or_eq_true (i.op == 3) with h1 | h1
    · exact (ret tBranch_ok (fuel := 1000) OIn [false, true] (v := .bool (i.rd == 0)) [(i.op == 3, true), (formZ i.op == 4, false)] (by kernel_rfl) (by simp [h0, h1]) w hG).of_eq (by first | (simp only [leadI, inV, h0, h1]; rfl) | simp [leadI, inV, h0, h1])
    · exact (ret tBranch_ok (fuel := 1000) OIn [false, false] (v := .bool (false)) [(i.op == 3, false), (formZ i.op == 4, false)] (by kernel_rfl) (by simp [h0, h1]) w hG).of_eq (by first | (simp only [leadI, inV, h0, h1]; rfl) | simp [leadI, inV, h0, h1])
def tLeads : Tab := row 25 decIn fun i => .bool (leadI i)
theorem tLeads_ok {gl : Gl} : TabOk Try.prog gl tLeads := tabV decIn_eq fun x w hG => leads_ret x w hG
theorem isPlain_ret {gl : Gl} (i : In) (w : World) (hG : GlobOk gl w) : Ret Try.prog 16 #[inV i] (.bool (plainI i)) w := by
  --was 20 "tLeads_ok (fuel := 1000)" "OIn" "plainI, inV" fun (i : In) (p : List Bool) => simCall (E_gen (fun _ => none) tLeads) 1000 OIn p 16 [inV i]
  rcases Bool.eq_false_or_eq_true (i.op == 1) with h0 | h0
  · exact (ret tLeads_ok (fuel := 1000) OIn [true] (v := .bool (true)) [(i.op == 1, true)] (by kernel_rfl) (by simp [h0]) w hG).of_eq (by first | (simp only [plainI, inV, h0]; rfl) | simp [plainI, inV, h0])
  · rcases Bool.eq_false_or_eq_true (i.op == 2) with h1 | h1
    · exact (ret tLeads_ok (fuel := 1000) OIn [false, true] (v := .bool (true)) [(i.op == 2, true), (i.op == 1, false)] (by kernel_rfl) (by simp [h0, h1]) w hG).of_eq (by first | (simp only [plainI, inV, h0, h1]; rfl) | simp [plainI, inV, h0, h1])
    · rcases Bool.eq_false_or_eq_true (decide (22 ≤ i.op)) with h2 | h2
      · rcases Bool.eq_false_or_eq_true (decide (i.op ≤ 49)) with h3 | h3
        · exact (ret tLeads_ok (fuel := 1000) OIn [false, false, true, true] (v := .bool (true)) [(decide (i.op ≤ 49), true), (decide (22 ≤ i.op), true), (i.op == 2, false), (i.op == 1, false)] (by kernel_rfl) (by simp [h0, h1, h2, h3]) w hG).of_eq (by first | (simp only [plainI, inV, h0, h1, h2, h3]; rfl) | simp [plainI, inV, h0, h1, h2, h3])
        · rcases Bool.eq_false_or_eq_true (leadI i) with h4 | h4
          · exact (ret tLeads_ok (fuel := 1000) OIn [false, false, true, false, true] (v := .bool (decide (i.imm > 0))) [(leadI i, true), (decide (i.op ≤ 49), false), (decide (22 ≤ i.op), true), (i.op == 2, false), (i.op == 1, false)] (by kernel_rfl) (by simp [h0, h1, h2, h3, h4]) w hG).of_eq (by first | (simp only [plainI, inV, h0, h1, h2, h3, h4]; rfl) | simp [plainI, inV, h0, h1, h2, h3, h4])
          · exact (ret tLeads_ok (fuel := 1000) OIn [false, false, true, false, false] (v := .bool (false)) [(leadI i, false), (decide (i.op ≤ 49), false), (decide (22 ≤ i.op), true), (i.op == 2, false), (i.op == 1, false)] (by kernel_rfl) (by simp [h0, h1, h2, h3, h4]) w hG).of_eq (by first | (simp only [plainI, inV, h0, h1, h2, h3, h4]; rfl) | simp [plainI, inV, h0, h1, h2, h3, h4])
      · rcases Bool.eq_false_or_eq_true (leadI i) with h3 | h3
        · exact (ret tLeads_ok (fuel := 1000) OIn [false, false, false, true] (v := .bool (decide (i.imm > 0))) [(leadI i, true), (decide (22 ≤ i.op), false), (i.op == 2, false), (i.op == 1, false)] (by kernel_rfl) (by simp [h0, h1, h2, h3]) w hG).of_eq (by first | (simp only [plainI, inV, h0, h1, h2, h3]; rfl) | simp [plainI, inV, h0, h1, h2, h3])
        · exact (ret tLeads_ok (fuel := 1000) OIn [false, false, false, false] (v := .bool (false)) [(leadI i, false), (decide (22 ≤ i.op), false), (i.op == 2, false), (i.op == 1, false)] (by kernel_rfl) (by simp [h0, h1, h2, h3]) w hG).of_eq (by first | (simp only [plainI, inV, h0, h1, h2, h3]; rfl) | simp [plainI, inV, h0, h1, h2, h3])
def tIsPlain : Tab := row 16 decIn fun i => .bool (plainI i)
theorem tIsPlain_ok {gl : Gl} : TabOk Try.prog gl tIsPlain := tabV decIn_eq fun x w hG => isPlain_ret x w hG
theorem reserves_ret {gl : Gl} (i : In) (w : World) (hG : GlobOk gl w) : Ret Try.prog 19 #[inV i] (.bool (resI i)) w := by
  --was 20 "(TabOk.none _ _) (fuel := 1000)" "OIn" "resI, inV" fun (i : In) (p : List Bool) => simCall (E_gen (fun _ => none) noT) 1000 OIn p 19 [inV i]
  rcases Bool.eq_false_or_eq_true (i.op == 66) with h0 | h0
  · exact (ret (TabOk.none _ _) (fuel := 1000) OIn [true] (v := .bool (true)) [(i.op == 66, true)] (by kernel_rfl) (by simp [h0]) w hG).of_eq (by first | (simp only [resI, inV, h0]; rfl) | simp [resI, inV, h0])
  · exact (ret (TabOk.none _ _) (fuel := 1000) OIn [false] (v := .bool (i.op == 77)) [(i.op == 66, false)] (by kernel_rfl) (by simp [h0]) w hG).of_eq (by first | (simp only [resI, inV, h0]; rfl) | simp [resI, inV, h0])
def tReserves : Tab := row 19 decIn fun i => .bool (resI i)
theorem tReserves_ok {gl : Gl} : TabOk Try.prog gl tReserves := tabV decIn_eq fun x w hG => reserves_ret x w hG
theorem conditional_ret {gl : Gl} (i : In) (w : World) (hG : GlobOk gl w) : Ret Try.prog 34 #[inV i] (.bool (conI i)) w := by
  --was 20 "(TabOk.none _ _) (fuel := 1000)" "OIn" "conI, inV" fun (i : In) (p : List Bool) => simCall (E_gen (fun _ => none) noT) 1000 OIn p 34 [inV i]
  rcases Bool.eq_false_or_eq_true (i.op == 67) with h0 | h0
  · exact (ret (TabOk.none _ _) (fuel := 1000) OIn [true] (v := .bool (true)) [(i.op == 67, true)] (by kernel_rfl) (by simp [h0]) w hG).of_eq (by first | (simp only [conI, inV, h0]; rfl) | simp [conI, inV, h0])
  · exact (ret (TabOk.none _ _) (fuel := 1000) OIn [false] (v := .bool (i.op == 78)) [(i.op == 67, false)] (by kernel_rfl) (by simp [h0]) w hG).of_eq (by first | (simp only [conI, inV, h0]; rfl) | simp [conI, inV, h0])
def tCond : Tab := row 34 decIn fun i => .bool (conI i)
theorem tCond_ok {gl : Gl} : TabOk Try.prog gl tCond := tabV decIn_eq fun x w hG => conditional_ret x w hG
theorem reckons_ret {gl : Gl} (i : In) (w : World) (hG : GlobOk gl w) : Ret Try.prog 32 #[inV i] (.bool (recR i)) w := by
  --was 20 "(TabOk.none _ _) (fuel := 1000)" "OIn" "recR, inV" fun (i : In) (p : List Bool) => simCall (E_gen (fun _ => none) noT) 1000 OIn p 32 [inV i]
  rcases Bool.eq_false_or_eq_true (i.op == 1) with h0 | h0
  · exact (ret (TabOk.none _ _) (fuel := 1000) OIn [true] (v := .bool (true)) [(i.op == 1, true)] (by kernel_rfl) (by simp [h0]) w hG).of_eq (by first | (simp only [recR, inV, h0]; rfl) | simp [recR, inV, h0])
  · rcases Bool.eq_false_or_eq_true (i.op == 2) with h1 | h1
    · exact (ret (TabOk.none _ _) (fuel := 1000) OIn [false, true] (v := .bool (true)) [(i.op == 2, true), (i.op == 1, false)] (by kernel_rfl) (by simp [h0, h1]) w hG).of_eq (by first | (simp only [recR, inV, h0, h1]; rfl) | simp [recR, inV, h0, h1])
    · rcases Bool.eq_false_or_eq_true (decide (i.op ≥ 22)) with h2 | h2
      · exact (ret (TabOk.none _ _) (fuel := 1000) OIn [false, false, true] (v := .bool (decide (i.op ≤ 49))) [(decide (i.op ≥ 22), true), (i.op == 2, false), (i.op == 1, false)] (by kernel_rfl) (by simp [h0, h1, h2]) w hG).of_eq (by first | (simp only [recR, inV, h0, h1, h2]; rfl) | simp [recR, inV, h0, h1, h2])
      · exact (ret (TabOk.none _ _) (fuel := 1000) OIn [false, false, false] (v := .bool (false)) [(decide (i.op ≥ 22), false), (i.op == 2, false), (i.op == 1, false)] (by kernel_rfl) (by simp [h0, h1, h2]) w hG).of_eq (by first | (simp only [recR, inV, h0, h1, h2]; rfl) | simp [recR, inV, h0, h1, h2])
def tReckons : Tab := row 32 decIn fun i => .bool (recR i)
theorem tReckons_ok {gl : Gl} : TabOk Try.prog gl tReckons := tabV decIn_eq fun x w hG => reckons_ret x w hG
theorem turns_ret {gl : Gl} (i : In) (w : World) (hG : GlobOk gl w) : Ret Try.prog 33 #[inV i] (.bool (turnR i)) w := by
  --was 20 "(TabOk.none _ _) (fuel := 1000)" "OIn" "turnR, inV" fun (i : In) (p : List Bool) => simCall (E_gen (fun _ => none) noT) 1000 OIn p 33 [inV i]
  rcases Bool.eq_false_or_eq_true (decide (i.op ≥ 5)) with h0 | h0
  · rcases Bool.eq_false_or_eq_true (decide (i.op ≤ 10)) with h1 | h1
    · exact (ret (TabOk.none _ _) (fuel := 1000) OIn [true, true] (v := .bool (true)) [(decide (i.op ≤ 10), true), (decide (i.op ≥ 5), true)] (by kernel_rfl) (by simp [h0, h1]) w hG).of_eq (by first | (simp only [turnR, inV, h0, h1]; rfl) | simp [turnR, inV, h0, h1])
    · rcases Bool.eq_false_or_eq_true (i.op == 3) with h2 | h2
      · exact (ret (TabOk.none _ _) (fuel := 1000) OIn [true, false, true] (v := .bool (i.rd == 0)) [(i.op == 3, true), (decide (i.op ≤ 10), false), (decide (i.op ≥ 5), true)] (by kernel_rfl) (by simp [h0, h1, h2]) w hG).of_eq (by first | (simp only [turnR, inV, h0, h1, h2]; rfl) | simp [turnR, inV, h0, h1, h2])
      · exact (ret (TabOk.none _ _) (fuel := 1000) OIn [true, false, false] (v := .bool (false)) [(i.op == 3, false), (decide (i.op ≤ 10), false), (decide (i.op ≥ 5), true)] (by kernel_rfl) (by simp [h0, h1, h2]) w hG).of_eq (by first | (simp only [turnR, inV, h0, h1, h2]; rfl) | simp [turnR, inV, h0, h1, h2])
  · rcases Bool.eq_false_or_eq_true (i.op == 3) with h1 | h1
    · exact (ret (TabOk.none _ _) (fuel := 1000) OIn [false, true] (v := .bool (i.rd == 0)) [(i.op == 3, true), (decide (i.op ≥ 5), false)] (by kernel_rfl) (by simp [h0, h1]) w hG).of_eq (by first | (simp only [turnR, inV, h0, h1]; rfl) | simp [turnR, inV, h0, h1])
    · exact (ret (TabOk.none _ _) (fuel := 1000) OIn [false, false] (v := .bool (false)) [(i.op == 3, false), (decide (i.op ≥ 5), false)] (by kernel_rfl) (by simp [h0, h1]) w hG).of_eq (by first | (simp only [turnR, inV, h0, h1]; rfl) | simp [turnR, inV, h0, h1])
def tTurns : Tab := row 33 decIn fun i => .bool (turnR i)
theorem tTurns_ok {gl : Gl} : TabOk Try.prog gl tTurns := tabV decIn_eq fun x w hG => turns_ret x w hG
theorem form4' : ∀ n : Fin 88, (formZ n.val == 4) = (decide ((n.val : Int) ≥ 5) && decide ((n.val : Int) ≤ 10)) := by decide +kernel
theorem form4 (op : Int) : (formZ op == 4) = (decide (op ≥ 5) && decide (op ≤ 10)) := by
  rcases op_cases op with ⟨n, h1, h2, rfl⟩ | h
  · exact form4' ⟨n, h2⟩
  · rw [formZ_out h]
    have : (decide (op ≥ 5) && decide (op ≤ 10)) = false := by simp; omega
    rw [this]; rfl
theorem turn_lead (i : In) : turnR i = leadI i := by unfold turnR leadI; rw [form4]
/-- What the document permits in a sequence. -/
theorem plain_ref (i : In) : (!recR i && !(turnR i && decide (i.imm > 0))) = !plainI i := by
  unfold plainI recR
  rw [turn_lead]
  cases leadI i <;> simp [Bool.or_assoc, Bool.and_assoc]
/-! ### The first place where something fails -/
def skipN (P : Nat → Bool) : Nat → Nat → Nat
  | 0, a => a
  | k + 1, a => bif P a then skipN P k (a + 1) else a
theorem skipN_ge (P : Nat → Bool) : ∀ k a, a ≤ skipN P k a
  | 0, a => Nat.le_refl _
  | k + 1, a => by
    show a ≤ bif P a then skipN P k (a + 1) else a
    cases P a
    · exact Nat.le_refl _
    · exact Nat.le_trans (Nat.le_succ a) (skipN_ge P k (a + 1))
theorem skipN_all (P : Nat → Bool) : ∀ k a i, a ≤ i → i < skipN P k a → P i = true
  | 0, a, i, h1, h2 => by unfold skipN at h2; omega
  | k + 1, a, i, h1, h2 => by
    cases hp : P a
    · have e : skipN P (k + 1) a = a := by show (bif P a then skipN P k (a + 1) else a) = a; rw [hp]; rfl
      omega
    · have e : skipN P (k + 1) a = skipN P k (a + 1) := by show (bif P a then skipN P k (a + 1) else a) = _; rw [hp]; rfl
      by_cases ha : i = a
      · rw [ha]; exact hp
      · exact skipN_all P k (a + 1) i (by omega) (by omega)
theorem skipN_fin (P : Nat → Bool) : ∀ k a, P (skipN P k a) = true → skipN P k a = a + k
  | 0, a, _ => rfl
  | k + 1, a, h => by
    cases hp : P a
    · have e : skipN P (k + 1) a = a := by show (bif P a then skipN P k (a + 1) else a) = a; rw [hp]; rfl
      rw [e, hp] at h; cases h
    · have e : skipN P (k + 1) a = skipN P k (a + 1) := by show (bif P a then skipN P k (a + 1) else a) = _; rw [hp]; rfl
      rw [e] at h ⊢
      have := skipN_fin P k (a + 1) h
      omega
theorem skipN_stop {P : Nat → Bool} {n : Nat} (h : ∀ i, P i = true → i < n) (a : Nat) : P (skipN P n a) = false := by
  cases hp : P (skipN P n a)
  · rfl
  · have h1 := skipN_fin P n a hp
    have h2 := h _ hp
    omega
/-- A skip depends on the first instructions alone. -/
theorem skipN_congr {P Q : Nat → Bool} (h : ∀ i, P i = Q i) : ∀ k a, skipN P k a = skipN Q k a
  | 0, a => rfl
  | k + 1, a => by
    show (bif P a then skipN P k (a + 1) else a) = bif Q a then skipN Q k (a + 1) else a
    rw [h a, skipN_congr h k (a + 1)]
theorem skipN_le (P : Nat → Bool) : ∀ k a, skipN P k a ≤ a + k
  | 0, a => Nat.le_refl _
  | k + 1, a => by
    show (bif P a then skipN P k (a + 1) else a) ≤ a + (k + 1)
    cases P a
    · show a ≤ a + (k + 1); omega
    · have := skipN_le P k (a + 1)
      show skipN P k (a + 1) ≤ a + (k + 1); omega
end Go.Proofs.Ytckgpcpcjhomiaa
