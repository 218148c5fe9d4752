/- Openers for a law's arguments that are structs of plain fields. No word of the program. -/
import Derived.Test.YtckgpcpcjhomiaaRows
import Derived.Lib.SmallJoins
import Derived.WalkKit
import Derived.ProofKit
import Derived.OpenShut
import Derived.ChangeOld
namespace Go.Proofs.Ytckgpcpcjhomiaa
open Go.Joins Go.ChangeShapes Go.WideShapes Go.RowKit Go.Deep

/-- The kind of a field of one cell: none: a bool; some none: a string; else an integer of this kind. -/
abbrev FK := Option (Option IntKind)
def fkOk (P : Program) (f : Field) : FK → Bool
  | some (some k) => match P.underlying f.type with | some (.int j) => decide (j = k) | _ => false
  | none => match P.underlying f.type with | some .bool => true | _ => false
  | some none => match P.underlying f.type with | some .string => true | _ => false
def allOk (P : Program) : List Field → List FK → Bool
  | [], [] => true
  | f :: r, k :: q => fkOk P f k && allOk P r q
  | _, _ => false
/-- The type is a struct of fields of these kinds. -/
def structIs (P : Program) (t : TypeId) (ks : List FK) : Bool :=
  match P.underlying t with
  | some (.struct fs) => oneCellFields P fs && Nat.beq (P.cellsOf t) fs.size && allOk P fs.toList ks
  | _ => false
/-- A field's value. -/
def FV1 : FK → Value → Prop
  | some (some k), v => ∃ n, v = .int k n ∧ (Lit.int k n).wf = true
  | none, v => ∃ b, v = .bool b
  | some none, v => ∃ s, v = .string s ∧ s.size ≤ maxLen
def FV : List FK → List Value → Prop
  | [], [] => True
  | k :: q, v :: r => FV1 k v ∧ FV q r
  | _, _ => False
theorem fv_cons {k : FK} {q : List FK} {cs : List Value} (h : FV (k :: q) cs) : ∃ v r, cs = v :: r ∧ FV1 k v ∧ FV q r := by
  cases cs with
  | nil => exact h.elim
  | cons v r => exact ⟨v, r, rfl, h.1, h.2⟩
theorem fv_nil {cs : List Value} (h : FV [] cs) : cs = [] := by
  cases cs with
  | nil => rfl
  | cons v r => exact h.elim
section
variable {H : Type} {enc : TypeId × Value → H} {P : Program} {w : World} {base : Nat} {spare : Nat → Bool} {held : Bool}
theorem fv1_of {f : Field} {k : FK} {v : Value} {y : DataW H × List MemPlace} {n : Nat} (hk : fkOk P f k = true) (h : DataW.trod enc P w base spare held n f.type [v] = some y) : FV1 k v := by
  rcases k with _ | _ | k
  rotate_right
  · simp only [fkOk] at hk
    split at hk
    · rename_i j hu
      obtain rfl := of_decide_eq_true hk
      obtain ⟨m, h0, _, hw⟩ := DataW.trod_int hu h
      simp at h0
      exact ⟨m, h0, hw⟩
    · cases hk
  · simp only [fkOk] at hk
    split at hk
    · rename_i hu
      obtain ⟨m, h0, _⟩ := DataW.trod_bool hu h
      simp at h0
      exact ⟨m, h0⟩
    · cases hk
  · simp only [fkOk] at hk
    split at hk
    · rename_i hu
      obtain ⟨m, h0, _, hm⟩ := DataW.trod_string hu h
      simp at h0
      exact ⟨m, h0, hm⟩
    · cases hk
theorem fv_of : ∀ (fs : List Field) (ks : List FK) (cs : List Value), allOk P fs ks = true → cs.length = fs.length →
    (∀ (j : Nat) f v, fs[j]? = some f → cs[j]? = some v → ∃ (n : Nat) (y : DataW H × List MemPlace), DataW.trod enc P w base spare held n f.type [v] = some y) → FV ks cs
  | [], [], [], _, _, _ => trivial
  | f :: r, k :: q, v :: cs, h, hl, hall => by
    simp only [allOk, Bool.and_eq_true] at h
    obtain ⟨n, y, hy⟩ := hall 0 f v rfl rfl
    exact ⟨fv1_of h.1 hy, fv_of r q cs h.2 (by simpa using hl) (fun j f' v' h1 h2 => hall (j + 1) f' v' (by simpa using h1) (by simpa using h2))⟩
  | [], _ :: _, _, h, _, _ => by simp [allOk] at h
  | _ :: _, [], _, h, _, _ => by simp [allOk] at h
  | [], [], _ :: _, _, hl, _ => by simp at hl
  | _ :: _, _ :: _, [], _, hl, _ => by simp at hl
theorem open_plain {r : Reach} {b0 : Nat} {t : TypeId} {ks : List FK} {v : Value} {d : DataW H} {p : List MemPlace} (hk : structIs P t ks = true) (hv : Value.okWide P w r b0 t v) (h : DataW.Trod enc P w base spare held t v d p) :
    ∃ cs : List Value, v = .agg cs.toArray ∧ FV ks cs := by
  unfold structIs at hk
  split at hk
  · rename_i fs hs
    simp only [Bool.and_eq_true] at hk
    obtain ⟨⟨hone, hC⟩, hall⟩ := hk
    have hC : P.cellsOf t = fs.size := Nat.eq_of_beq_eq_true hC
    obtain ⟨cs, rfl, hsz⟩ := okWide_struct hs hv
    obtain ⟨fuel, hf⟩ := h
    obtain ⟨xs, n, _, hx, _, hlen, hg⟩ := DataW.trod_struct hs hf
    have hcl : cs.toList.length = fs.size := by simpa using hsz.trans hC
    refine ⟨cs.toList, by simp, fv_of (enc := enc) (w := w) (base := base) (spare := spare) (held := held) fs.toList ks cs.toList hall (by simpa using hcl) fun j f c hj hc => ?_⟩
    have hj' : fs[j]? = some f := by simpa using hj
    obtain ⟨o0, k0⟩ := hone_of hone j f hj'
    have hg0 := hg j f hj'
    have hjl : j < cs.toList.length := by
      rcases Nat.lt_or_ge j cs.toList.length with h' | h'
      · exact h'
      · rw [List.getElem?_eq_none h'] at hc; cases hc
    have hone' : ((Value.agg cs).cells.toList.drop j).take 1 = [c] := by
      show (cs.toList.drop j).take 1 = [c]
      rw [List.drop_eq_getElem_cons hjl]
      rw [List.getElem?_eq_getElem hjl] at hc
      simp only [Option.some.injEq] at hc
      rw [hc]; rfl
    rw [o0, k0, hone'] at hg0
    have hxl : j < xs.length := by rw [hlen]; omega
    exact ⟨n, _, hg0.trans (List.getElem?_eq_getElem hxl)⟩
  · cases hk
end
end Go.Proofs.Ytckgpcpcjhomiaa
