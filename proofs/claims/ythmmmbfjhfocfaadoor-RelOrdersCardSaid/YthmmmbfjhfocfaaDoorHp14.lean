/- Blocks of cells as functions; worlds that turn in some blocks alone. No word of the program. -/
import Derived.Test.YthmmmbfjhfocfaaDoorKit01
import Derived.RangeFuncNested
namespace Go.Proofs.YthmmmbfjhfocfaaDoor
open Go Go.RowKit
set_option linter.unusedVariables false
set_option linter.unusedSimpArgs false

/-- Block b holds N cells of type t, as f says. -/
def Hb (w : World) (b : Nat) (t : TypeId) (N : Nat) (f : Nat → Value) : Prop :=
  ∃ cs : Array Value, w.heap[b]? = some (.cells cs t (0, 0)) ∧ N ≤ cs.size ∧ ∀ i, i < N → cs[i]? = some (f i)
def updF {α : Type} (f : Nat → α) (i : Nat) (v : α) : Nat → α := fun j => if j = i then v else f j
theorem updF_same {α : Type} (f : Nat → α) (i : Nat) (v : α) : updF f i v i = v := by simp [updF]
theorem updF_other {α : Type} (f : Nat → α) {i j : Nat} (v : α) (h : j ≠ i) : updF f i v j = f j := by simp [updF, h]
section
variable {w w' : World} {b N : Nat} {t : TypeId} {f g : Nat → Value}
theorem Hb.lt (h : Hb w b t N f) : b < w.heap.size := by
  obtain ⟨cs, h1, _⟩ := h
  exact (Array.getElem?_eq_some_iff.1 h1).1
theorem Hb.cell (h : Hb w b t N f) {i : Nat} (hi : i < N) : w.cell? ⟨b, i, none⟩ = some (f i) := by
  obtain ⟨cs, h1, h2, h3⟩ := h
  simp [World.cell?, h1, h3 i hi]
theorem Hb.free (h : Hb w b t N f) (i : Nat) : w.frozen? ⟨b, i, none⟩ = false := by
  obtain ⟨cs, h1, h2, h3⟩ := h
  simp [World.frozen?, h1]
theorem Hb.congr (h : Hb w b t N f) (hg : ∀ i, i < N → f i = g i) : Hb w b t N g := by
  obtain ⟨cs, h1, h2, h3⟩ := h
  exact ⟨cs, h1, h2, fun i hi => by rw [h3 i hi, hg i hi]⟩
theorem Hb.same (h : Hb w b t N f) (hb : w'.heap[b]? = w.heap[b]?) : Hb w' b t N f := by
  obtain ⟨cs, h1, h2⟩ := h
  exact ⟨cs, hb.trans h1, h2⟩
theorem Hb.set (h : Hb w b t N f) {i : Nat} (v : Value) : Hb (w.setCell ⟨b, i, none⟩ v) b t N (updF f i v) := by
  obtain ⟨cs, h1, h2, h3⟩ := h
  have hlt := (Array.getElem?_eq_some_iff.1 h1).1
  refine ⟨cs.setIfInBounds i v, ?_, by simpa using h2, fun j hj => ?_⟩
  · have h' : w.heap[b] = .cells cs t (0, 0) := (Array.getElem?_eq_some_iff.1 h1).2
    show (w.heap.modify b _)[b]? = _
    rw [Array.getElem?_eq_getElem (by simpa using hlt), Array.getElem_modify_self, h']
    rfl
  · by_cases hji : j = i
    · subst hji
      rw [updF_same, Array.getElem?_setIfInBounds_self_of_lt (by omega)]
    · rw [updF_other _ _ hji, Array.getElem?_setIfInBounds_ne (by omega), h3 j hj]
theorem Hb.new (w : World) (cs : Array Value) (t : TypeId) (hf : ∀ i, i < cs.size → cs[i]? = some (f i)) : Hb (w.alloc (.cells cs t)) w.heap.size t cs.size f :=
  ⟨cs, World.alloc_heap_new w _, Nat.le_refl _, hf⟩
theorem Hb.alloc (h : Hb w b t N f) (o : Obj) : Hb (w.alloc o) b t N f := h.same (Below.heap_alloc w o b h.lt)
theorem Hb.other (h : Hb w b t N f) {a : Addr} (ha : b ≠ a.block) (v : Value) : Hb (w.setCell a v) b t N f := h.same (Below.heap_setCell w a v b ha)
theorem Hb.below {B : Nat} (h : Hb w b t N f) (hb : Below B w w') (hlt : b < B) : Hb w' b t N f := h.same (hb.block b hlt)
end

/-- What was there lies as it lay but for the blocks of T. -/
structure Fr (T : List Nat) (w w' : World) : Prop where
  os : w'.os = w.os
  tape : w'.tape = w.tape
  output : w'.output = w.output
  size : w.heap.size ≤ w'.heap.size
  block : ∀ k, k < w.heap.size → k ∉ T → w'.heap[k]? = w.heap[k]?
theorem Fr.refl (T : List Nat) (w : World) : Fr T w w := ⟨rfl, rfl, rfl, Nat.le_refl _, fun _ _ _ => rfl⟩
theorem Fr.trans {T : List Nat} {a b c : World} (h : Fr T a b) (k : Fr T b c) : Fr T a c :=
  ⟨k.os.trans h.os, k.tape.trans h.tape, k.output.trans h.output, Nat.le_trans h.size k.size, fun i hi ht => (k.block i (Nat.lt_of_lt_of_le hi h.size) ht).trans (h.block i hi ht)⟩
theorem Fr.mono {T T' : List Nat} {a b : World} (h : Fr T a b) (hs : ∀ k, k < a.heap.size → k ∈ T → k ∈ T') : Fr T' a b :=
  ⟨h.os, h.tape, h.output, h.size, fun i hi ht => h.block i hi (fun hc => ht (hs i hi hc))⟩
theorem Fr.set {T : List Nat} {a w : World} (h : Fr T a w) {p : Addr} (hp : a.heap.size ≤ p.block ∨ p.block ∈ T) (u : Value) : Fr T a (w.setCell p u) := by
  refine ⟨h.os, h.tape, h.output, by simpa [World.setCell] using h.size, fun k hk ht => (Below.heap_setCell w p u k ?_).trans (h.block k hk ht)⟩
  rintro rfl
  rcases hp with hp | hp
  · omega
  · exact ht hp
theorem Fr.alloc {T : List Nat} {a w : World} (h : Fr T a w) (o : Obj) : Fr T a (w.alloc o) :=
  ⟨h.os, h.tape, h.output, by have := h.size; simp; omega, fun k hk ht => (Below.heap_alloc w o k (Nat.lt_of_lt_of_le hk h.size)).trans (h.block k hk ht)⟩
theorem Fr.draws {T : List Nat} {a w : World} (h : Fr T a w) (n : Nat) : Fr T a (w.drewN n) := ⟨h.os, h.tape, h.output, h.size, h.block⟩
theorem Fr.drew {T : List Nat} {a w : World} (h : Fr T a w) : Fr T a w.drew := ⟨h.os, h.tape, h.output, h.size, h.block⟩
theorem Fr.of_drawn {T : List Nat} {w w' : World} {k : Nat} (h : Fr T { heap := w.heap, tape := w.tape, drawn := k, os := w.os, output := w.output } w') : Fr T w w' := ⟨h.os, h.tape, h.output, h.size, h.block⟩
theorem Fr.below {B : Nat} {T : List Nat} {a w w' : World} (h : Below B a w) (k : Fr T w w') (hB : B ≤ w.heap.size) (ht : ∀ i, i ∈ T → B ≤ i) : Below B a w' :=
  h.trans ⟨k.os, k.tape, k.output, k.size, fun i hi => k.block i (by omega) (fun hc => by have := ht i hc; omega)⟩
theorem Fr.of_below {T : List Nat} {w w' : World} (h : Below w.heap.size w w') : Fr T w w' := ⟨h.os, h.tape, h.output, h.size, fun k hk _ => h.block k hk⟩
theorem Fr.to_below {w w' : World} (h : Fr [] w w') : Below w.heap.size w w' := ⟨h.os, h.tape, h.output, h.size, fun k hk => h.block k hk (by simp)⟩
theorem Hb.fr {w w' : World} {b N : Nat} {t : TypeId} {f : Nat → Value} {T : List Nat} (h : Hb w b t N f) (hf : Fr T w w') (hb : b ∉ T) : Hb w' b t N f := h.same (hf.block b h.lt hb)
end Go.Proofs.YthmmmbfjhfocfaaDoor
