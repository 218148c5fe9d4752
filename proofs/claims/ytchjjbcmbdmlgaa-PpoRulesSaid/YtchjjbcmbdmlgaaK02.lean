/- Hp14, Wk16, Rf14. -/
import Derived.Test.YtchjjbcmbdmlgaaK01
import Derived.RangeFuncNested
import Derived.Test.YtchjjbcmbdmlgaaRows
import Derived.RangeFuncBound
import Derived.RangeFuncCalls
import Derived.RangeFuncLeaves
set_option linter.unusedVariables false
set_option linter.unusedSimpArgs false
namespace Go.Proofs.Ytchjjbcmbdmlgaa
open Go Go.RowKit
def Hb (w : World) (b : Nat) (t : TypeId) (N : Nat) (f : Nat → Value) : Prop :=
  ∃ cs : Array Value, w.heap[b]? = some (.cells cs t (0, 0)) ∧ N ≤ cs.size ∧ ∀ i, i < N → cs[i]? = some (f i)
def updF {α : Type} (f : Nat → α) (i : Nat) (v : α) : Nat → α := fun j => if j = i then v else f j
theorem updF_same {α : Type} (f : Nat → α) (i : Nat) (v : α) : updF f i v i = v := by simp [updF]
theorem updF_other {α : Type} (f : Nat → α) {i j : Nat} (v : α) (h : j ≠ i) : updF f i v j = f j := by simp [updF, h]
section
variable {w w' : World} {b N : Nat} {t : TypeId} {f g : Nat → Value}
theorem Hb.lt (h : Hb w b t N f) : b < w.heap.size := by
  obtain ⟨cs, h1, _⟩ := h
  exact (Array.getElem?_eq_some_iff.1 h1).1
theorem Hb.cell (h : Hb w b t N f) {i : Nat} (hi : i < N) : w.cell? ⟨b, i, none⟩ = some (f i) := by
  obtain ⟨cs, h1, h2, h3⟩ := h
  simp [World.cell?, h1, h3 i hi]
theorem Hb.free (h : Hb w b t N f) (i : Nat) : w.frozen? ⟨b, i, none⟩ = false := by
  obtain ⟨cs, h1, h2, h3⟩ := h
  simp [World.frozen?, h1]
theorem Hb.congr (h : Hb w b t N f) (hg : ∀ i, i < N → f i = g i) : Hb w b t N g := by
  obtain ⟨cs, h1, h2, h3⟩ := h
  exact ⟨cs, h1, h2, fun i hi => by rw [h3 i hi, hg i hi]⟩
theorem Hb.same (h : Hb w b t N f) (hb : w'.heap[b]? = w.heap[b]?) : Hb w' b t N f := by
  obtain ⟨cs, h1, h2⟩ := h
  exact ⟨cs, hb.trans h1, h2⟩
theorem Hb.set (h : Hb w b t N f) {i : Nat} (v : Value) : Hb (w.setCell ⟨b, i, none⟩ v) b t N (updF f i v) := by
  obtain ⟨cs, h1, h2, h3⟩ := h
  have hlt := (Array.getElem?_eq_some_iff.1 h1).1
  refine ⟨cs.setIfInBounds i v, ?_, by simpa using h2, fun j hj => ?_⟩
  · have h' : w.heap[b] = .cells cs t (0, 0) := (Array.getElem?_eq_some_iff.1 h1).2
    show (w.heap.modify b _)[b]? = _
    rw [Array.getElem?_eq_getElem (by simpa using hlt), Array.getElem_modify_self, h']
    rfl
  · by_cases hji : j = i
    · subst hji
      rw [updF_same, Array.getElem?_setIfInBounds_self_of_lt (by omega)]
    · rw [updF_other _ _ hji, Array.getElem?_setIfInBounds_ne (by omega), h3 j hj]
theorem Hb.new (w : World) (cs : Array Value) (t : TypeId) (hf : ∀ i, i < cs.size → cs[i]? = some (f i)) : Hb (w.alloc (.cells cs t)) w.heap.size t cs.size f :=
  ⟨cs, World.alloc_heap_new w _, Nat.le_refl _, hf⟩
theorem Hb.alloc (h : Hb w b t N f) (o : Obj) : Hb (w.alloc o) b t N f := h.same (Below.heap_alloc w o b h.lt)
theorem Hb.other (h : Hb w b t N f) {a : Addr} (ha : b ≠ a.block) (v : Value) : Hb (w.setCell a v) b t N f := h.same (Below.heap_setCell w a v b ha)
theorem Hb.below {B : Nat} (h : Hb w b t N f) (hb : Below B w w') (hlt : b < B) : Hb w' b t N f := h.same (hb.block b hlt)
end
structure Fr (T : List Nat) (w w' : World) : Prop where
  os : w'.os = w.os
  tape : w'.tape = w.tape
  output : w'.output = w.output
  size : w.heap.size ≤ w'.heap.size
  block : ∀ k, k < w.heap.size → k ∉ T → w'.heap[k]? = w.heap[k]?
theorem Fr.refl (T : List Nat) (w : World) : Fr T w w := ⟨rfl, rfl, rfl, Nat.le_refl _, fun _ _ _ => rfl⟩
theorem Fr.trans {T : List Nat} {a b c : World} (h : Fr T a b) (k : Fr T b c) : Fr T a c :=
  ⟨k.os.trans h.os, k.tape.trans h.tape, k.output.trans h.output, Nat.le_trans h.size k.size, fun i hi ht => (k.block i (Nat.lt_of_lt_of_le hi h.size) ht).trans (h.block i hi ht)⟩
theorem Fr.mono {T T' : List Nat} {a b : World} (h : Fr T a b) (hs : ∀ k, k < a.heap.size → k ∈ T → k ∈ T') : Fr T' a b :=
  ⟨h.os, h.tape, h.output, h.size, fun i hi ht => h.block i hi (fun hc => ht (hs i hi hc))⟩
theorem Fr.set {T : List Nat} {a w : World} (h : Fr T a w) {p : Addr} (hp : a.heap.size ≤ p.block ∨ p.block ∈ T) (u : Value) : Fr T a (w.setCell p u) := by
  refine ⟨h.os, h.tape, h.output, by simpa [World.setCell] using h.size, fun k hk ht => (Below.heap_setCell w p u k ?_).trans (h.block k hk ht)⟩
  rintro rfl
  rcases hp with hp | hp
  · omega
  · exact ht hp
theorem Fr.alloc {T : List Nat} {a w : World} (h : Fr T a w) (o : Obj) : Fr T a (w.alloc o) :=
  ⟨h.os, h.tape, h.output, by have := h.size; simp; omega, fun k hk ht => (Below.heap_alloc w o k (Nat.lt_of_lt_of_le hk h.size)).trans (h.block k hk ht)⟩
theorem Fr.draws {T : List Nat} {a w : World} (h : Fr T a w) (n : Nat) : Fr T a (w.drewN n) := ⟨h.os, h.tape, h.output, h.size, h.block⟩
theorem Fr.drew {T : List Nat} {a w : World} (h : Fr T a w) : Fr T a w.drew := ⟨h.os, h.tape, h.output, h.size, h.block⟩
theorem Fr.below {B : Nat} {T : List Nat} {a w w' : World} (h : Below B a w) (k : Fr T w w') (hB : B ≤ w.heap.size) (ht : ∀ i, i ∈ T → B ≤ i) : Below B a w' :=
  h.trans ⟨k.os, k.tape, k.output, k.size, fun i hi => k.block i (by omega) (fun hc => by have := ht i hc; omega)⟩
theorem Fr.of_below {T : List Nat} {w w' : World} (h : Below w.heap.size w w') : Fr T w w' := ⟨h.os, h.tape, h.output, h.size, fun k hk _ => h.block k hk⟩
theorem Fr.to_below {w w' : World} (h : Fr [] w w') : Below w.heap.size w w' := ⟨h.os, h.tape, h.output, h.size, fun k hk => h.block k hk (by simp)⟩
theorem Hb.fr {w w' : World} {b N : Nat} {t : TypeId} {f : Nat → Value} {T : List Nat} (h : Hb w b t N f) (hf : Fr T w w') (hb : b ∉ T) : Hb w' b t N f := h.same (hf.block b h.lt hb)
end Go.Proofs.Ytchjjbcmbdmlgaa
namespace Go.Proofs.Ytchjjbcmbdmlgaa
open Go Go.RowKit
def isN (a : Int) : Prop := -9223372036854775808 ≤ a ∧ a ≤ 9223372036854775807
theorem isN_w (n : Int) : isN (wrap64 n) := by unfold isN wrap64; omega
theorem isN_k (n : Int) : isN (IntKind.i64.wrap n) := by have h := isN_w n; unfold wrap64 at h; rw [IntKind.wrap_i64]; exact h
def Ai (k : IntKind) (w : World) : Ending → World → Prop := fun e w' => (∃ x : Int, (k = .i64 → isN x) ∧ e = .returned (.int k x)) ∧ w = w'
theorem bit_w (v : Int) (i : Nat) (hi : i ≤ 1000) (w : World) : Calls Try.prog 81 #[.int .u64 v, .int .i64 i] w (Ai .i64 w) := by
  go_enter Try.func81, Try.ntmps81
  go_wp2
  go_loop [0, 5] (fun a k => ∃ (j : Nat) (v' : Int), j ≤ i ∧ k = .int .i64 j ∧ a = .int .u64 v') (fun _ k => i - (intOf k).toNat)
  case atStart => exact ⟨0, v, Nat.zero_le _, rfl, rfl⟩
  case round =>
    obtain ⟨j, v', hj, rfl, rfl⟩ := hrel
    by_cases hlt : j < i
    · go_wp2
      go_round
      case rel => exact ⟨j + 1, _, by omega, by go_num, rfl⟩
      case measure => simp [intOf]; omega
    · go_wp2
      go_ret
      exact ⟨⟨_, (fun h => by first | exact isN_k _ | exact isN_w _ | assumption | (exact absurd h (by decide)) | (unfold isN; omega) | (exact (show isN _ by unfold isN; decide))), rfl⟩, rfl⟩
theorem power_w (n : Nat) (hn : n ≤ 1000) (w : World) : Calls Try.prog 93 #[.int .i64 n] w (Ai .u64 w) := by
  go_enter Try.func93, Try.ntmps93
  go_wp2
  go_loop [3, 4] (fun p k => ∃ (j : Nat) (x : Int), j ≤ n ∧ k = .int .i64 j ∧ p = .int .u64 x) (fun _ k => n - (intOf k).toNat)
  case atStart => exact ⟨0, _, Nat.zero_le _, rfl, rfl⟩
  case round =>
    obtain ⟨j, x, hj, rfl, rfl⟩ := hrel
    by_cases hlt : j < n
    · go_wp2
      go_round
      case rel => exact ⟨j + 1, _, by omega, by go_num, rfl⟩
      case measure => simp [intOf]; omega
    · go_wp2
      go_ret
      exact ⟨⟨_, (fun h => by first | exact isN_k _ | exact isN_w _ | assumption | (exact absurd h (by decide)) | (unfold isN; omega) | (exact (show isN _ by unfold isN; decide))), rfl⟩, rfl⟩
theorem sign_w (v : Int) (n : Nat) (h1 : 1 ≤ n) (hn : n ≤ 100) (w : World) : Calls Try.prog 92 #[.int .u64 v, .int .i64 n] w (Ai .i64 w) := by
  have hc := fun (i : Nat) hi W => bit_w v i hi W
  go_enter Try.func92, Try.ntmps92
  go_wp2
  go_loop [5, 6, 7] (fun o p k => ∃ (j : Nat) (x y : Int), j ≤ n - 1 ∧ k = .int .i64 j ∧ p = .int .i64 x ∧ o = .int .i64 y) (fun _ _ k => n - (intOf k).toNat)
  case atStart => exact ⟨0, _, _, Nat.zero_le _, rfl, rfl, rfl⟩
  case round =>
    obtain ⟨j, x, y, hj, rfl, rfl, rfl⟩ := hrel
    by_cases hlt : j < n - 1
    · have h2 := hc j (by omega)
      go_wp2_with (go_at_call 81; refine (h2 _).mono ?_; rintro e w' ⟨⟨z, _, rfl⟩, rfl⟩)
      go_round
      case rel => exact ⟨j + 1, _, _, by omega, by go_num, rfl, rfl⟩
      case measure => simp [intOf]; omega
    · obtain rfl : n = j + 1 := by omega
      have h2 := hc j (by omega)
      go_wp2_with (go_at_call 81; refine (h2 _).mono ?_; rintro e w' ⟨⟨z, _, rfl⟩, rfl⟩)
      go_ret
      exact ⟨⟨_, (fun h => by first | exact isN_k _ | exact isN_w _ | assumption | (exact absurd h (by decide)) | (unfold isN; omega) | (exact (show isN _ by unfold isN; decide))), rfl⟩, rfl⟩
theorem bits5_w (v : Int) (f n a : Nat) (hf : f ≤ 100) (hn : n ≤ 100) (ha : a ≤ 100) (w : World) : Calls Try.prog 78 #[.int .u32 v, .int .i64 f, .int .i64 n, .int .i64 a] w (Ai .i64 w) := by
  go_enter Try.func78, Try.ntmps78
  go_wp2
  go_loop [9, 10] (fun o k => ∃ (j : Nat) (x : Int), j ≤ n ∧ k = .int .i64 j ∧ o = .int .i64 x ∧ isN x) (fun _ k => n - (intOf k).toNat)
  case atStart => exact ⟨0, _, Nat.zero_le _, rfl, rfl, by unfold isN; decide⟩
  case round =>
    obtain ⟨j, x, hj, rfl, rfl, hx⟩ := hrel
    by_cases hlt : j < n
    · have h2 := fun v' W => bit_w v' (f + j) (by omega) W
      have h3 := fun W => power_w (a + j) (by omega) W
      go_wp2_with (first
        | (go_at_call 81; refine (h2 _ _).mono ?_; rintro e w' ⟨⟨z, _, rfl⟩, rfl⟩)
        | (go_at_call 93; refine (h3 _).mono ?_; rintro e w' ⟨⟨z2, _, rfl⟩, rfl⟩))
      go_round
      case rel => exact ⟨j + 1, _, by omega, by go_num, rfl, by first | exact isN_k _ | exact isN_w _⟩
      case measure => simp [intOf]; omega
    · go_wp2
      go_ret
      exact ⟨⟨_, (fun h => by first | exact isN_k _ | exact isN_w _ | assumption | (exact absurd h (by decide)) | (unfold isN; omega) | (exact (show isN _ by unfold isN; decide))), rfl⟩, rfl⟩
end Go.Proofs.Ytchjjbcmbdmlgaa
namespace Go.Proofs.Ytchjjbcmbdmlgaa
open Go Go.RowKit
structure Kc (ok : Nat → TypeId → Prop) (W W' : World) : Prop where
  size : W.heap.size ≤ W'.heap.size
  cells : ∀ k cs t fz, W.heap[k]? = some (.cells cs t fz) → ¬ ok k t → W'.heap[k]? = some (.cells cs t fz)
  objs : ∀ (k : Nat) (o : Obj), W.heap[k]? = some o → o.isCells = false → W'.heap[k]? = some o
section
variable {ok : Nat → TypeId → Prop} {A B C : World}
theorem Kc.refl (ok : Nat → TypeId → Prop) (A : World) : Kc ok A A := ⟨Nat.le_refl _, fun _ _ _ _ h _ => h, fun _ _ h _ => h⟩
theorem Kc.trans (h : Kc ok A B) (k : Kc ok B C) : Kc ok A C := ⟨Nat.le_trans h.size k.size, fun i cs t fz hi h1 => k.cells i cs t fz (h.cells i cs t fz hi h1) h1, fun i o hi ho => k.objs i o (h.objs i o hi ho) ho⟩
theorem Kc.alloc (h : Kc ok A B) (o : Obj) : Kc ok A (B.alloc o) := ⟨by have := h.size; simp; omega, fun i cs t fz hi h1 => by
  have := h.cells i cs t fz hi h1
  exact (Below.heap_alloc B o i (Array.getElem?_eq_some_iff.1 this).1).trans this, fun i o' hi ho => by
  have := h.objs i o' hi ho
  exact (Below.heap_alloc B o i (Array.getElem?_eq_some_iff.1 this).1).trans this⟩
theorem setCell_obj {w : World} {k : Nat} {o : Obj} (h : w.heap[k]? = some o) (ho : o.isCells = false) (a : Addr) (v : Value) : (w.setCell a v).heap[k]? = some o := by
  by_cases hk : k = a.block
  · subst hk
    have hlt := (Array.getElem?_eq_some_iff.1 h).1
    have h' : w.heap[a.block] = o := (Array.getElem?_eq_some_iff.1 h).2
    show (w.heap.modify a.block _)[a.block]? = _
    rw [Array.getElem?_eq_getElem (by simpa using hlt), Array.getElem_modify_self, h']
    cases o <;> first | rfl | cases ho
  · exact (Below.heap_setCell w a v k hk).trans h
theorem Kc.set (h : Kc ok A B) {p : Addr} (hp : (∃ cs t fz, B.heap[p.block]? = some (.cells cs t fz) ∧ ok p.block t) ∨ A.heap.size ≤ p.block) (v : Value) : Kc ok A (B.setCell p v) := ⟨by have := h.size; simpa [World.setCell] using this, fun i cs t fz hi h1 => by
  have h3 := h.cells i cs t fz hi h1
  refine (Below.heap_setCell B p v i ?_).trans h3
  rintro rfl
  rcases hp with ⟨cs', t', fz', hc, ht⟩ | hp
  · rw [hc] at h3; cases h3; exact h1 ht
  · have := (Array.getElem?_eq_some_iff.1 hi).1; omega, fun i o hi ho => setCell_obj (h.objs i o hi ho) ho _ _⟩
theorem Kc.draws (h : Kc ok A B) (n : Nat) : Kc ok A (B.drewN n) := ⟨h.size, h.cells, h.objs⟩
theorem Kc.drew (h : Kc ok A B) : Kc ok A B.drew := ⟨h.size, h.cells, h.objs⟩
theorem Kc.of_fr {U : List Nat} (h : Fr U A B) (hU : ∀ k, k ∈ U → k < A.heap.size → ∃ cs t fz, A.heap[k]? = some (.cells cs t fz) ∧ ok k t) : Kc ok A B := ⟨h.size, fun i cs t fz hi h1 => by
  have hlt := (Array.getElem?_eq_some_iff.1 hi).1
  refine (h.block i hlt fun hc => ?_).trans hi
  obtain ⟨cs', t', fz', h2, h3⟩ := hU i hc hlt
  rw [h2] at hi; cases hi; exact h1 h3, fun i o hi ho => by
  have hlt := (Array.getElem?_eq_some_iff.1 hi).1
  refine (h.block i hlt fun hc => ?_).trans hi
  obtain ⟨cs', t', fz', h2, h3⟩ := hU i hc hlt
  rw [h2] at hi; cases hi; cases ho⟩
theorem Kc.of_below (h : Below A.heap.size A B) : Kc ok A B := Kc.of_fr (U := []) (Fr.of_below h) (by simp)
theorem Kc.keeps (h : Kc ok A B) (n : Nat) : KeepsFrom n A B := ⟨h.size, fun k o _ h1 h2 => h.objs k o h1 h2⟩
theorem Hb.kc {b N : Nat} {t : TypeId} {f : Nat → Value} (h : Hb A b t N f) (hk : Kc ok A B) (hb : ¬ ok b t) : Hb B b t N f := by
  obtain ⟨cs, h1, h2, h3⟩ := h
  exact ⟨cs, hk.cells _ _ _ _ h1 hb, h2, h3⟩
theorem Hb.obj {b N : Nat} {t : TypeId} {f : Nat → Value} (h : Hb A b t N f) : ∃ cs fz, A.heap[b]? = some (.cells cs t fz) := by
  obtain ⟨cs, h1, _⟩ := h
  exact ⟨cs, _, h1⟩
end
theorem Hb.putO {w : World} {b N : Nat} {t : TypeId} {f : Nat → Value} (h : Hb w b t N f) {l : Nat} {o : Obj} (o' : Obj) (hl : w.heap[l]? = some o) (ho : o.isCells = false) : Hb (w.putObj l o') b t N f := h.same (World.putObj_heap_other fun e => by
  obtain ⟨cs, fz, hc⟩ := h.obj
  rw [e, hl] at hc; cases hc; cases ho)
theorem ownFrom_hb {β : Type} (B b N : Nat) (t : TypeId) (f : Nat → Value) : OwnFrom B (fun (_ : β) W => Hb W b t N f) := fun s W W' row hs hg hr => hs.same (hg.block b hs.lt fun e => by
  obtain ⟨_, o, ho, hc⟩ := hr b e.symm
  obtain ⟨cs, fz, h⟩ := hs.obj
  rw [h] at ho; cases ho; cases hc)
theorem ownFrom_up {β : Type} {B B' : Nat} {I : β → World → Prop} (h : OwnFrom B I) (hB : B ≤ B') : OwnFrom B' I := fun s W W' row hs hg hr => h s W W' row hs hg fun r e => ⟨Nat.le_trans hB (hr r e).1, (hr r e).2⟩
theorem ownFrom_drew {β : Type} {B : Nat} {I : β → World → Prop} (h : OwnFrom B I) {s : β} {W : World} (hs : I s W) : I s W.drew := h s W _ none hs ⟨rfl, rfl, rfl, Nat.le_refl _, fun _ _ _ => rfl⟩ (fun r e => by cases e)
def Tells (st : Bool) (P : Program) (g : Nat) (lb : Array Value) (xs : List (Array Value)) (ok : Nat → TypeId → Prop) (w : World) : Prop :=
  ∀ (l : Nat) (J Jx : Nat → World → Prop) (W : World), Kc ok w W → OwnFrom W.heap.size J → OwnFrom W.heap.size Jx →
    (∀ k x W1 m, xs[k]? = some x → J k W1 → YieldAt Fence.wide m P l x W1 fun e W' => (e = .returned (.bool true) ∧ J (k + 1) W' ∧ Kc ok W1 W') ∨ (st = true ∧ e = .returned (.bool false) ∧ Jx k W')) →
    J 0 W → ∀ m, CallsIn Fence.wide m P g (#[.func (.yield l) #[] #[]] ++ lb) W fun e W' => (∃ v, e = .returned v) ∧ (J xs.length W' ∨ ∃ k, k < xs.length ∧ Jx k W')
def bPost (st : Bool) (B : Nat) (ok : Nat → TypeId → Prop) (I : Nat → World → Prop) (Ix : Code → Nat → World → Prop) (k : Nat) (W : World) : Exit → Act → World → Prop
  | .normal, _, W' => Kc ok W W' ∧ I (k + 1) W'
  | .ret, _, W' => st = true ∧ KeepsFrom B W W' ∧ Ix .ret k W'
  | .exit id, _, W' => st = true ∧ KeepsFrom B W W' ∧ Ix (.exit id) k W'
  | _, _, _ => False
theorem round_ok {st : Bool} {P : Program} {B l k : Nat} {ok : Nat → TypeId → Prop} {I : Nat → World → Prop} {Ix : Code → Nat → World → Prop} (hI : OwnFrom B I) (hIx : ∀ c, OwnFrom B (Ix c)) (X : World → Prop) (hX : ∀ W W', KeepsFrom B W W' → X W → X W') (hXp : ∀ W o, X W → X (W.putObj l o)) (hB : B ≤ l)
    (rc : LoopState → Option Code → Loop) (fn : FuncId) (tm : Array Value) (ps : Array Tmp) (assign body : Code) (dd : Nat) (hrc : rc = fun st pe => { state := st, pending := pe, fn := fn, tmps := tm, params := ps, assign := assign, body := body, defers := dd }) (x : Array Value) (a1 : Act) (hps : x.size = ps.size)
    (hassign : ∀ m W (K : Act → World → Prop), K a1 W → assign.wpIn (Fence.wide.inRound l) m P (Exit.then K (fun _ _ _ => False)) { tmps := (ps.zip x).foldl (fun t (p, v) => t.setIfInBounds p v) tm, defers := [] } W)
    (hbody : ∀ m W, (∃ r, W.heap[l]? = some (.loop r)) → I k W → body.wpIn (Fence.wide.inRound l) m P (bPost st B ok I Ix k W) a1 W)
    (W : World) (hi : I k W) (hl : W.heap[l]? = some (.loop (rc .ready none))) (hx : X W) (m : Nat) :
    YieldAt Fence.wide m P l x W fun e W' => (e = .returned (.bool true) ∧ (I (k + 1) W' ∧ W'.heap[l]? = some (.loop (rc .ready none)) ∧ X W') ∧ Kc ok W W') ∨ (st = true ∧ e = .returned (.bool false) ∧ ∃ c, Ix c k W' ∧ W'.heap[l]? = some (.loop (rc .done (some c))) ∧ X W') := by
  have hy := run_yield (P := P) (args := x) hl (by rw [hrc]; exact hps)
  have e0 : (rc .ready none).fn = fn ∧ (rc .ready none).tmps = tm ∧ (rc .ready none).params = ps ∧ (rc .ready none).assign = assign ∧ (rc .ready none).body = body ∧ (rc .ready none).state = .ready := by rw [hrc]; exact ⟨rfl, rfl, rfl, rfl, rfl, rfl⟩
  obtain ⟨f1, f2, f3, f4, f5, f6⟩ := e0
  rw [f1, f2, f3, f4, f5] at hy
  have hlt : l < W.heap.size := (Array.getElem?_eq_some_iff.1 hl).1
  refine ⟨fn, _, assign, body, hy, roundIn_of_wpIn trivial (hassign _ W _ ⟨_, run_beginRound hl f6, ?_⟩)⟩
  have hl2 : (W.putObj l (.loop { rc .ready none with state := .busy })).heap[l]? = some (.loop { rc .ready none with state := .busy }) := World.putObj_heap_same hlt
  refine wpIn_mono (hbody _ _ ⟨_, hl2⟩ (hI.putObj _ hi hB hl rfl)) ?_
  have fin : ∀ (jump : Option Code) (W3 : World), KeepsFrom B (W.putObj l (.loop { rc .ready none with state := .busy })) W3 →
      (Instr.endRound l jump).run P W3 = .ok (.bool jump.isNone) (W3.putObj l (.loop (rc (if jump.isNone then .ready else .done) jump))) ∧ W3.heap[l]? = some (.loop { rc .ready none with state := .busy }) ∧
      (W3.putObj l (.loop (rc (if jump.isNone then .ready else .done) jump))).heap[l]? = some (.loop (rc (if jump.isNone then .ready else .done) jump)) ∧ X (W3.putObj l (.loop (rc (if jump.isNone then .ready else .done) jump))) := fun jump W3 hk => by
    have hl3 := hk.same _ _ hB hl2 rfl
    have he := run_endRound (P := P) jump hl3
    refine ⟨?_, hl3, World.putObj_heap_same (Array.getElem?_eq_some_iff.1 hl3).1, hXp _ _ (hX _ _ hk (hXp _ _ hx))⟩
    rw [he, hrc]
  rintro e a3 W3 hp
  cases e with
  | normal =>
    obtain ⟨hc, hi3⟩ := hp
    obtain ⟨hr, hl3, hl4, hx4⟩ := fin none W3 (hc.keeps _)
    refine ⟨_, _, hr, .inl ⟨rfl, ⟨hI.putObj _ hi3 hB hl3 rfl, hl4, hx4⟩, ⟨by have := hc.size; simpa using this, fun i cs t fz hi h1 => ?_, fun i o hi ho => ?_⟩⟩⟩
    · have hne : i ≠ l := by rintro rfl; rw [hl] at hi; cases hi
      exact (World.putObj_heap_other hne).trans (hc.cells i cs t fz ((World.putObj_heap_other hne).trans hi) h1)
    · by_cases hne : i = l
      · subst hne
        rw [hl] at hi
        rw [hl4, ← hi]; rfl
      · exact (World.putObj_heap_other hne).trans (hc.objs i o ((World.putObj_heap_other hne).trans hi) ho)
  | ret =>
    obtain ⟨hst, hk, hi3⟩ := hp
    obtain ⟨hr, hl3, hl4, hx4⟩ := fin (some .ret) W3 hk
    exact ⟨_, _, hr, .inr ⟨hst, rfl, .ret, (hIx _).putObj _ hi3 hB hl3 rfl, hl4, hx4⟩⟩
  | exit id =>
    obtain ⟨hst, hk, hi3⟩ := hp
    obtain ⟨hr, hl3, hl4, hx4⟩ := fin (some (.exit id)) W3 hk
    exact ⟨_, _, hr, .inr ⟨hst, rfl, .exit id, (hIx _).putObj _ hi3 hB hl3 rfl, hl4, hx4⟩⟩
  | goto t => exact hp.elim
  | panic ch => exact hp.elim
  | outgrown => exact hp.elim
def marks (Ds : List Nat) : List Deferred := Ds.map fun D => { target := .collected D, args := #[] }
theorem leave_marks {P : Program} {n : Nat} {fn : Func} {tmps : Array Value} {R : Ending → World → Prop} (v : Value) (Rv : World → Prop) (hres : ∀ W, Rv W → (results fn tmps).run P W = .ok v W) (hR : ∀ W, Rv W → R (.returned v) W) :
    ∀ (Ds : List Nat) (w : World), Ds.Nodup → (∀ D, D ∈ Ds → w.heap[D]? = some (.deferred (some []))) → (∀ D W, D ∈ Ds → W.heap[D]? = some (.deferred (some [])) → Rv W → Rv (W.putObj D (.deferred none))) → Rv w → LeavesInM Fence.wide n P fn tmps R (marks Ds) .returning w
  | [], w, _, _, _, h => ⟨_, hres w h, hR w h⟩
  | D :: Ds, w, hn, hd, hp, h => by
    have h1 := hd D List.mem_cons_self
    refine ⟨by simp, .inl ⟨_, _, rfl, run_takeDeferred h1, leave_marks v Rv hres hR Ds _ (List.nodup_cons.1 hn).2 (fun D' h' => ?_) (fun D' W h' => hp D' W (List.mem_cons_of_mem _ h')) (hp D w List.mem_cons_self h1 h)⟩⟩
    refine (World.putObj_heap_other ?_).trans (hd D' (List.mem_cons_of_mem _ h'))
    rintro rfl
    exact (List.nodup_cons.1 hn).1 h'
section
variable {P : Program} {n : Nat} {g : Operand} {ps : Array Tmp} {assign body : Code} {Q : Exit → Act → World → Prop} {a : Act} {w : World}
theorem range_outer {st : Bool} {gf : Nat} {lb : Array Value} {xs : List (Array Value)} {ok : Nat → TypeId → Prop} (ht : Tells st P gf lb xs ok w) (hg : a.eval g = .func (.func gf) #[] lb) (eg : ∀ args w, (callFunc gf args).run P w = .ok (.enter gf args) w) (hps : ∀ (k : Nat) (x : Array Value), xs[k]? = some x → x.size = ps.size)
    (I : Nat → World → Prop) (Ix : Code → Nat → World → Prop) (hI : OwnFrom w.heap.size I) (hIx : ∀ c, OwnFrom w.heap.size (Ix c)) (h0 : I 0 w) (a1 : Nat → Act)
    (hassign : ∀ l k x m W (K : Act → World → Prop), xs[k]? = some x → K (a1 k) W → assign.wpIn (Fence.wide.inRound l) m P (Exit.then K (fun _ _ _ => False)) { tmps := (ps.zip x).foldl (fun t (p, v) => t.setIfInBounds p v) a.tmps, defers := [] } W)
    (hbody : ∀ l k x m W, xs[k]? = some x → w.heap.size ≤ l → (∃ r, W.heap[l]? = some (.loop r)) → I k W → body.wpIn (Fence.wide.inRound l) m P (bPost st w.heap.size ok I Ix k W) (a1 k) W)
    (hdone : ∀ (D : Nat) (W : World), w.heap.size ≤ D → I xs.length W → W.heap[D]? = some (.deferred (some [])) → Q .normal { a with defers := { target := .collected D, args := #[] } :: a.defers } W)
    (hstop : ∀ (D : Nat) (c : Code) (k : Nat) (W : World), w.heap.size ≤ D → k < xs.length → Ix c k W → W.heap[D]? = some (.deferred (some [])) → c.wpIn Fence.wide n P Q { a with defers := { target := .collected D, args := #[] } :: a.defers } W) :
    (Code.rangeFunc g ps assign body).wpIn Fence.wide n P Q a w := by
  refine wpIn_rangeFunc fun fn hfn => ?_
  obtain ⟨rc, hrc⟩ : ∃ rc : LoopState → Option Code → Loop, rc = fun st pe => { state := st, pending := pe, fn := fn, tmps := a.tmps, params := ps, assign := assign, body := body, defers := w.heap.size } := ⟨_, rfl⟩
  obtain ⟨W1, hW1⟩ : ∃ W1, (w.alloc (.deferred (some []))).alloc (.loop (rc .ready none)) = W1 := ⟨_, rfl⟩
  have hl1 : W1.heap[w.heap.size + 1]? = some (.loop (rc .ready none)) := by
    rw [← hW1]; have := World.alloc_heap_new (w.alloc (.deferred (some []))) (.loop (rc .ready none)); rwa [World.size_alloc] at this
  have hd1 : W1.heap[w.heap.size]? = some (.deferred (some [])) := by
    rw [← hW1]; exact (Below.heap_alloc _ _ _ (by simp)).trans (World.alloc_heap_new w _)
  have hi1 : I 0 W1 := by rw [← hW1]; exact hI.alloc _ (hI.alloc _ h0)
  have hk1 : Kc ok w W1 := by rw [← hW1]; exact ((Kc.refl ok w).alloc _).alloc _
  have hsz : w.heap.size + 2 = W1.heap.size := by rw [← hW1]; simp
  refine ⟨w.heap.size + 1, [{ target := .collected w.heap.size, args := #[] }], W1, { target := .fn (.func gf) lb, args := #[.func (.yield (w.heap.size + 1)) #[] #[]] }, W1, gf, #[.func (.yield (w.heap.size + 1)) #[] #[]] ++ lb, W1, ?_, ?_, ?_, ?_, (fun h => by cases h), ?_⟩
  · rw [← hW1, hrc]; exact run_enterLoop_outer _ _ _ _ _
  · simp only [resolve, hg]
    simp [go_sem]
  · intro f' hf'; trivial
  · simp [invoke, go_sem, eg]
  have keep : ∀ {k : Nat} {o : Obj} {A A' : World} {row : Option Nat}, k < w.heap.size + 2 → A.grownBy A' row → (∀ r, row = some r → W1.heap.size ≤ r ∧ ∃ o : Obj, A.heap[r]? = some o ∧ o.isCells = false) → A.heap[k]? = some o → A'.heap[k]? = some o := fun {k o A A' row} hk hg' hr h =>
    (hg'.block k (Array.getElem?_eq_some_iff.1 h).1 (fun e => by have := (hr k e.symm).1; omega)).trans h
  refine (ht (w.heap.size + 1) (fun k W => I k W ∧ W.heap[w.heap.size + 1]? = some (.loop (rc .ready none)) ∧ W.heap[w.heap.size]? = some (.deferred (some [])))
    (fun k W => ∃ c, Ix c k W ∧ W.heap[w.heap.size + 1]? = some (.loop (rc .done (some c))) ∧ W.heap[w.heap.size]? = some (.deferred (some []))) W1 hk1
    (fun s A A' row hs hg' hr => ⟨ownFrom_up hI (by omega) s A A' row hs.1 hg' hr, keep (by omega) hg' hr hs.2.1, keep (by omega) hg' hr hs.2.2⟩)
    (fun s A A' row hs hg' hr => by
      obtain ⟨c, hc, h1, h2⟩ := hs
      exact ⟨c, ownFrom_up (hIx c) (by omega) s A A' row hc hg' hr, keep (by omega) hg' hr h1, keep (by omega) hg' hr h2⟩)
    (fun k x W m hk hj => round_ok hI hIx (fun W => W.heap[w.heap.size]? = some (.deferred (some []))) (fun A A' h1 h2 => h1.same _ _ (Nat.le_refl _) h2 rfl) (fun A o h => (World.putObj_heap_other (by omega)).trans h) (by omega) rc fn a.tmps ps assign body w.heap.size hrc x (a1 k) (hps k x hk)
      (fun m W K hK => hassign _ k x m W K hk hK) (fun m W hr hi => hbody _ k x m W hk (by omega) hr hi) W hj.1 hj.2.1 hj.2.2 m) ⟨hi1, hl1, hd1⟩ (n - 1)).mono ?_
  rintro e W2 ⟨⟨v, rfl⟩, ⟨hi, hl, hd⟩ | ⟨k, hk, c, hi, hl, hd⟩⟩
  · have he := run_endLoop (P := P) hl (by rw [hrc]; simp)
    rw [show (rc .ready none).pending = none by rw [hrc]] at he
    exact ⟨none, _, he, hdone _ _ (Nat.le_refl _) (hI.putObj _ hi (by omega) hl rfl) ((World.putObj_heap_other (by omega)).trans hd)⟩
  · have he := run_endLoop (P := P) hl (by rw [hrc]; simp)
    rw [show (rc .done (some c)).pending = some c by rw [hrc]] at he
    exact ⟨some c, _, he, hstop _ c k _ (Nat.le_refl _) hk ((hIx c).putObj _ hi (by omega) hl rfl) ((World.putObj_heap_other (by omega)).trans hd)⟩
end
end Go.Proofs.Ytchjjbcmbdmlgaa
