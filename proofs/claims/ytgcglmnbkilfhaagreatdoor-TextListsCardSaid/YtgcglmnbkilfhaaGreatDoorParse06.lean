/- Contracts of package text (layer 6): Parse, a range over a function whose iterator keeps its state in cells. -/
import Derived.Test.YtgcglmnbkilfhaaGreatDoorOper06
import Derived.Test.YtgcglmnbkilfhaaGreatDoorWrite06
import Derived.Test.YtgcglmnbkilfhaaGreatDoorRead06B
namespace Go.Proofs.YtgcglmnbkilfhaaGreatDoor
open Go Go.RowKit Sim S2
set_option linter.unusedVariables false
set_option linter.unusedSimpArgs false

theorem operands_make (lay s : ByteArray) (w : World) : Calls Tryz.prog 29 #[.string lay, .string s] w fun e w' => e = .returned (.func (.func 54) #[] #[.pointer (some ⟨w.heap.size, 0, none⟩), .pointer (some ⟨w.heap.size + 1, 0, none⟩)]) ∧ w' = (w.alloc (.cells #[.string lay] 9)).alloc (.cells #[.string s] 9) := by
  refine (callsIn_wide (n := 3)).1 ?_
  refine callsIn_of_wp Tryz.func29 rfl trivial ?_ rfl
  simp only [Tryz.ntmps29, List.size_toArray, List.length_cons, List.length_nil, Nat.reduceAdd, Nat.reduceSub, Array.replicate_succ, Array.replicate_zero, List.push_toArray, List.append_toArray, List.nil_append, List.cons_append]
  gi_wp2
  exact bodyPost_ret (results_tmp rfl _ _ _) rfl ⟨rfl, rfl⟩
theorem setCell_cells {w : World} {b : Nat} {cs : Array Value} {e : TypeId} (h : w.heap[b]? = some (.cells cs e (0, 0))) (o : Nat) (v : Value) : (w.setCell ⟨b, o, none⟩ v).heap[b]? = some (.cells (cs.setIfInBounds o v) e (0, 0)) := by
  have hlt := Sim.lt_of_some h
  have h' : w.heap[b] = .cells cs e (0, 0) := by simpa [Array.getElem?_eq_getElem hlt] using h
  show (w.heap.modify b _)[b]? = _
  rw [Array.getElem?_eq_getElem (by simpa using hlt), Array.getElem_modify_self, h']
  rfl
/-- The cells of an instruction. -/
def inCells (i : In) : Obj := .cells #[.int .i64 i.op, .int .i64 i.rd, .int .i64 i.a, .int .i64 i.b, .int .i64 i.imm, .bool i.aq, .bool i.rl] 23 (0, 0)
/-- An instruction stored, field by field. -/
def st7 (w : World) (b : Nat) (i : In) : World := ((((((w.setCell ⟨b, 0, none⟩ (.int .i64 i.op)).setCell ⟨b, 1, none⟩ (.int .i64 i.rd)).setCell ⟨b, 2, none⟩ (.int .i64 i.a)).setCell ⟨b, 3, none⟩ (.int .i64 i.b)).setCell ⟨b, 4, none⟩ (.int .i64 i.imm)).setCell ⟨b, 5, none⟩ (.bool i.aq)).setCell ⟨b, 6, none⟩ (.bool i.rl)
theorem st7_same {w : World} {b : Nat} {k : In} (h : w.heap[b]? = some (inCells k)) (i : In) : (st7 w b i).heap[b]? = some (inCells i) := by
  unfold inCells at h
  have h0 := setCell_cells h 0 (.int .i64 i.op)
  simp only [List.setIfInBounds_toArray, List.set_cons_zero, List.set_cons_succ] at h0
  have h1 := setCell_cells h0 1 (.int .i64 i.rd)
  simp only [List.setIfInBounds_toArray, List.set_cons_zero, List.set_cons_succ] at h1
  have h2 := setCell_cells h1 2 (.int .i64 i.a)
  simp only [List.setIfInBounds_toArray, List.set_cons_zero, List.set_cons_succ] at h2
  have h3 := setCell_cells h2 3 (.int .i64 i.b)
  simp only [List.setIfInBounds_toArray, List.set_cons_zero, List.set_cons_succ] at h3
  have h4 := setCell_cells h3 4 (.int .i64 i.imm)
  simp only [List.setIfInBounds_toArray, List.set_cons_zero, List.set_cons_succ] at h4
  have h5 := setCell_cells h4 5 (.bool i.aq)
  simp only [List.setIfInBounds_toArray, List.set_cons_zero, List.set_cons_succ] at h5
  have h6 := setCell_cells h5 6 (.bool i.rl)
  simp only [List.setIfInBounds_toArray, List.set_cons_zero, List.set_cons_succ] at h6
  exact h6
theorem st7_other {w : World} {b k : Nat} (h : k ≠ b) (i : In) : (st7 w b i).heap[k]? = w.heap[k]? := by
  unfold st7
  rw [Below.heap_setCell _ _ _ _ (by exact h), Below.heap_setCell _ _ _ _ (by exact h), Below.heap_setCell _ _ _ _ (by exact h), Below.heap_setCell _ _ _ _ (by exact h), Below.heap_setCell _ _ _ _ (by exact h), Below.heap_setCell _ _ _ _ (by exact h), Below.heap_setCell _ _ _ _ (by exact h)]
theorem st7_below {B : Nat} {a w : World} {b : Nat} (h : Below B a w) (hB : B ≤ b) (i : In) : Below B a (st7 w b i) :=
  ((((((h.setCell (p := ⟨b, 0, none⟩) hB _).setCell (p := ⟨b, 1, none⟩) hB _).setCell (p := ⟨b, 2, none⟩) hB _).setCell (p := ⟨b, 3, none⟩) hB _).setCell (p := ⟨b, 4, none⟩) hB _).setCell (p := ⟨b, 5, none⟩) hB _).setCell (p := ⟨b, 6, none⟩) hB _
theorem st7_size (w : World) (b : Nat) (i : In) : (st7 w b i).heap.size = w.heap.size := by unfold st7; simp [World.setCell]
theorem inC_cell {w : World} {b : Nat} {i : In} (h : w.heap[b]? = some (inCells i)) : w.cell? ⟨b, 0, none⟩ = some (.int .i64 i.op) ∧ w.cell? ⟨b, 1, none⟩ = some (.int .i64 i.rd) ∧ w.cell? ⟨b, 2, none⟩ = some (.int .i64 i.a) ∧ w.cell? ⟨b, 3, none⟩ = some (.int .i64 i.b) ∧ w.cell? ⟨b, 4, none⟩ = some (.int .i64 i.imm) ∧ w.cell? ⟨b, 5, none⟩ = some (.bool i.aq) ∧ w.cell? ⟨b, 6, none⟩ = some (.bool i.rl) := by
  unfold inCells at h
  refine ⟨?_, ?_, ?_, ?_, ?_, ?_, ?_⟩ <;> simp [World.cell?, h]
theorem inC_free {w : World} {b : Nat} {i : In} (h : w.heap[b]? = some (inCells i)) (o : Nat) : w.frozen? ⟨b, o, none⟩ = false := by
  unfold inCells at h
  simp [World.frozen?, h]
theorem inC_set {w : World} {b : Nat} {i : In} (h : ∀ o, w.frozen? ⟨b, o, none⟩ = false) (a : Addr) (v : Value) : ∀ o, (w.setCell a v).frozen? ⟨b, o, none⟩ = false := fun o => by rw [World.frozen?_setCell]; exact h o
theorem load_in {w : World} {b : Nat} {i : In} (h : w.heap[b]? = some (inCells i)) : (loadVar 23 ⟨b, 0, none⟩).run Tryz.prog w = .ok (inV i) w :=
  run_loadB (cs := [.int .i64 i.op, .int .i64 i.rd, .int .i64 i.a, .int .i64 i.b, .int .i64 i.imm, .bool i.aq, .bool i.rl]) (off := 0) (by kernel_rfl) w (cells_of_blk h)
theorem results_in {fn : Func} (h : fn.results = #[.cell 2 23, .tmp 3]) {tmps : Array Value} {w : World} {b : Nat} {i : In} {v : Value} (ht : tmps.getD 2 undef = .pointer (some ⟨b, 0, none⟩)) (hv : tmps.getD 3 undef = v) (hi : w.heap[b]? = some (inCells i)) : (results fn tmps).run Tryz.prog w = .ok (.tuple #[inV i, v]) w := by
  have hl := load_in hi
  unfold results
  rw [h]
  rw [Array.getD_eq_getD_getElem?] at ht hv
  simp [ht, hv, hl, Sem.run_bind, asAddr]
theorem leave_in {n : Nat} {fn : Func} {R : Ending → World → Prop} (h : fn.results = #[.cell 2 23, .tmp 3]) {tmps : Array Value} {w : World} {b D : Nat} {i : In} {v : Value} (ht : tmps.getD 2 undef = .pointer (some ⟨b, 0, none⟩)) (hv : tmps.getD 3 undef = v) (hi : w.heap[b]? = some (inCells i)) (hD : w.heap[D]? = some (.deferred (some []))) (hne : b ≠ D)
    (hR : R (.returned (.tuple #[inV i, v])) (w.putObj D (.deferred none))) : bodyPostM Fence.wide n Tryz.prog fn R .ret { tmps := tmps, defers := [{ target := .collected D, args := #[] }] } w := by
  refine ⟨by simp, .inl ⟨_, _, rfl, run_takeDeferred hD, ?_⟩⟩
  exact ⟨_, results_in h ht hv ((World.putObj_heap_other hne).trans hi), hR⟩
/-- A range over a function whose closure is called once, in the world with the loop's record laid. -/
theorem rangeFunc_out {F : Fence} {n : Nat} {P : Program} {g : Operand} {ps : Array Tmp} {assign body : Code} {Q : Exit → Act → World → Prop} {a : Act} {w : World} {gf : Nat} {lb : Array Value} (hro : F.round = none) (h1 : F.depth.isSome = true → 1 ≤ n) (hg : a.eval g = .func (.func gf) #[] lb) (hFg : F.fn gf) (eg : ∀ args w, (callFunc gf args).run P w = .ok (.enter gf args) w)
    (h : ∀ fn, F.fn fn → ∀ rec : Loop, rec = { state := .ready, pending := none, fn := fn, tmps := a.tmps, params := ps, assign := assign, body := body, defers := w.heap.size } → CallsIn F (n - 1) P gf (#[.func (.yield (w.heap.size + 1)) #[] #[]] ++ lb) ((w.alloc (.deferred (some []))).alloc (.loop rec)) (rangePost F n P (w.heap.size + 1) Q { a with defers := [{ target := .collected w.heap.size, args := #[] }] ++ a.defers })) : (Code.rangeFunc g ps assign body).wpIn F n P Q a w := by
  refine wpIn_rangeFunc ?_
  intro fn hfn
  obtain ⟨rec, hrec⟩ : ∃ rec : Loop, rec = { state := .ready, pending := none, fn := fn, tmps := a.tmps, params := ps, assign := assign, body := body, defers := w.heap.size } := ⟨_, rfl⟩
  obtain ⟨W1, hW1⟩ : ∃ W1, W1 = (w.alloc (.deferred (some []))).alloc (.loop rec) := ⟨_, rfl⟩
  have hh := h fn hfn rec hrec
  rw [← hW1] at hh
  have e1 : (Instr.enterLoop fn a.tmps ps assign body F.round).run P w = .ok (w.heap.size + 1, [{ target := .collected w.heap.size, args := #[] }]) W1 := by
    rw [hro, hW1, hrec]; exact run_enterLoop_outer _ _ _ _ _
  have e2 : (resolve a.eval (rangeCall g (w.heap.size + 1)) 0).run P W1 = .ok { target := .fn (.func gf) lb, args := #[.func (.yield (w.heap.size + 1)) #[] #[]] } W1 := by
    simp only [resolve, hg]
    simp [go_sem]
  have e3 : ∀ f', Target.leads P W1 (.fn (.func gf) lb) #[.func (.yield (w.heap.size + 1)) #[] #[]] = some f' → F.fn f' := by
    intro f' hf'; simp [Target.leads] at hf'; subst hf'; exact hFg
  have e4 : (invoke (.fn (.func gf) lb) #[.func (.yield (w.heap.size + 1)) #[] #[]]).run P W1 = .ok (.enter gf (#[.func (.yield (w.heap.size + 1)) #[] #[]] ++ lb)) W1 := by
    simp [invoke, go_sem, eg]
  exact ⟨_, _, W1, _, W1, gf, _, W1, e1, e2, e3, e4, h1, hh⟩
theorem loop_back {rec : Loop} (h1 : rec.state = .ready) (h2 : rec.pending = none) : ({ state := .ready, pending := none, fn := rec.fn, tmps := rec.tmps, params := rec.params, assign := rec.assign, body := rec.body, defers := rec.defers } : Loop) = rec := by
  cases rec; simp only at h1 h2; subst h1; subst h2; rfl
theorem below_put {B : Nat} {a w : World} (h : Below B a w) {l : Nat} (hl : B ≤ l) (h2 : l < w.heap.size) (o : Obj) : Below B a (w.putObj l o) :=
  h.trans ((Below.refl B w).grown (grownBy_putObj' w l o) (by omega) fun k e => by cases e; exact hl)
theorem putObj_size (w : World) (l : Nat) (o : Obj) : (w.putObj l o).heap.size = w.heap.size := by simp [World.putObj]
/-- What the letters of a layout make of an instruction. -/
noncomputable def fI (i0 : In) (l : List (Int × ByteArray)) : In := l.foldl (fun i p => rdI p.1 i p.2) i0
theorem fI_snoc (i0 : In) (l : List (Int × ByteArray)) (c : Int) (x : ByteArray) : fI i0 (l ++ [(c, x)]) = rdI c (fI i0 l) x := by unfold fI; rw [List.foldl_append]; rfl
noncomputable def parL (i0 : In) (s : ByteArray) : In := fI i0 (opRun (cutB s) (toL (layK (layC i0.op)))).1
/-- What Parse answers. -/
noncomputable def okI (i : In) (s : ByteArray) : Bool := mayB i && (textZ i).toList == s.toList
noncomputable def parO (s : ByteArray) : In × Int := if okI (parL (namN (cutA s)) s) s = true then (parL (namN (cutA s)) s, 0) else (noIn, 1)
theorem parO_yes {i0 i : In} {s : ByteArray} (h0 : i0 = namN (cutA s)) (hi : parL i0 s = i) (h : okI i s = true) : parO s = (i, 0) := by
  unfold parO; rw [← h0, hi, if_pos h]
theorem parO_no {i0 i : In} {s : ByteArray} (h0 : i0 = namN (cutA s)) (hi : parL i0 s = i) (h : okI i s = false) : parO s = (noIn, 1) := by
  unfold parO; rw [← h0, hi, if_neg (by rw [h]; simp)]
theorem cutA_size (s : ByteArray) : (cutA s).size ≤ s.size := by
  rw [cutA, Classical.choose_spec cutA_ex]
  split
  · exact ext_size _ _ _
  · exact Nat.le_refl _
theorem cutB_size (s : ByteArray) : (cutB s).size ≤ s.size := by
  rw [cutB, Classical.choose_spec cutB_ex]
  split
  · exact ext_size _ _ _
  · exact Nat.zero_le _
theorem lay_ascii (k : Nat) : ∀ x ∈ toL (layK k), x.toNat < 128 := by
  unfold layK
  split <;> decide +kernel
theorem lay_letters (k : Nat) : ∀ x ∈ toL (layK k), sepB (x.toNat : Nat) = false → ((x.toNat : Nat) : Int) = 100 ∨ ((x.toNat : Nat) : Int) = 97 ∨ ((x.toNat : Nat) : Int) = 98 ∨ ((x.toNat : Nat) : Int) = 105 ∨ ((x.toNat : Nat) : Int) = 112 ∨ ((x.toNat : Nat) : Int) = 115 := by
  unfold layK
  split <;> decide +kernel
theorem parse_walk (es er : Value) (hes : isErr es) (her : isErr er) (s : ByteArray) (hs : s.size ≤ 200) (w : World) (hG : GlobOk (gl6 es er) w) : Calls Tryz.prog 9 #[.string s] w fun e w' => e = .returned (.tuple #[inV (parO s).1, .int .i64 (parO s).2]) ∧ Below w.heap.size w w' := by
  refine (callsIn_wide (n := 30)).1 ?_
  refine callsIn_of_wp_marks Tryz.func9 rfl trivial ?_ rfl
  simp only [Tryz.ntmps9, List.size_toArray, List.length_cons, List.length_nil, Nat.reduceAdd, Nat.reduceSub, Array.replicate_succ, Array.replicate_zero, List.push_toArray, List.append_toArray, List.nil_append, List.cons_append]
  have Hcut := hid (fun w hG => cut_ret (gl := gl6 es er) s (by simp [smallB]; omega) w hG)
  obtain ⟨i0, hi0⟩ : ∃ i0, Hid (i0 = namN (cutA s)) := ⟨_, rfl⟩
  have Hnam := hid (fun w hG => (show Ret Tryz.prog 28 #[.string (cutA s)] (.agg #[.int .i64 i0.op, .int .i64 i0.rd, .int .i64 i0.a, .int .i64 i0.b, .int .i64 i0.imm, .bool i0.aq, .bool i0.rl]) w from hi0.out ▸ named_ret es er (cutA s) (by have := cutA_size s; simp [smallB]; omega) w hG))
  have Hlay := hid (fun op w => layout_ret op w)
  have Hop := hid (fun l w => operands_make l (cutB s) w)
  have HG := hid hG
  have hA : Below w.heap.size w (w.alloc (inCells noIn)) := (Below.refl _ w).alloc (Nat.le_refl _) _
  gi_wp2_with ((refine ⟨trivial, ?_⟩; refine (callsIn_wide.2 (Hcut.out _ (HG.out.below ((Below.refl _ w).alloc (Nat.le_refl _) _)))).mono ?_; rintro e w2 ⟨rfl, hb2⟩; refine Hid.out ?_))
  have hB2 : Below w.heap.size w w2 := hA.trans (Below.mono (B := (w.alloc (inCells noIn)).heap.size) hb2 hA.size)
  have hr2 : w2.heap[w.heap.size]? = some (inCells noIn) := (Below.block hb2 w.heap.size (by simp)).trans (World.alloc_heap_new w (inCells noIn))
  have HG2 := hid (hG.below hB2)
  refine hid ?_
  gi_wp2_with ((refine ⟨trivial, ?_⟩; refine (callsIn_wide.2 (Hnam.out _ HG2.out)).mono ?_; rintro e w3 ⟨rfl, hb3⟩; refine Hid.out ?_))
  have hB3 : Below w.heap.size w w3 := hB2.trans (hb3.mono hB2.size)
  have hr3 : w3.heap[w.heap.size]? = some (inCells noIn) := (hb3.block _ (Sim.lt_of_some hr2)).trans hr2
  refine hid ?_
  gi_wp2_with (first
    | ((refine ⟨trivial, ?_⟩; refine (callsIn_wide.2 (Hlay.out _ _)).mono ?_; rintro e w5 ⟨rfl, hb5⟩))
    | ((refine ⟨trivial, ?_⟩; refine (callsIn_wide.2 (Hop.out _ _)).mono ?_; rintro e w6 ⟨rfl, rfl⟩; refine Hid.out ?_)))
  obtain ⟨w4, hw4⟩ : ∃ w4, w4 = w3.alloc (inCells i0) := ⟨_, rfl⟩
  have hb5' : Below w4.heap.size w4 w5 := by rw [hw4]; exact hb5
  have hB4 : Below w.heap.size w w4 := by rw [hw4]; exact hB3.alloc hB3.size _
  have hi4 : w4.heap[w3.heap.size]? = some (inCells i0) := by rw [hw4]; exact World.alloc_heap_new w3 _
  have hr4 : w4.heap[w.heap.size]? = some (inCells noIn) := by rw [hw4]; exact (Below.heap_alloc _ _ _ (Sim.lt_of_some hr3)).trans hr3
  have hB5 : Below w.heap.size w w5 := hB4.trans (hb5'.mono hB4.size)
  have hi5 := (hb5'.block _ (Sim.lt_of_some hi4)).trans hi4
  have hr5 := (hb5'.block _ (Sim.lt_of_some hr4)).trans hr4
  clear hb5
  have hlt1 : w.heap.size < w3.heap.size := Sim.lt_of_some hr3
  have hlt2 : w3.heap.size < w5.heap.size := Sim.lt_of_some hi5
  have hl6 : ((w5.alloc (.cells #[.string (layK (layC i0.op))] 9)).alloc (.cells #[.string (cutB s)] 9)).heap[w5.heap.size]? = some (.cells #[.string (layK (layC i0.op))] 9 (0, 0)) := (Below.heap_alloc _ _ _ (by simp)).trans (World.alloc_heap_new w5 _)
  have hs6 : ((w5.alloc (.cells #[.string (layK (layC i0.op))] 9)).alloc (.cells #[.string (cutB s)] 9)).heap[w5.heap.size + 1]? = some (.cells #[.string (cutB s)] 9 (0, 0)) := by
    have := World.alloc_heap_new (w5.alloc (.cells #[.string (layK (layC i0.op))] 9)) (.cells #[.string (cutB s)] 9)
    rwa [World.size_alloc] at this
  have hi6 : ((w5.alloc (.cells #[.string (layK (layC i0.op))] 9)).alloc (.cells #[.string (cutB s)] 9)).heap[w3.heap.size]? = some (inCells i0) := (Below.heap_alloc _ _ _ (by simp; omega)).trans ((Below.heap_alloc _ _ _ hlt2).trans hi5)
  have hr6 : ((w5.alloc (.cells #[.string (layK (layC i0.op))] 9)).alloc (.cells #[.string (cutB s)] 9)).heap[w.heap.size]? = some (inCells noIn) := (Below.heap_alloc _ _ _ (by simp; omega)).trans ((Below.heap_alloc _ _ _ (by omega)).trans hr5)
  have hB6 : Below w.heap.size w ((w5.alloc (.cells #[.string (layK (layC i0.op))] 9)).alloc (.cells #[.string (cutB s)] 9)) := (hB5.alloc hB5.size _).alloc (by simp; exact Nat.le_succ_of_le hB5.size) _
  have hz6 : ((w5.alloc (.cells #[.string (layK (layC i0.op))] 9)).alloc (.cells #[.string (cutB s)] 9)).heap.size = w5.heap.size + 2 := by simp
  clear hi4 hr4 hi5 hr5 hB4 hb5' hw4 hb3 hb2 hr3 hr2 HG2 Hcut Hnam
  generalize (w5.alloc (.cells #[.string (layK (layC i0.op))] 9)).alloc (.cells #[.string (cutB s)] 9) = w6 at hl6 hs6 hi6 hr6 hB6 hz6 ⊢
  refine hid ?_
  gi_wp2
  refine rangeFunc_out (gf := 54) (lb := #[.pointer (some ⟨w5.heap.size, 0, none⟩), .pointer (some ⟨w5.heap.size + 1, 0, none⟩)]) rfl (fun _ => by omega) rfl trivial (enters_of Tryz.func54 (by kernel_rfl) rfl) fun fn hfn rec hrec => ?_
  simp only [List.append_toArray, List.cons_append, List.nil_append]
  have ho : Ord6 w w.heap.size w3.heap.size w5.heap.size (w5.heap.size + 1) w6.heap.size (w6.heap.size + 1) := ⟨Nat.le_refl _, hlt1, hlt2, by omega, by omega, by omega⟩
  have k1 := Below.heap_alloc w6 (.deferred (some []))
  have k2 := Below.heap_alloc (w6.alloc (.deferred (some []))) (.loop rec)
  have hk : ∀ k, k < w6.heap.size → ((w6.alloc (.deferred (some []))).alloc (.loop rec)).heap[k]? = w6.heap[k]? := fun k h => (k2 k (by simp; omega)).trans (k1 k h)
  have hPK : PK w w.heap.size w3.heap.size w5.heap.size w6.heap.size (w6.heap.size + 1) rec (layK (layC i0.op)) (fI i0 []) ((w6.alloc (.deferred (some []))).alloc (.loop rec)) := by
    refine ⟨(hB6.alloc hB6.size _).alloc (by simp; exact Nat.le_succ_of_le hB6.size) _, (hk _ (Sim.lt_of_some hr6)).trans hr6, (hk _ (Sim.lt_of_some hi6)).trans hi6, (hk _ (Sim.lt_of_some hl6)).trans hl6, (k2 _ (by simp)).trans (World.alloc_heap_new w6 _), ?_⟩
    have := World.alloc_heap_new (w6.alloc (.deferred (some []))) (.loop rec)
    rwa [World.size_alloc] at this
  have hs7 := (hk _ (Sim.lt_of_some hs6)).trans hs6
  have hrs : rec.state = .ready := by rw [hrec]
  have hrp : rec.pending = none := by rw [hrec]
  generalize (w6.alloc (.deferred (some []))).alloc (.loop rec) = W1 at hPK hs7 ⊢
  clear hk k1 k2 hl6 hs6 hi6 hr6 Hlay Hop hA hB2 hB3 hB5
  generalize hl0 : w6.heap.size + 1 = l at ho hPK ⊢
  generalize hD0 : w6.heap.size = D at ho hPK hrec ⊢
  clear hl0 hD0 hz6
  have Hrec := hid hrec
  clear hrec
  refine (operands_in w w.heap.size w3.heap.size w5.heap.size (w5.heap.size + 1) D l rec (layK (layC i0.op)) (cutB s) (fI i0) ho (Nat.le_trans (cutB_size s) (by omega)) (lay_ascii _) ?_ W1 hPK hs7 _).mono ?_
  · intro pre c x W hp hx hc m
    have hrec := Hrec.out
    have hy := run_yield (P := Tryz.prog) (args := #[.int .i32 c, .string x]) hp.hl (by rw [hrec]; rfl)
    have hlW := Sim.lt_of_some hp.hl
    have hsem := @Oper.semAt_some
    obtain ⟨rb, hrb⟩ : ∃ rb : Loop, rb = { state := .busy, pending := rec.pending, fn := rec.fn, tmps := rec.tmps, params := rec.params, assign := rec.assign, body := rec.body, defers := rec.defers } := ⟨_, rfl⟩
    have hbr := run_beginRound (P := Tryz.prog) hp.hl hrs
    rw [← hrb] at hbr
    refine ⟨_, _, _, _, hy, roundIn_of_wpIn trivial ?_⟩
    have Hbr := hid hbr
    clear hbr hy
    have e1 := congrArg Loop.tmps hrec
    have e2 := congrArg Loop.params hrec
    have e3 := congrArg Loop.assign hrec
    have e4 := congrArg Loop.body hrec
    dsimp only at e1 e2 e3 e4
    rw [e1, e2, e3, e4]
    clear e1 e2 e3 e4 hrec
    simp only [List.zip_toArray, List.zip_cons_cons, List.zip_nil_right, List.foldl_toArray', List.foldl_toArray, List.foldl_cons, List.foldl_nil, List.size_toArray, List.setIfInBounds_toArray, List.set_cons_zero, List.set_cons_succ]
    have hi : W.heap[w3.heap.size]? = some (inCells (fI i0 pre)) := hp.hin
    have hn := fI_snoc i0 pre c x
    have Hread := hid (fun W hG => (show Ret Tryz.prog 30 #[.agg #[.int .i64 (fI i0 pre).op, .int .i64 (fI i0 pre).rd, .int .i64 (fI i0 pre).a, .int .i64 (fI i0 pre).b, .int .i64 (fI i0 pre).imm, .bool (fI i0 pre).aq, .bool (fI i0 pre).rl], .int .i32 c, .string x] (.agg #[.int .i64 (fI i0 (pre ++ [(c, x)])).op, .int .i64 (fI i0 (pre ++ [(c, x)])).rd, .int .i64 (fI i0 (pre ++ [(c, x)])).a, .int .i64 (fI i0 (pre ++ [(c, x)])).b, .int .i64 (fI i0 (pre ++ [(c, x)])).imm, .bool (fI i0 (pre ++ [(c, x)])).aq, .bool (fI i0 (pre ++ [(c, x)])).rl]) W from hn ▸ read_ret hes her c (fI i0 pre) x (by show smallB x = true; simp [smallB]; omega) (by obtain ⟨u, hu, rfl, hb⟩ := hc; exact lay_letters _ u hu hb) W hG))
    clear hn
    generalize fI i0 pre = i at hi Hread hp
    generalize fI i0 (pre ++ [(c, x)]) = i' at Hread ⊢
    have hk2 : ∀ k, k ≠ l → (W.putObj l (.loop rb)).heap[k]? = W.heap[k]? := fun k h => World.putObj_heap_other h
    have hl2 : (W.putObj l (.loop rb)).heap[l]? = some (.loop rb) := World.putObj_heap_same hlW
    have hB2 := below_put hp.bel (l := l) (by have := ho; obtain ⟨o0, o1, o2, o3, o4, o5⟩ := this; omega) hlW (.loop rb)
    have hz2 := putObj_size W l (.loop rb)
    generalize W.putObj l (.loop rb) = W2 at Hbr hk2 hl2 hB2 hz2
    have hne7 : w3.heap.size ≠ l := by obtain ⟨o0, o1, o2, o3, o4, o5⟩ := ho; omega
    have hi2 : W2.heap[w3.heap.size]? = some (inCells i) := (hk2 _ hne7).trans hi
    obtain ⟨c0, c1, c2, c3, c4, c5, c6⟩ := inC_cell hi2
    have HG2 := hid (hG.below hB2)
    have Hhz := hid hz2
    clear hz2
    gi_wp2
    refine ⟨_, Hbr.out, ?_⟩
    gi_wp2_with ((refine ⟨trivial, (fun h => by cases h), ?_⟩; refine (CallsIn.inRound _ (callsIn_wide.2 (Hread.out _ HG2.out))).mono ?_; rintro e w8 ⟨rfl, hb8⟩; refine Hid.out ?_))
    have hi8 : w8.heap[w3.heap.size]? = some (inCells i) := (hb8.block _ (Sim.lt_of_some hi2)).trans hi2
    have hl8 : w8.heap[l]? = some (.loop rb) := (hb8.block _ (Sim.lt_of_some hl2)).trans hl2
    have hB8 : Below w.heap.size w w8 := hB2.trans (hb8.mono hB2.size)
    clear c0 c1 c2 c3 c4 c5 c6
    obtain ⟨c0, c1, c2, c3, c4, c5, c6⟩ := inC_cell hi8
    have f0 := inC_free hi8
    refine hid ?_
    gi_wp2
    obtain ⟨o0, o1, o2, o3, o4, o5⟩ := ho
    have hl9 : (st7 w8 w3.heap.size i').heap[l]? = some (.loop rb) := (st7_other (by omega) _).trans hl8
    have hi9 : (st7 w8 w3.heap.size i').heap[w3.heap.size]? = some (inCells i') := st7_same hi8 _
    have hend := run_endRound (P := Tryz.prog) none hl9
    have hB9 : Below w.heap.size w (st7 w8 w3.heap.size i') := st7_below hB8 (by omega) _
    have hkeep : ∀ k, k < W.heap.size → k ≠ w3.heap.size → k ≠ l → (st7 w8 w3.heap.size i').heap[k]? = W.heap[k]? := fun k h1 h2 h3 => (st7_other h2 _).trans ((hb8.block _ (by rw [Hhz.out]; exact h1)).trans (hk2 k h3))
    have hls := Sim.lt_of_some hl9
    have hrec2 : ({ state := if (none : Option Code).isNone = true then .ready else .done, pending := none, fn := rb.fn, tmps := rb.tmps, params := rb.params, assign := rb.assign, body := rb.body, defers := rb.defers } : Loop) = rec := by
      rw [hrb]; exact loop_back hrs hrp
    rw [hrec2] at hend
    refine ⟨_, _, hend, rfl, ?_, fun k h1 h2 h3 => (World.putObj_heap_other h3).trans (hkeep k h1 h2 h3)⟩
    have hk' : ∀ k, k < W.heap.size → k ≠ w3.heap.size → k ≠ l → ((st7 w8 w3.heap.size i').putObj l (.loop rec)).heap[k]? = W.heap[k]? := fun k h1 h2 h3 => (World.putObj_heap_other h3).trans (hkeep k h1 h2 h3)
    exact ⟨below_put hB9 (by omega) hls _, (hk' _ (Sim.lt_of_some hp.hres) (by omega) (by omega)).trans hp.hres, (World.putObj_heap_other hne7).trans hi9, (hk' _ (Sim.lt_of_some hp.hlay) (by omega) (by omega)).trans hp.hlay, (hk' _ (Sim.lt_of_some hp.hD) (by omega) (by omega)).trans hp.hD, World.putObj_heap_same hls⟩
  · rintro e W3 ⟨⟨v, rfl⟩, hp3⟩
    have hend := run_endLoop (P := Tryz.prog) hp3.hl (by rw [hrs]; simp)
    rw [hrp] at hend
    refine ⟨none, _, hend, ?_⟩
    generalize Loop.mk LoopState.exhausted _ _ _ _ _ _ _ = rx
    obtain ⟨o0, o1, o2, o3, o4, o5⟩ := ho
    have hls := Sim.lt_of_some hp3.hl
    have hB4 : Below w.heap.size w (W3.putObj l (.loop rx)) := below_put hp3.bel (by omega) hls _
    have hk4 : ∀ k, k ≠ l → (W3.putObj l (.loop rx)).heap[k]? = W3.heap[k]? := fun k h => World.putObj_heap_other h
    have hr4 : (W3.putObj l (.loop rx)).heap[w.heap.size]? = some (inCells noIn) := (hk4 _ (by omega)).trans hp3.hres
    have hi4 : (W3.putObj l (.loop rx)).heap[w3.heap.size]? = some (inCells (fI i0 (opRun (cutB s) (toL (layK (layC i0.op)))).1)) := (hk4 _ (by omega)).trans hp3.hin
    have hD4 : (W3.putObj l (.loop rx)).heap[D]? = some (.deferred (some [])) := (hk4 _ (by omega)).trans hp3.hD
    generalize W3.putObj l (.loop rx) = W4 at hB4 hr4 hi4 hD4 ⊢
    clear hk4 hp3 hend
    obtain ⟨i, hi⟩ : ∃ i, parL i0 s = i := ⟨_, rfl⟩
    rw [show fI i0 (opRun (cutB s) (toL (layK (layC i0.op)))).1 = i from hi] at hi4
    have Hi := hid hi
    clear hi
    have HG4 := hid (hG.below hB4)
    obtain ⟨c0, c1, c2, c3, c4, c5, c6⟩ := inC_cell hi4
    have Hmay := hid (fun W hG => (show Ret Tryz.prog 13 #[.agg #[.int .i64 i.op, .int .i64 i.rd, .int .i64 i.a, .int .i64 i.b, .int .i64 i.imm, .bool i.aq, .bool i.rl]] (.bool (mayB i)) W from may_ret (gl := gl6 es er) i W hG))
    have Htx := hid (fun W hG => (show Ret Tryz.prog 7 #[.agg #[.int .i64 i.op, .int .i64 i.rd, .int .i64 i.a, .int .i64 i.b, .int .i64 i.imm, .bool i.aq, .bool i.rl]] (.string (textZ i)) W from text_ret es er i W hG))
    cases hm : mayB i
    · rw [hm] at Hmay
      gi_wp2_with ((refine ⟨trivial, ?_⟩; refine (callsIn_wide.2 (Hmay.out _ HG4.out)).mono ?_; rintro e w5 ⟨rfl, hb5⟩; refine Hid.out ?_))
      have hr5 : _ = some (inCells noIn) := (hb5.block _ (Sim.lt_of_some hr4)).trans hr4
      have hD5 := (hb5.block _ (Sim.lt_of_some hD4)).trans hD4
      have hB5 : Below w.heap.size w _ := hB4.trans (hb5.mono hB4.size)
      obtain ⟨d0, d1, d2, d3, d4, d5, d6⟩ := inC_cell hr5
      have f0 := inC_free hr5
      unfold noIn at d0 d1 d2 d3 d4 d5 d6
      refine hid ?_
      gi_wp2
      refine ⟨trivial, ?_⟩
      gi_wp2
      have hr7 := st7_same hr5 (noIn)
      have hD7 := (st7_other (b := w.heap.size) (i := noIn) (by omega)).trans hD5
      have hB7 := st7_below (b := w.heap.size) hB5 (Nat.le_refl _) (noIn)
      have hl7 := Sim.lt_of_some hD7
      change bodyPostM _ _ _ _ _ _ _ (st7 _ w.heap.size (noIn))
      generalize st7 _ w.heap.size (noIn) = W7 at hr7 hD7 hB7 hl7 ⊢
      refine leave_in (b := w.heap.size) rfl rfl rfl hr7 hD7 (by omega) ?_
      rw [parO_no hi0.out Hi.out (by unfold okI; rw [hm]; rfl)]
      exact ⟨rfl, below_put hB7 (by omega) hl7 _⟩
    · rw [hm] at Hmay
      gi_wp2_with ((refine ⟨trivial, ?_⟩; refine (callsIn_wide.2 (Hmay.out _ HG4.out)).mono ?_; rintro e w5 ⟨rfl, hb5⟩; refine Hid.out ?_))
      have hr5 : _ = some (inCells noIn) := (hb5.block _ (Sim.lt_of_some hr4)).trans hr4
      have hi5 : _ = some (inCells i) := (hb5.block _ (Sim.lt_of_some hi4)).trans hi4
      have hD5 := (hb5.block _ (Sim.lt_of_some hD4)).trans hD4
      have hB5 : Below w.heap.size w _ := hB4.trans (hb5.mono hB4.size)
      have HG5 := hid (hG.below hB5)
      clear c0 c1 c2 c3 c4 c5 c6
      obtain ⟨c0, c1, c2, c3, c4, c5, c6⟩ := inC_cell hi5
      refine hid ?_
      gi_wp2_with ((refine ⟨trivial, ?_⟩; refine (callsIn_wide.2 (Htx.out _ HG5.out)).mono ?_; rintro e w6 ⟨rfl, hb6⟩; refine Hid.out ?_))
      have hr6 : _ = some (inCells noIn) := (hb6.block _ (Sim.lt_of_some hr5)).trans hr5
      have hi6 : _ = some (inCells i) := (hb6.block _ (Sim.lt_of_some hi5)).trans hi5
      have hD6 := (hb6.block _ (Sim.lt_of_some hD5)).trans hD5
      have hB6 : Below w.heap.size w _ := hB5.trans (hb6.mono hB5.size)
      clear c0 c1 c2 c3 c4 c5 c6
      obtain ⟨c0, c1, c2, c3, c4, c5, c6⟩ := inC_cell hi6
      obtain ⟨d0, d1, d2, d3, d4, d5, d6⟩ := inC_cell hr6
      have f0 := inC_free hr6
      unfold noIn at d0 d1 d2 d3 d4 d5 d6
      cases ht : (textZ i).toList == s.toList
      · refine hid ?_
        gi_wp2
        have hr7 := st7_same hr6 (noIn)
        have hD7 := (st7_other (b := w.heap.size) (i := noIn) (by omega)).trans hD6
        have hB7 := st7_below (b := w.heap.size) hB6 (Nat.le_refl _) (noIn)
        have hl7 := Sim.lt_of_some hD7
        change bodyPostM _ _ _ _ _ _ _ (st7 _ w.heap.size (noIn))
        generalize st7 _ w.heap.size (noIn) = W7 at hr7 hD7 hB7 hl7 ⊢
        refine leave_in (b := w.heap.size) rfl rfl rfl hr7 hD7 (by omega) ?_
        rw [parO_no hi0.out Hi.out (by unfold okI; rw [hm, ht]; rfl)]
        exact ⟨rfl, below_put hB7 (by omega) hl7 _⟩
      · refine hid ?_
        gi_wp2
        have hr7 := st7_same hr6 (i)
        have hD7 := (st7_other (b := w.heap.size) (i := i) (by omega)).trans hD6
        have hB7 := st7_below (b := w.heap.size) hB6 (Nat.le_refl _) (i)
        have hl7 := Sim.lt_of_some hD7
        change bodyPostM _ _ _ _ _ _ _ (st7 _ w.heap.size (i))
        generalize st7 _ w.heap.size (i) = W7 at hr7 hD7 hB7 hl7 ⊢
        refine leave_in (b := w.heap.size) rfl rfl rfl hr7 hD7 (by omega) ?_
        rw [parO_yes hi0.out Hi.out (by unfold okI; rw [hm, ht]; rfl)]
        exact ⟨rfl, below_put hB7 (by omega) hl7 _⟩
end Go.Proofs.YtgcglmnbkilfhaaGreatDoor
