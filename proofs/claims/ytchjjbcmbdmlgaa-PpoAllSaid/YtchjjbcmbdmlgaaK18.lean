/- Open, Open2, Opa16, Opf16, Opn16. -/
import Derived.Test.YtchjjbcmbdmlgaaK13
import Derived.Test.YtchjjbcmbdmlgaaRows
import Derived.WalkKit
import Derived.ProofKit
import Derived.OpenShut
import Derived.ChangeOld
import Derived.Below
import Derived.Lib.SmallJoins
import Derived.Deep.Strs
set_option linter.unusedVariables false
set_option linter.unusedSimpArgs false
namespace Go.Proofs.Ytchjjbcmbdmlgaa
open Go.ChangeShapes Go.WideShapes Go.ChangeAt Go.RowKit
def SliceIn (k : IntKind) (w : World) (a : Option Addr) (len cap : Nat) (zs : List Int) : Prop :=
  len ≤ cap ∧ cap ≤ maxLen ∧ zs.length = cap ∧ (∀ n ∈ zs, (Lit.int k n).wf = true) ∧
    (0 < cap → ∃ b off, a = some ⟨b, off, none⟩ ∧ b < w.heap.size ∧ ∀ i, i < cap → w.cell? ⟨b, off + i, none⟩ = some (.int k (zs.getD i 0)))
section
variable {H : Type} {enc : TypeId × Value → H} {P : Program} {w : World} {base : Nat} {spare : Nat → Bool} {held : Bool}
theorem slice_in {t e : TypeId} {k : IntKind} {a : Option Addr} {len cap : Nat} {d : DataW H} {p : List MemPlace} (ht : P.underlying t = some (.slice e)) (he : P.underlying e = some (.int k)) (hC : P.cellsOf e = 1)
    (h : DataW.Trod enc P w 0 (fun _ => true) true t (.slice a len cap) d p) : ∃ zs, SliceIn k w a len cap zs := by
  obtain ⟨fuel, hf⟩ := h
  rcases open_ints ht he hC hf with ⟨hcs, _⟩ | ⟨x, l, c, zs, hcs, _, hl, hm, hz, _, hcell, hwz⟩
  · simp [Value.cells] at hcs
    obtain ⟨rfl, rfl, rfl⟩ := hcs
    exact ⟨[], by omega, by simp, rfl, by simp, fun h => by omega⟩
  · simp [Value.cells] at hcs
    obtain ⟨rfl, rfl, rfl⟩ := hcs
    have hz' : zs.length = cap := by simpa using hz
    refine ⟨zs, hl, hm, hz', hwz, fun hp => ?_⟩
    obtain ⟨b, off, rfl, hc⟩ := ints_at hcell (by omega)
    refine ⟨b, off, rfl, ?_, fun i hi => hc i (by omega)⟩
    have h0 := hc 0 (by omega)
    rcases Nat.lt_or_ge b w.heap.size with hlt | hge
    · exact hlt
    · simp [World.cell?, Array.getElem?_eq_none hge] at h0
end
end Go.Proofs.Ytchjjbcmbdmlgaa
namespace Go.Proofs.Ytchjjbcmbdmlgaa
open Go.Joins Go.ChangeShapes Go.WideShapes Go.RowKit Go.Deep
abbrev FK := Option (Option IntKind)
def FV1 : FK → Value → Prop
  | some (some k), v => ∃ n, v = .int k n ∧ (Lit.int k n).wf = true
  | none, v => ∃ b, v = .bool b
  | some none, v => ∃ s, v = .string s ∧ s.size ≤ maxLen
def FV : List FK → List Value → Prop
  | [], [] => True
  | k :: q, v :: r => FV1 k v ∧ FV q r
  | _, _ => False
theorem fv_cons {k : FK} {q : List FK} {cs : List Value} (h : FV (k :: q) cs) : ∃ v r, cs = v :: r ∧ FV1 k v ∧ FV q r := by
  cases cs with
  | nil => exact h.elim
  | cons v r => exact ⟨v, r, rfl, h.1, h.2⟩
theorem fv_nil {cs : List Value} (h : FV [] cs) : cs = [] := by
  cases cs with
  | nil => rfl
  | cons v r => exact h.elim
section
variable {H : Type} {enc : TypeId × Value → H} {P : Program} {w : World} {base : Nat} {spare : Nat → Bool} {held : Bool}
end
end Go.Proofs.Ytchjjbcmbdmlgaa
namespace Go.Proofs.Ytchjjbcmbdmlgaa
open Go.RowKit Go.ChangeShapes Go.WideShapes Go.ChangeAt Go.Deep
section
variable {H : Type} {enc : TypeId × Value → H} {P : Program} {w : World}
theorem slice_cell {t e : TypeId} {n : Nat} {c : Value} {y : DataW H × List MemPlace} (ht : P.underlying t = some (.slice e)) (h : DataW.trod enc P w 0 (fun _ => true) true n t [c] = some y) : ∃ a len cap, c = .slice a len cap ∧ DataW.Trod enc P w 0 (fun _ => true) true t (.slice a len cap) y.1 y.2 := by
  rcases DataW.trod_slice ht h with ⟨hcs, _⟩ | ⟨a0, len0, cap0, _, _, _, _, hcs, _⟩
  · have hc : c = .slice none 0 0 := by simpa [Value.cells] using hcs
    subst hc
    exact ⟨none, 0, 0, rfl, n, h⟩
  · have hc : c = .slice (some a0) len0 cap0 := by simpa [Value.cells] using hcs
    subst hc
    exact ⟨_, _, _, rfl, n, h⟩
theorem slice_any {t e : TypeId} {S : Nat} {a : Option Addr} {len cap : Nat} {d : DataW H} {p : List MemPlace} (ht : P.underlying t = some (.slice e)) (hC : P.cellsOf e = S) (hpos : 0 < S)
    (h : DataW.Trod enc P w 0 (fun _ => true) true t (.slice a len cap) d p) :
    len ≤ cap ∧ cap ≤ maxLen ∧ (0 < len → ∃ b off, a = some ⟨b, off, none⟩ ∧ b < w.heap.size ∧ ∀ j, j < len → ∃ cs m y, cs.length = S ∧ DataW.trod enc P w 0 (fun _ => true) true m e cs = some y ∧ ∀ (o : Nat) c, cs[o]? = some c → w.cell? ⟨b, off + j * S + o, none⟩ = some c) := by
  obtain ⟨fuel, hf⟩ := h
  rcases DataW.trod_slice ht hf with ⟨hcs, _⟩ | ⟨a0, len0, cap0, elems, rest, m, _, hcs, _, _, hl, hm, hlen, hel, _, _⟩
  · simp [Value.cells] at hcs
    obtain ⟨rfl, rfl, rfl⟩ := hcs
    exact ⟨Nat.le_refl _, by simp, fun h => by omega⟩
  · simp [Value.cells] at hcs
    obtain ⟨rfl, rfl, rfl⟩ := hcs
    refine ⟨hl, hm, fun hp => ?_⟩
    rw [hC] at hel
    have each : ∀ j, j < len → ∃ cs y, DataW.trod enc P w 0 (fun _ => true) true m e cs = some y ∧ cs.length = S ∧ ∀ o, o < S → w.cell? ((a0.add (j * S)).add o) = cs[o]? := by
      intro j hj
      have h0 := hel j hj
      rw [List.getElem?_eq_getElem (by omega), Option.bind_eq_some_iff] at h0
      obtain ⟨cs, hc, hy⟩ := h0
      have hc' : (List.range S).mapM (fun i => w.cell? ((a0.add (j * S)).add i)) = some cs := by
        unfold World.cells? at hc
        simpa using hc
      refine ⟨cs, _, hy, by simpa using mapM_some_length hc', fun o ho => ?_⟩
      exact mapM_some_get hc' o o (by simp [ho])
    obtain ⟨b, off, spot⟩ := a0
    have hspot : spot = none := by
      obtain ⟨cs, y, _, hcl, hc⟩ := each 0 hp
      have h1 := hc 0 hpos
      rw [List.getElem?_eq_getElem (by omega)] at h1
      simpa [Addr.add] using World.cell?_spot h1
    subst hspot
    refine ⟨b, off, rfl, ?_, fun j hj => ?_⟩
    · obtain ⟨cs, y, _, hcl, hc⟩ := each 0 hp
      have h1 := hc 0 hpos
      rw [List.getElem?_eq_getElem (by omega), Go.WideShapes.add_plain, Go.WideShapes.add_plain] at h1
      rcases Nat.lt_or_ge b w.heap.size with hlt | hge
      · exact hlt
      · simp [World.cell?, Array.getElem?_eq_none hge] at h1
    · obtain ⟨cs, y, hy, hcl, hc⟩ := each j hj
      refine ⟨cs, m, y, hcl, hy, fun o c ho => ?_⟩
      have hol : o < S := by
        rw [← hcl]
        exact (List.getElem?_eq_some_iff.1 ho).1
      have h1 := hc o hol
      rw [Go.WideShapes.add_plain, Go.WideShapes.add_plain, ho] at h1
      exact h1
end
end Go.Proofs.Ytchjjbcmbdmlgaa
namespace Go.Proofs.Ytchjjbcmbdmlgaa
open Go.Joins Go.ChangeShapes Go.WideShapes Go.RowKit Go.Deep
def flatF (P : Program) (rec : TypeId → Option (List FK)) : List Field → Nat → Option (List FK)
  | [], _ => some []
  | f :: r, off => bif Nat.beq f.offset off then (match rec f.type with
    | some ks => bif Nat.beq ks.length (P.cellsOf f.type) then (match flatF P rec r (off + ks.length) with
      | some l => some (ks ++ l)
      | none => none) else none
    | none => none) else none
def flatK (P : Program) : Nat → TypeId → Option (List FK)
  | 0, _ => none
  | n + 1, t => match P.underlying t with
    | some .bool => some [none]
    | some (.int k) => some [some (some k)]
    | some .string => some [some none]
    | some (.struct fs) => match flatF P (flatK P n) fs.toList 0 with
      | some l => bif Nat.beq l.length (P.cellsOf t) then some l else none
      | none => none
    | some (.array m e) => match flatK P n e with
      | some l => bif Nat.beq l.length (P.cellsOf e) && Nat.beq (m * l.length) (P.cellsOf t) then some (List.replicate m l).flatten else none
      | none => none
    | _ => none
theorem fv_app : ∀ {ks ls : List FK} {cs : List Value}, FV ks (cs.take ks.length) → FV ls (cs.drop ks.length) → FV (ks ++ ls) cs
  | [], ls, cs, _, h => by simpa using h
  | k :: ks, ls, [], h, _ => h.elim
  | k :: ks, ls, c :: cs, h, h2 => ⟨h.1, fv_app (ks := ks) h.2 h2⟩
section
variable {H : Type} {enc : TypeId × Value → H} {P : Program} {w : World} {base : Nat} {spare : Nat → Bool} {held : Bool}
theorem flatF_ok {rec : TypeId → Option (List FK)} {cs : List Value} : ∀ (fs : List Field) (off : Nat) (l : List FK), flatF P rec fs off = some l →
    (∀ f ∈ fs, ∀ ks, rec f.type = some ks → FV ks ((cs.drop f.offset).take (P.cellsOf f.type))) → FV l ((cs.drop off).take l.length)
  | [], off, l, h, _ => by simp only [flatF, Option.some.injEq] at h; subst h; trivial
  | f :: r, off, l, h, hall => by
    unfold flatF at h
    cases hb : Nat.beq f.offset off
    · rw [hb] at h; cases h
    · rw [hb] at h
      simp only [cond_true] at h
      have hoff := Nat.eq_of_beq_eq_true hb
      split at h
      · rename_i ks hks
        cases hb2 : Nat.beq ks.length (P.cellsOf f.type)
        · rw [hb2] at h; cases h
        · rw [hb2] at h
          simp only [cond_true] at h
          have hk := Nat.eq_of_beq_eq_true hb2
          split at h
          · rename_i l' hl'
            simp only [Option.some.injEq] at h
            subst h
            have h1 := hall f List.mem_cons_self ks hks
            rw [hoff, ← hk] at h1
            have h2 := flatF_ok r (off + ks.length) l' hl' fun f' hf' => hall f' (List.mem_cons_of_mem _ hf')
            refine fv_app ?_ ?_
            · rw [List.length_append, List.take_take, Nat.min_eq_left (by omega)]; exact h1
            · rw [List.length_append, List.drop_take, List.drop_drop, Nat.add_sub_cancel_left]; exact h2
          · cases h
      · cases h
theorem flatA_ok {l : List FK} {cs : List Value} : ∀ (m i : Nat), (∀ j, j < m → FV l ((cs.drop ((i + j) * l.length)).take l.length)) → FV (List.replicate m l).flatten ((cs.drop (i * l.length)).take (m * l.length))
  | 0, i, _ => by simp; trivial
  | m + 1, i, h => by
    rw [List.replicate_succ, List.flatten_cons]
    have ih := flatA_ok m (i + 1) fun j hj => by
      have := h (j + 1) (by omega)
      rwa [show i + (j + 1) = i + 1 + j by omega] at this
    refine fv_app ?_ ?_
    · have := h 0 (by omega)
      rw [Nat.add_zero] at this
      rw [List.take_take, Nat.min_eq_left (by rw [Nat.add_mul, Nat.one_mul]; omega)]; exact this
    · rw [List.drop_take, List.drop_drop, Nat.add_mul, Nat.one_mul, Nat.add_sub_cancel]
      rw [Nat.add_mul, Nat.one_mul] at ih
      exact ih
theorem flat_cells : ∀ (n : Nat) {t : TypeId} {ks : List FK} {cs : List Value} {fuel : Nat} {y : DataW H × List MemPlace}, flatK P n t = some ks → DataW.trod enc P w base spare held fuel t cs = some y → FV ks cs
  | 0, t, ks, cs, fuel, y, h, _ => by simp [flatK] at h
  | n + 1, t, ks, cs, fuel, y, h, hf => by
    unfold flatK at h
    split at h
    · rename_i hu
      simp only [Option.some.injEq] at h; subst h
      obtain ⟨m, h0, _⟩ := DataW.trod_bool hu hf
      subst h0; exact ⟨⟨m, rfl⟩, trivial⟩
    · rename_i k hu
      simp only [Option.some.injEq] at h; subst h
      obtain ⟨m, h0, _, hw⟩ := DataW.trod_int hu hf
      subst h0; exact ⟨⟨m, rfl, hw⟩, trivial⟩
    · rename_i hu
      simp only [Option.some.injEq] at h; subst h
      obtain ⟨m, h0, _, hm⟩ := DataW.trod_string hu hf
      subst h0; exact ⟨⟨m, rfl, hm⟩, trivial⟩
    · rename_i fs hu
      obtain ⟨xs, m, _, _, hcs, hlen, hg⟩ := DataW.trod_struct hu hf
      split at h
      · rename_i l hl
        cases hb : Nat.beq l.length (P.cellsOf t)
        · rw [hb] at h; cases h
        · rw [hb] at h
          simp only [cond_true, Option.some.injEq] at h
          subst h
          have := flatF_ok (P := P) (cs := cs) fs.toList 0 l hl fun f hfm ks hks => by
            obtain ⟨j, hj, rfl⟩ := List.getElem_of_mem hfm
            have hj2 : j < fs.size := by simpa using hj
            have h1 := hg j fs.toList[j] (by simp [hj2])
            rw [List.getElem?_eq_getElem (by omega)] at h1
            exact flat_cells n hks h1
          rw [List.drop_zero, Nat.eq_of_beq_eq_true hb, ← hcs, List.take_length] at this
          exact this
      · cases h
    · rename_i m e hu
      obtain ⟨xs, m', _, _, hcs, hlen, hg⟩ := DataW.trod_array hu hf
      split at h
      · rename_i l hl
        cases hb : (Nat.beq l.length (P.cellsOf e) && Nat.beq (m * l.length) (P.cellsOf t))
        · rw [hb] at h; cases h
        · rw [hb] at h
          simp only [cond_true, Option.some.injEq] at h
          subst h
          rw [Bool.and_eq_true] at hb
          have h1 := Nat.eq_of_beq_eq_true hb.1
          have h2 := Nat.eq_of_beq_eq_true hb.2
          have := flatA_ok (l := l) (cs := cs) m 0 fun j hj => by
            have h3 := hg j hj
            rw [List.getElem?_eq_getElem (by omega), ← h1] at h3
            rw [Nat.zero_add]
            exact flat_cells n hl h3
          rw [Nat.zero_mul, List.drop_zero, h2, ← hcs, List.take_length] at this
          exact this
      · cases h
    · cases h
theorem slice_flat {n : Nat} {t e : TypeId} {ks : List FK} {a : Option Addr} {len cap : Nat} {d : DataW H} {p : List MemPlace} (ht : P.underlying t = some (.slice e)) (hk : flatK P n e = some ks) (hC : P.cellsOf e = ks.length) (hpos : 0 < ks.length)
    (h : DataW.Trod enc P w 0 (fun _ => true) true t (.slice a len cap) d p) :
    len ≤ cap ∧ cap ≤ maxLen ∧ (0 < len → ∃ b off, a = some ⟨b, off, none⟩ ∧ b < w.heap.size ∧ ∀ j, j < len → ∃ cs, FV ks cs ∧ ∀ (o : Nat) c, cs[o]? = some c → w.cell? ⟨b, off + j * ks.length + o, none⟩ = some c) := by
  obtain ⟨fuel, hf⟩ := h
  rcases DataW.trod_slice ht hf with ⟨hcs, _⟩ | ⟨a0, len0, cap0, elems, rest, m, _, hcs, _, _, hl, hm, hlen, hel, _, _⟩
  · simp [Value.cells] at hcs
    obtain ⟨rfl, rfl, rfl⟩ := hcs
    exact ⟨Nat.le_refl _, by simp, fun h => by omega⟩
  · simp [Value.cells] at hcs
    obtain ⟨rfl, rfl, rfl⟩ := hcs
    refine ⟨hl, hm, fun hp => ?_⟩
    rw [hC] at hel
    have each : ∀ j, j < len → ∃ cs, FV ks cs ∧ cs.length = ks.length ∧ ∀ o, o < ks.length → w.cell? ((a0.add (j * ks.length)).add o) = cs[o]? := by
      intro j hj
      have h0 := hel j hj
      rw [List.getElem?_eq_getElem (by omega), Option.bind_eq_some_iff] at h0
      obtain ⟨cs, hc, hy⟩ := h0
      have hc' : (List.range ks.length).mapM (fun i => w.cell? ((a0.add (j * ks.length)).add i)) = some cs := by
        unfold World.cells? at hc
        simpa using hc
      refine ⟨cs, flat_cells n hk hy, by simpa using mapM_some_length hc', fun o ho => ?_⟩
      exact mapM_some_get hc' o o (by simp [ho])
    obtain ⟨b, off, spot⟩ := a0
    have hspot : spot = none := by
      obtain ⟨cs, _, hcl, hc⟩ := each 0 hp
      have h1 := hc 0 hpos
      rw [List.getElem?_eq_getElem (by omega)] at h1
      simpa [Addr.add] using World.cell?_spot h1
    subst hspot
    refine ⟨b, off, rfl, ?_, fun j hj => ?_⟩
    · obtain ⟨cs, _, hcl, hc⟩ := each 0 hp
      have h1 := hc 0 hpos
      rw [List.getElem?_eq_getElem (by omega), Go.WideShapes.add_plain, Go.WideShapes.add_plain] at h1
      rcases Nat.lt_or_ge b w.heap.size with hlt | hge
      · exact hlt
      · simp [World.cell?, Array.getElem?_eq_none hge] at h1
    · obtain ⟨cs, hfv, hcl, hc⟩ := each j hj
      refine ⟨cs, hfv, fun o c ho => ?_⟩
      have hol : o < ks.length := by
        rw [← hcl]
        exact (List.getElem?_eq_some_iff.1 ho).1
      have h1 := hc o hol
      rw [Go.WideShapes.add_plain, Go.WideShapes.add_plain, ho] at h1
      exact h1
end
end Go.Proofs.Ytchjjbcmbdmlgaa
namespace Go.Proofs.Ytchjjbcmbdmlgaa
open Go Go.RowKit Go.Joins Go.ChangeShapes Go.WideShapes Go.ChangeAt Go.Deep
theorem isN_of {n : Int} (h : (Lit.int .i64 n).wf = true) : isN n := by
  have h : (decide (IntKind.min .i64 ≤ n) && decide (n ≤ IntKind.max .i64)) = true := h
  rw [Bool.and_eq_true] at h
  exact ⟨of_decide_eq_true h.1, of_decide_eq_true h.2⟩
theorem sliceIn_rdW {k : IntKind} {w : World} {a : Option Addr} {len cap : Nat} {zs : List Int} (h : SliceIn k w a len cap zs) : RdW w w.heap.size k a len := fun hp => by
  obtain ⟨h1, h2, h3, h4, h5⟩ := h
  obtain ⟨b, off, ha, hb, hc⟩ := h5 (by omega)
  exact ⟨b, off, ha, hb, fun i hi => ⟨_, hc i (by omega)⟩⟩
section
variable {H : Type} {enc : TypeId × Value → H} {w : World}
set_option maxRecDepth 100000 in
theorem im16_in {r : Reach} {b0 : Nat} {v : Value} {d : DataW H} {p : List MemPlace} (hv : Value.okWide Try.prog w r b0 25 v) (h : DataW.Trod enc Try.prog w 0 (fun _ => true) true 25 v d p) :
    ∃ qc nc cc qd nd cd qe ne ce, v = .agg #[.slice qc nc cc, .slice qd nd cd, .slice qe ne ce] ∧ nc ≤ maxLen ∧ nd ≤ maxLen ∧ RdW w w.heap.size .u32 qc nc ∧ RdW w w.heap.size .i64 qe ne := by
  obtain ⟨cs, rfl, hsz⟩ := okWide_struct Try.underlying25 hv
  obtain ⟨fuel, hf⟩ := h
  obtain ⟨y0, y1, y2, n, _, hl, h0, h1, h2⟩ := trod_struct3 Try.underlying25 hf
  obtain ⟨x0, x1, x2, hx⟩ : ∃ x0 x1 x2, cs.toList = [x0, x1, x2] := by
    have hl : cs.toList.length = 3 := hl
    match hcs : cs.toList, hl with
    | [x0, x1, x2], _ => exact ⟨x0, x1, x2, rfl⟩
  have hc : (Value.agg cs).cells.toList = [x0, x1, x2] := hx
  rw [hc] at h0 h1 h2
  have h0 : DataW.trod enc Try.prog w 0 (fun _ => true) true n 22 [x0] = some y0 := h0
  have h1 : DataW.trod enc Try.prog w 0 (fun _ => true) true n 23 [x1] = some y1 := h1
  have h2 : DataW.trod enc Try.prog w 0 (fun _ => true) true n 23 [x2] = some y2 := h2
  obtain ⟨a0, l0, q0, rfl, t0⟩ := slice_cell Try.underlying22 h0
  obtain ⟨a1, l1, q1, rfl, t1⟩ := slice_cell Try.underlying23 h1
  obtain ⟨a2, l2, q2, rfl, t2⟩ := slice_cell Try.underlying23 h2
  obtain ⟨z0, k0⟩ := slice_in (k := .u32) Try.underlying22 Try.underlying110 (by kernel_rfl) t0
  obtain ⟨z1, k1⟩ := slice_in (k := .i64) Try.underlying23 Try.underlying3 (by kernel_rfl) t1
  obtain ⟨z2, k2⟩ := slice_in (k := .i64) Try.underlying23 Try.underlying3 (by kernel_rfl) t2
  refine ⟨a0, l0, q0, a1, l1, q1, a2, l2, q2, ?_, Nat.le_trans k0.1 k0.2.1, Nat.le_trans k1.1 k1.2.1, sliceIn_rdW k0, sliceIn_rdW k2⟩
  rw [← Array.toArray_toList (xs := cs), hx]
set_option maxRecDepth 100000 in
theorem recs16_in {a : Option Addr} {len cap : Nat} {d : DataW H} {p : List MemPlace} (h : DataW.Trod enc Try.prog w 0 (fun _ => true) true 48 (.slice a len cap) d p) :
    len ≤ maxLen ∧ (0 < len → ∃ b o, a = some ⟨b, o, none⟩ ∧ b < w.heap.size ∧ ∀ i, i < len → RecN w b (o + i * 6)) := by
  obtain ⟨hl, hm, hc⟩ := slice_flat (n := 4) (ks := [some (some .i64), some (some .i64), some (some .i64), some (some .i64), none, none]) Try.underlying48 (by kernel_rfl) (by kernel_rfl) (by decide) h
  refine ⟨Nat.le_trans hl hm, fun hp => ?_⟩
  obtain ⟨b, off, rfl, hb, hx⟩ := hc hp
  refine ⟨b, off, rfl, hb, fun i hi => ?_⟩
  obtain ⟨cs, hfv, hcs⟩ := hx i hi
  obtain ⟨_, _, rfl, ⟨x0, rfl, w1⟩, h1⟩ := fv_cons hfv
  obtain ⟨_, _, rfl, ⟨x1, rfl, w2⟩, h2⟩ := fv_cons h1
  obtain ⟨_, _, rfl, ⟨x2, rfl, w3⟩, h3⟩ := fv_cons h2
  obtain ⟨_, _, rfl, ⟨x3, rfl, w4⟩, h4⟩ := fv_cons h3
  obtain ⟨_, _, rfl, ⟨x4, rfl⟩, h5⟩ := fv_cons h4
  obtain ⟨_, _, rfl, ⟨x5, rfl⟩, h6⟩ := fv_cons h5
  rw [fv_nil h6] at hcs
  refine ⟨⟨x0, x1, x2, x3, x4, x5⟩, isN_of w2, fun k hk => ?_⟩
  have : k = 0 ∨ k = 1 ∨ k = 2 ∨ k = 3 ∨ k = 4 ∨ k = 5 := by omega
  rcases this with rfl | rfl | rfl | rfl | rfl | rfl <;> exact hcs _ _ rfl
theorem recN_E {b o : Nat} (h : RecN w b o) : RecE w b o := by
  obtain ⟨r, _, hc⟩ := h
  exact ⟨r.pc, r.val, r.sh, r.sa, r.wt, r.fl, hc 0 (by omega), hc 1 (by omega), hc 2 (by omega), hc 3 (by omega), hc 4 (by omega), hc 5 (by omega)⟩
set_option maxRecDepth 100000 in
theorem refs16_in {a : Option Addr} {len cap : Nat} {d : DataW H} {p : List MemPlace} (h : DataW.Trod enc Try.prog w 0 (fun _ => true) true 88 (.slice a len cap) d p) :
    len ≤ maxLen ∧ RowW w.heap.size (RefE w) 2 a len := by
  obtain ⟨hl, hm, hc⟩ := slice_flat (n := 4) (ks := [some (some .i64), some (some .i64)]) Try.underlying88 (by kernel_rfl) (by kernel_rfl) (by decide) h
  refine ⟨Nat.le_trans hl hm, fun hp => ?_⟩
  obtain ⟨b, off, rfl, hb, hx⟩ := hc hp
  refine ⟨b, off, rfl, hb, fun i hi => ?_⟩
  obtain ⟨cs, hfv, hcs⟩ := hx i hi
  obtain ⟨_, _, rfl, ⟨x0, rfl, w1⟩, h1⟩ := fv_cons hfv
  obtain ⟨_, _, rfl, ⟨x1, rfl, w2⟩, h2⟩ := fv_cons h1
  rw [fv_nil h2] at hcs
  exact ⟨x0, x1, hcs 0 _ rfl, hcs 1 _ rfl⟩
set_option maxRecDepth 100000 in
theorem harts16_in {a : Option Addr} {len cap : Nat} {d : DataW H} {p : List MemPlace} (h : DataW.Trod enc Try.prog w 0 (fun _ => true) true 26 (.slice a len cap) d p) :
    len ≤ maxLen ∧ RowW w.heap.size (HrtE w w.heap.size) 1 a len ∧ ∃ L, CdN w w.heap.size a len L := by
  obtain ⟨hl, hm, hc⟩ := slice_any Try.underlying26 (S := 1) (by kernel_rfl) (by decide) h
  refine ⟨Nat.le_trans hl hm, ?_⟩
  rcases Nat.eq_zero_or_pos len with h0 | hp
  · subst h0
    exact ⟨fun h => absurd h (Nat.lt_irrefl 0), fun _ => 0, fun h => absurd h (Nat.lt_irrefl 0)⟩
  obtain ⟨b, off, rfl, hb, hcell⟩ := hc hp
  have each : ∀ i, i < len → ∃ a0 l0 q0, w.cell? ⟨b, off + i, none⟩ = some (.slice a0 l0 q0) ∧ l0 ≤ maxLen ∧ (0 < l0 → ∃ b' o', a0 = some ⟨b', o', none⟩ ∧ b' < w.heap.size ∧ ∀ j, j < l0 → RecN w b' (o' + j * 6)) := fun i hi => by
    obtain ⟨cs, m, y, hcl, hy, hcs⟩ := hcell i hi
    match cs, hcl with
    | [x0], _ =>
      obtain ⟨a0, l0, q0, rfl, hT⟩ := slice_cell Try.underlying48 hy
      have h1 := hcs 0 _ rfl
      rw [Nat.mul_one, Nat.add_zero] at h1
      exact ⟨a0, l0, q0, h1, recs16_in hT⟩
  have each2 : ∀ i, ∃ l0, i < len → ∃ a0 q0, w.cell? ⟨b, off + i, none⟩ = some (.slice a0 l0 q0) ∧ l0 ≤ maxLen ∧ (0 < l0 → ∃ b' o', a0 = some ⟨b', o', none⟩ ∧ b' < w.heap.size ∧ ∀ j, j < l0 → RecN w b' (o' + j * 6)) := fun i => by
    by_cases hi : i < len
    · obtain ⟨a0, l0, q0, h1⟩ := each i hi
      exact ⟨l0, fun _ => ⟨a0, q0, h1⟩⟩
    · exact ⟨0, fun h => absurd h hi⟩
  refine ⟨fun _ => ⟨b, off, rfl, hb, fun i hi => ?_⟩, fun i => Classical.choose (each2 i), fun _ => ⟨b, off, rfl, hb, fun j hj => Classical.choose_spec (each2 j) hj⟩⟩
  obtain ⟨a0, l0, q0, h1, h2, h3⟩ := each i hi
  rw [Nat.mul_one]
  refine ⟨a0, l0, q0, h1, h2, fun hp => ?_⟩
  obtain ⟨b', o', rfl, h4, h5⟩ := h3 hp
  exact ⟨b', o', rfl, h4, fun j hj => recN_E (h5 j hj)⟩
set_option maxRecDepth 100000 in
theorem rows16_in {a : Option Addr} {len cap : Nat} {d : DataW H} {p : List MemPlace} (h : DataW.Trod enc Try.prog w 0 (fun _ => true) true 27 (.slice a len cap) d p) :
    len ≤ maxLen ∧ RowW w.heap.size (StoE w w.heap.size) 2 a len := by
  obtain ⟨hl, hm, hc⟩ := slice_any Try.underlying27 (S := 2) (by kernel_rfl) (by decide) h
  refine ⟨Nat.le_trans hl hm, fun hp => ?_⟩
  obtain ⟨b, off, rfl, hb, hcell⟩ := hc hp
  refine ⟨b, off, rfl, hb, fun i hi => ?_⟩
  obtain ⟨cs, m, y, hcl, hy, hcs⟩ := hcell i hi
  obtain ⟨y0, y1, n, _, _, t0, t1⟩ := trod_struct2 Try.underlying100 hy
  match cs, hcl with
  | [x0, x1], _ =>
    have t0 : DataW.trod enc Try.prog w 0 (fun _ => true) true n 3 [x0] = some y0 := t0
    have t1 : DataW.trod enc Try.prog w 0 (fun _ => true) true n 88 [x1] = some y1 := t1
    obtain ⟨a0, l0, q0, rfl, hT⟩ := slice_cell Try.underlying88 t1
    obtain ⟨z, hz, _, hw⟩ := DataW.trod_int Try.underlying3 t0
    have hz : [x0] = [Value.int .i64 z] := hz
    have hz : x0 = .int .i64 z := List.head_eq_of_cons_eq hz
    subst hz
    obtain ⟨g1, g2⟩ := refs16_in hT
    exact ⟨z, a0, l0, q0, hcs 0 _ rfl, hcs 1 _ rfl, g1, g2⟩
set_option maxRecDepth 100000 in
theorem cd16_in {r : Reach} {b0 : Nat} {v : Value} {d : DataW H} {p : List MemPlace} (hv : Value.okWide Try.prog w r b0 29 v) (h : DataW.Trod enc Try.prog w 0 (fun _ => true) true 29 v d p) :
    ∃ qh nh ch qr nr cr L, v = .agg #[.slice qh nh ch, .slice qr nr cr] ∧ CdW w w.heap.size qh nh qr nr ∧ CdN w w.heap.size qh nh L := by
  obtain ⟨cs, rfl, hsz⟩ := okWide_struct Try.underlying29 hv
  obtain ⟨fuel, hf⟩ := h
  obtain ⟨y0, y1, n, _, hl, h0, h1⟩ := trod_struct2 Try.underlying29 hf
  obtain ⟨x0, x1, hx⟩ : ∃ x0 x1, cs.toList = [x0, x1] := by
    have hl : cs.toList.length = 2 := hl
    match hcs : cs.toList, hl with
    | [x0, x1], _ => exact ⟨x0, x1, rfl⟩
  have hc : (Value.agg cs).cells.toList = [x0, x1] := hx
  rw [hc] at h0 h1
  have h0 : DataW.trod enc Try.prog w 0 (fun _ => true) true n 26 [x0] = some y0 := h0
  have h1 : DataW.trod enc Try.prog w 0 (fun _ => true) true n 27 [x1] = some y1 := h1
  obtain ⟨a0, l0, q0, rfl, t0⟩ := slice_cell Try.underlying26 h0
  obtain ⟨a1, l1, q1, rfl, t1⟩ := slice_cell Try.underlying27 h1
  obtain ⟨g1, g2, L, g3⟩ := harts16_in t0
  obtain ⟨k1, k2⟩ := rows16_in t1
  refine ⟨a0, l0, q0, a1, l1, q1, L, ?_, ⟨g1, k1, g2, k2⟩, g3⟩
  rw [← Array.toArray_toList (xs := cs), hx]
end
end Go.Proofs.Ytchjjbcmbdmlgaa
