/- Openers for a law's arguments of flat data: structs in structs, arrays, slices of these. No word of the program. -/
import Derived.Test.YtohefnfombkkbaaOpen2
import Derived.Test.YtohefnfombkkbaaS2I
namespace Go.Proofs.Ytohefnfombkkbaa
open Go.Joins Go.ChangeShapes Go.WideShapes Go.RowKit Go.Deep
set_option linter.unusedVariables false
set_option linter.unusedSimpArgs false

def flatF (P : Program) (rec : TypeId → Option (List FK)) : List Field → Nat → Option (List FK)
  | [], _ => some []
  | f :: r, off => bif Nat.beq f.offset off then (match rec f.type with
    | some ks => bif Nat.beq ks.length (P.cellsOf f.type) then (match flatF P rec r (off + ks.length) with
      | some l => some (ks ++ l)
      | none => none) else none
    | none => none) else none
/-- The kinds of a flat type's cells. -/
def flatK (P : Program) : Nat → TypeId → Option (List FK)
  | 0, _ => none
  | n + 1, t => match P.underlying t with
    | some .bool => some [none]
    | some (.int k) => some [some (some k)]
    | some .string => some [some none]
    | some (.struct fs) => match flatF P (flatK P n) fs.toList 0 with
      | some l => bif Nat.beq l.length (P.cellsOf t) then some l else none
      | none => none
    | some (.array m e) => match flatK P n e with
      | some l => bif Nat.beq l.length (P.cellsOf e) && Nat.beq (m * l.length) (P.cellsOf t) then some (List.replicate m l).flatten else none
      | none => none
    | _ => none
theorem fv_app : ∀ {ks ls : List FK} {cs : List Value}, FV ks (cs.take ks.length) → FV ls (cs.drop ks.length) → FV (ks ++ ls) cs
  | [], ls, cs, _, h => by simpa using h
  | k :: ks, ls, [], h, _ => h.elim
  | k :: ks, ls, c :: cs, h, h2 => ⟨h.1, fv_app (ks := ks) h.2 h2⟩
theorem fv_len : ∀ {ks : List FK} {cs : List Value}, FV ks cs → cs.length = ks.length
  | [], cs, h => by rw [fv_nil h]; rfl
  | k :: ks, [], h => h.elim
  | k :: ks, c :: cs, h => by simp [fv_len h.2]
section
variable {H : Type} {enc : TypeId × Value → H} {P : Program} {w : World} {base : Nat} {spare : Nat → Bool} {held : Bool}
theorem flatF_ok {rec : TypeId → Option (List FK)} {cs : List Value} : ∀ (fs : List Field) (off : Nat) (l : List FK), flatF P rec fs off = some l →
    (∀ f ∈ fs, ∀ ks, rec f.type = some ks → FV ks ((cs.drop f.offset).take (P.cellsOf f.type))) → FV l ((cs.drop off).take l.length)
  | [], off, l, h, _ => by simp only [flatF, Option.some.injEq] at h; subst h; trivial
  | f :: r, off, l, h, hall => by
    unfold flatF at h
    cases hb : Nat.beq f.offset off
    · rw [hb] at h; cases h
    · rw [hb] at h
      simp only [cond_true] at h
      have hoff := Nat.eq_of_beq_eq_true hb
      split at h
      · rename_i ks hks
        cases hb2 : Nat.beq ks.length (P.cellsOf f.type)
        · rw [hb2] at h; cases h
        · rw [hb2] at h
          simp only [cond_true] at h
          have hk := Nat.eq_of_beq_eq_true hb2
          split at h
          · rename_i l' hl'
            simp only [Option.some.injEq] at h
            subst h
            have h1 := hall f List.mem_cons_self ks hks
            rw [hoff, ← hk] at h1
            have h2 := flatF_ok r (off + ks.length) l' hl' fun f' hf' => hall f' (List.mem_cons_of_mem _ hf')
            refine fv_app ?_ ?_
            · rw [List.length_append, List.take_take, Nat.min_eq_left (by omega)]; exact h1
            · rw [List.length_append, List.drop_take, List.drop_drop, Nat.add_sub_cancel_left]; exact h2
          · cases h
      · cases h
theorem flatA_ok {l : List FK} {cs : List Value} : ∀ (m i : Nat), (∀ j, j < m → FV l ((cs.drop ((i + j) * l.length)).take l.length)) → FV (List.replicate m l).flatten ((cs.drop (i * l.length)).take (m * l.length))
  | 0, i, _ => by simp; trivial
  | m + 1, i, h => by
    rw [List.replicate_succ, List.flatten_cons]
    have ih := flatA_ok m (i + 1) fun j hj => by
      have := h (j + 1) (by omega)
      rwa [show i + (j + 1) = i + 1 + j by omega] at this
    refine fv_app ?_ ?_
    · have := h 0 (by omega)
      rw [Nat.add_zero] at this
      rw [List.take_take, Nat.min_eq_left (by rw [Nat.add_mul, Nat.one_mul]; omega)]; exact this
    · rw [List.drop_take, List.drop_drop, Nat.add_mul, Nat.one_mul, Nat.add_sub_cancel]
      rw [Nat.add_mul, Nat.one_mul] at ih
      exact ih
theorem flat_cells : ∀ (n : Nat) {t : TypeId} {ks : List FK} {cs : List Value} {fuel : Nat} {y : DataW H × List MemPlace}, flatK P n t = some ks → DataW.trod enc P w base spare held fuel t cs = some y → FV ks cs
  | 0, t, ks, cs, fuel, y, h, _ => by simp [flatK] at h
  | n + 1, t, ks, cs, fuel, y, h, hf => by
    unfold flatK at h
    split at h
    · rename_i hu
      simp only [Option.some.injEq] at h; subst h
      obtain ⟨m, h0, _⟩ := DataW.trod_bool hu hf
      subst h0; exact ⟨⟨m, rfl⟩, trivial⟩
    · rename_i k hu
      simp only [Option.some.injEq] at h; subst h
      obtain ⟨m, h0, _, hw⟩ := DataW.trod_int hu hf
      subst h0; exact ⟨⟨m, rfl, hw⟩, trivial⟩
    · rename_i hu
      simp only [Option.some.injEq] at h; subst h
      obtain ⟨m, h0, _, hm⟩ := DataW.trod_string hu hf
      subst h0; exact ⟨⟨m, rfl, hm⟩, trivial⟩
    · rename_i fs hu
      obtain ⟨xs, m, _, _, hcs, hlen, hg⟩ := DataW.trod_struct hu hf
      split at h
      · rename_i l hl
        cases hb : Nat.beq l.length (P.cellsOf t)
        · rw [hb] at h; cases h
        · rw [hb] at h
          simp only [cond_true, Option.some.injEq] at h
          subst h
          have := flatF_ok (P := P) (cs := cs) fs.toList 0 l hl fun f hfm ks hks => by
            obtain ⟨j, hj, rfl⟩ := List.getElem_of_mem hfm
            have hj2 : j < fs.size := by simpa using hj
            have h1 := hg j fs.toList[j] (by simp [hj2])
            rw [List.getElem?_eq_getElem (by omega)] at h1
            exact flat_cells n hks h1
          rw [List.drop_zero, Nat.eq_of_beq_eq_true hb, ← hcs, List.take_length] at this
          exact this
      · cases h
    · rename_i m e hu
      obtain ⟨xs, m', _, _, hcs, hlen, hg⟩ := DataW.trod_array hu hf
      split at h
      · rename_i l hl
        cases hb : (Nat.beq l.length (P.cellsOf e) && Nat.beq (m * l.length) (P.cellsOf t))
        · rw [hb] at h; cases h
        · rw [hb] at h
          simp only [cond_true, Option.some.injEq] at h
          subst h
          rw [Bool.and_eq_true] at hb
          have h1 := Nat.eq_of_beq_eq_true hb.1
          have h2 := Nat.eq_of_beq_eq_true hb.2
          have := flatA_ok (l := l) (cs := cs) m 0 fun j hj => by
            have h3 := hg j hj
            rw [List.getElem?_eq_getElem (by omega), ← h1] at h3
            rw [Nat.zero_add]
            exact flat_cells n hl h3
          rw [Nat.zero_mul, List.drop_zero, h2, ← hcs, List.take_length] at this
          exact this
      · cases h
    · cases h
theorem flat_len {n : Nat} {t : TypeId} {ks : List FK} (h : flatK P n t = some ks) : P.cellsOf t = ks.length ∨ (∃ k, P.underlying t = some (.int k)) ∨ P.underlying t = some .bool ∨ P.underlying t = some .string := by
  cases n with
  | zero => simp [flatK] at h
  | succ n =>
    unfold flatK at h
    split at h
    · rename_i hu; exact .inr (.inr (.inl hu))
    · rename_i k hu; exact .inr (.inl ⟨k, hu⟩)
    · rename_i hu; exact .inr (.inr (.inr hu))
    · split at h
      · rename_i l hl
        cases hb : Nat.beq l.length (P.cellsOf t)
        · rw [hb] at h; cases h
        · rw [hb] at h
          simp only [cond_true, Option.some.injEq] at h
          subst h; exact .inl (Nat.eq_of_beq_eq_true hb).symm
      · cases h
    · split at h
      · rename_i l hl
        cases hb : (Nat.beq l.length (P.cellsOf _) && Nat.beq (_ * l.length) (P.cellsOf t))
        · rw [hb] at h; cases h
        · rw [hb] at h
          simp only [cond_true, Option.some.injEq] at h
          subst h
          rw [Bool.and_eq_true] at hb
          refine .inl ?_
          rw [← Nat.eq_of_beq_eq_true hb.2]
          simp
      · cases h
    · cases h
/-- A slice of flat data: each element's cells, in the heap. -/
theorem slice_flat {n : Nat} {t e : TypeId} {ks : List FK} {a : Option Addr} {len cap : Nat} {d : DataW H} {p : List MemPlace} (ht : P.underlying t = some (.slice e)) (hk : flatK P n e = some ks) (hC : P.cellsOf e = ks.length) (hpos : 0 < ks.length)
    (h : DataW.Trod enc P w 0 (fun _ => true) true t (.slice a len cap) d p) :
    len ≤ cap ∧ cap ≤ maxLen ∧ (0 < len → ∃ b off, a = some ⟨b, off, none⟩ ∧ b < w.heap.size ∧ ∀ j, j < len → ∃ cs, FV ks cs ∧ ∀ (o : Nat) c, cs[o]? = some c → w.cell? ⟨b, off + j * ks.length + o, none⟩ = some c) := by
  obtain ⟨fuel, hf⟩ := h
  rcases DataW.trod_slice ht hf with ⟨hcs, _⟩ | ⟨a0, len0, cap0, elems, rest, m, _, hcs, _, _, hl, hm, hlen, hel, _, _⟩
  · simp [Value.cells] at hcs
    obtain ⟨rfl, rfl, rfl⟩ := hcs
    exact ⟨Nat.le_refl _, by simp, fun h => by omega⟩
  · simp [Value.cells] at hcs
    obtain ⟨rfl, rfl, rfl⟩ := hcs
    refine ⟨hl, hm, fun hp => ?_⟩
    rw [hC] at hel
    have each : ∀ j, j < len → ∃ cs, FV ks cs ∧ cs.length = ks.length ∧ ∀ o, o < ks.length → w.cell? ((a0.add (j * ks.length)).add o) = cs[o]? := by
      intro j hj
      have h0 := hel j hj
      rw [List.getElem?_eq_getElem (by omega), Option.bind_eq_some_iff] at h0
      obtain ⟨cs, hc, hy⟩ := h0
      have hc' : (List.range ks.length).mapM (fun i => w.cell? ((a0.add (j * ks.length)).add i)) = some cs := by
        unfold World.cells? at hc
        simpa using hc
      refine ⟨cs, flat_cells n hk hy, by simpa using mapM_some_length hc', fun o ho => ?_⟩
      exact mapM_some_get hc' o o (by simp [ho])
    obtain ⟨b, off, spot⟩ := a0
    have hspot : spot = none := by
      obtain ⟨cs, _, hcl, hc⟩ := each 0 hp
      have h1 := hc 0 hpos
      rw [List.getElem?_eq_getElem (by omega)] at h1
      simpa [Addr.add] using World.cell?_spot h1
    subst hspot
    refine ⟨b, off, rfl, ?_, fun j hj => ?_⟩
    · obtain ⟨cs, _, hcl, hc⟩ := each 0 hp
      have h1 := hc 0 hpos
      rw [List.getElem?_eq_getElem (by omega), Go.WideShapes.add_plain, Go.WideShapes.add_plain] at h1
      rcases Nat.lt_or_ge b w.heap.size with hlt | hge
      · exact hlt
      · simp [World.cell?, Array.getElem?_eq_none hge] at h1
    · obtain ⟨cs, hfv, hcl, hc⟩ := each j hj
      refine ⟨cs, hfv, fun o c ho => ?_⟩
      have hol : o < ks.length := by
        rw [← hcl]
        exact (List.getElem?_eq_some_iff.1 ho).1
      have h1 := hc o hol
      rw [Go.WideShapes.add_plain, Go.WideShapes.add_plain, ho] at h1
      exact h1
/-- An array of integers. -/
theorem fv_ints {k : IntKind} : ∀ {m : Nat} {cs : List Value}, FV (List.replicate m (some (some k))) cs → ∃ X : Nat → Int, cs = (List.range m).map fun j => Value.int k (X j)
  | 0, cs, h => ⟨fun _ => 0, by rw [fv_nil h]; rfl⟩
  | m + 1, [], h => h.elim
  | m + 1, c :: cs, h => by
    obtain ⟨⟨x, rfl, _⟩, h2⟩ := h
    obtain ⟨X, rfl⟩ := fv_ints (m := m) h2
    refine ⟨fun j => match j with
      | 0 => x
      | j + 1 => X j, ?_⟩
    rw [List.range_succ_eq_map, List.map_cons, List.map_map]
    rfl
theorem open_arrN {r : Reach} {b0 : Nat} {t e : TypeId} {k : IntKind} {m : Nat} {v : Value} {d : DataW H} {p : List MemPlace} (ht : P.underlying t = some (.array m e)) (hk : flatK P 3 t = some (List.replicate m (some (some k)))) (hv : Value.okWide P w r b0 t v) (h : DataW.Trod enc P w base spare held t v d p) :
    ∃ X : Nat → Int, v = .agg ((List.range m).map fun j => Value.int k (X j)).toArray := by
  simp only [Value.okWide, ht] at hv
  obtain ⟨cs, rfl, hsz, _⟩ := hv
  obtain ⟨fuel, hf⟩ := h
  obtain ⟨X, hX⟩ := fv_ints (flat_cells 3 hk hf)
  exact ⟨X, by congr 1; rw [← hX]; rfl⟩
end
end Go.Proofs.Ytohefnfombkkbaa
