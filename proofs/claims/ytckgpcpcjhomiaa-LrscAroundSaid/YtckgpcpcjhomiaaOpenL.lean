/- Openers for a law's arguments that are slices of plain structs. -/
import Derived.Test.YtckgpcpcjhomiaaOpen03
import Derived.Test.YtckgpcpcjhomiaaInsE
import Derived.Test.YtckgpcpcjhomiaaS2I
namespace Go.Proofs.Ytckgpcpcjhomiaa
open Go.Joins Go.ChangeShapes Go.WideShapes Go.RowKit Go.Deep

theorem allOk_len (P : Program) : ∀ (fs : List Field) (ks : List FK), allOk P fs ks = true → fs.length = ks.length
  | [], [], _ => rfl
  | f :: r, k :: q, h => by
    simp only [allOk, Bool.and_eq_true] at h
    simp [allOk_len P r q h.2]
  | [], _ :: _, h => by simp [allOk] at h
  | _ :: _, [], h => by simp [allOk] at h
section
variable {H : Type} {enc : TypeId × Value → H} {P : Program} {w : World} {base : Nat} {spare : Nat → Bool} {held : Bool}
theorem fv_cells {t : TypeId} {ks : List FK} {cs : List Value} {fuel : Nat} {y : DataW H × List MemPlace} (hk : structIs P t ks = true) (hf : DataW.trod enc P w base spare held fuel t cs = some y) : FV ks cs := by
  unfold structIs at hk
  split at hk
  · rename_i fs hs
    simp only [Bool.and_eq_true] at hk
    obtain ⟨⟨hone, hC⟩, hall⟩ := hk
    have hC : P.cellsOf t = fs.size := Nat.eq_of_beq_eq_true hC
    obtain ⟨xs, n, _, hx, hcs, hlen, hg⟩ := DataW.trod_struct hs hf
    have hcl : cs.length = fs.size := hcs.trans hC
    refine fv_of (enc := enc) (w := w) (base := base) (spare := spare) (held := held) fs.toList ks cs hall (by simpa using hcl) fun j f c hj hc => ?_
    have hj' : fs[j]? = some f := by simpa using hj
    obtain ⟨o0, k0⟩ := hone_of hone j f hj'
    have hg0 := hg j f hj'
    have hjl : j < cs.length := by
      rcases Nat.lt_or_ge j cs.length with h' | h'
      · exact h'
      · rw [List.getElem?_eq_none h'] at hc; cases hc
    have hone' : (cs.drop j).take 1 = [c] := by
      rw [List.drop_eq_getElem_cons hjl]
      rw [List.getElem?_eq_getElem hjl] at hc
      simp only [Option.some.injEq] at hc
      rw [hc]; rfl
    rw [o0, k0, hone'] at hg0
    have hxl : j < xs.length := by rw [hlen]; omega
    exact ⟨n, _, hg0.trans (List.getElem?_eq_getElem hxl)⟩
  · cases hk
theorem struct_cells {t : TypeId} {ks : List FK} (hk : structIs P t ks = true) : P.cellsOf t = ks.length := by
  unfold structIs at hk
  split at hk
  · rename_i fs hs
    simp only [Bool.and_eq_true] at hk
    obtain ⟨⟨_, hC⟩, hall⟩ := hk
    rw [Nat.eq_of_beq_eq_true hC, ← allOk_len P _ _ hall, Array.length_toList]
  · cases hk
/-- A slice of plain structs: each element's cells, in the heap. -/
theorem slice_plain {t e : TypeId} {ks : List FK} {a : Option Addr} {len cap : Nat} {d : DataW H} {p : List MemPlace} (ht : P.underlying t = some (.slice e)) (hk : structIs P e ks = true) (hpos : 0 < ks.length)
    (h : DataW.Trod enc P w 0 (fun _ => true) true t (.slice a len cap) d p) :
    len ≤ cap ∧ cap ≤ maxLen ∧ (0 < len → ∃ b off, a = some ⟨b, off, none⟩ ∧ b < w.heap.size ∧ ∀ j, j < len → ∃ cs, FV ks cs ∧ ∀ (o : Nat) c, cs[o]? = some c → w.cell? ⟨b, off + j * ks.length + o, none⟩ = some c) := by
  obtain ⟨fuel, hf⟩ := h
  rcases DataW.trod_slice ht hf with ⟨hcs, _⟩ | ⟨a0, len0, cap0, elems, rest, n, _, hcs, _, _, hl, hm, hlen, hel, _, _⟩
  · simp [Value.cells] at hcs
    obtain ⟨rfl, rfl, rfl⟩ := hcs
    exact ⟨Nat.le_refl _, by simp, fun h => by omega⟩
  · simp [Value.cells] at hcs
    obtain ⟨rfl, rfl, rfl⟩ := hcs
    refine ⟨hl, hm, fun hp => ?_⟩
    rw [struct_cells hk] at hel
    have each : ∀ j, j < len → ∃ cs, FV ks cs ∧ cs.length = ks.length ∧ ∀ o, o < ks.length → w.cell? ((a0.add (j * ks.length)).add o) = cs[o]? := by
      intro j hj
      have h0 := hel j hj
      rw [List.getElem?_eq_getElem (by omega), Option.bind_eq_some_iff] at h0
      obtain ⟨cs, hc, hy⟩ := h0
      have hc' : (List.range ks.length).mapM (fun i => w.cell? ((a0.add (j * ks.length)).add i)) = some cs := by
        unfold World.cells? at hc
        simpa using hc
      refine ⟨cs, fv_cells hk hy, by simpa using mapM_some_length hc', fun o ho => ?_⟩
      exact mapM_some_get hc' o o (by simp [ho])
    obtain ⟨b, off, spot⟩ := a0
    have hspot : spot = none := by
      obtain ⟨cs, _, hcl, hc⟩ := each 0 hp
      have h1 := hc 0 hpos
      rw [List.getElem?_eq_getElem (by omega)] at h1
      simpa [Addr.add] using World.cell?_spot h1
    subst hspot
    refine ⟨b, off, rfl, ?_, fun j hj => ?_⟩
    · obtain ⟨cs, _, hcl, hc⟩ := each 0 hp
      have h1 := hc 0 hpos
      rw [List.getElem?_eq_getElem (by omega), Go.WideShapes.add_plain, Go.WideShapes.add_plain] at h1
      rcases Nat.lt_or_ge b w.heap.size with hlt | hge
      · exact hlt
      · simp [World.cell?, Array.getElem?_eq_none hge] at h1
    · obtain ⟨cs, hfv, hcl, hc⟩ := each j hj
      refine ⟨cs, hfv, fun o c ho => ?_⟩
      have hol : o < ks.length := by
        rw [← hcl]
        exact (List.getElem?_eq_some_iff.1 ho).1
      have h1 := hc o hol
      rw [Go.WideShapes.add_plain, Go.WideShapes.add_plain, ho] at h1
      exact h1
end
theorem in_cells {cs : List Value} (h : FV inK cs) : ∃ i : In, cs = inC i ∧ wfIn i := by
  obtain ⟨i, hv, hw⟩ := in_of (v := .agg cs.toArray) ⟨cs, rfl, h⟩
  refine ⟨i, ?_, hw⟩
  have h1 : cs.toArray = (inC i).toArray := by
    unfold inV at hv
    injection hv
  simpa using h1
open S2 in
/-- A slice of instructions: the list that it reads as. -/
theorem ins_in {H : Type} {enc : TypeId × Value → H} {P : Program} {w : World} {t e : TypeId} {a : Option Addr} {len cap : Nat} {d : DataW H} {p : List MemPlace} (ht : P.underlying t = some (.slice e)) (hk : structIs P e inK = true)
    (h : DataW.Trod enc P w 0 (fun _ => true) true t (.slice a len cap) d p) : ∃ f : Nat → In, (∀ j, j < len → wfIn (f j)) ∧ len ≤ maxLen ∧ InB w.heap.size w (insE len f) (.slice a len cap) := by
  obtain ⟨hl, hm, hc⟩ := slice_plain ht hk (by decide) h
  have wf : ∀ f : Nat → In, (insE len f).wf := fun f => ⟨by show 0 < 7; decide, fun j _ => ⟨rfl, rfl⟩⟩
  rcases Nat.eq_zero_or_pos len with h0 | hp
  · subst h0
    exact ⟨fun _ => ⟨0, 0, 0, 0, 0, false, false⟩, fun j hj => by omega, by omega, wf _, a, cap, rfl, hl, fun h => absurd h (by simp [insE])⟩
  · obtain ⟨b, off, ha, hb, hcell⟩ := hc hp
    have hex : ∀ j, ∃ i : In, j < len → wfIn i ∧ ∀ (o : Nat) c, (inC i)[o]? = some c → w.cell? ⟨b, off + j * 7 + o, none⟩ = some c := by
      intro j
      by_cases hj : j < len
      · obtain ⟨cs, hfv, hcs⟩ := hcell j hj
        obtain ⟨i, rfl, hw⟩ := in_cells hfv
        exact ⟨i, fun _ => ⟨hw, hcs⟩⟩
      · exact ⟨⟨0, 0, 0, 0, 0, false, false⟩, fun h => absurd h hj⟩
    obtain ⟨f, hf⟩ := Classical.axiomOfChoice hex
    exact ⟨f, fun j hj => (hf j hj).1, by omega, wf f, a, cap, rfl, hl, fun _ => ⟨b, off, ha, hb, fun j hj => (hf j hj).2⟩⟩
end Go.Proofs.Ytckgpcpcjhomiaa
