/- Open2, OpenF. -/
import Derived.Test.YtmaffamhjmlonaaK02
import Derived.Test.YtmaffamhjmlonaaRows
import Derived.Lib.SmallJoins
import Derived.WalkKit
import Derived.ProofKit
import Derived.OpenShut
import Derived.ChangeOld
set_option linter.unusedVariables false
set_option linter.unusedSimpArgs false
namespace Go.Proofs.Ytmaffamhjmlonaa
open Go.Joins Go.ChangeShapes Go.WideShapes Go.RowKit Go.Deep
abbrev FK := Option (Option IntKind)
def FV1 : FK -> Value -> Prop
 | some (some k), v => ∃ n, v = .int k n /\ (Lit.int k n).wf = true
 | none, v => ∃ b, v = .bool b
 | some none, v => ∃ s, v = .string s /\ s.size <= maxLen
def FV : List FK -> List Value -> Prop
 | [], [] => True
 | k :: q, v :: r => FV1 k v /\ FV q r
 | _, _ => False
theorem fv_cons {k : FK} {q : List FK} {cs : List Value} (h : FV (k :: q) cs) : ∃ v r, cs = v :: r /\ FV1 k v /\ FV q r := by
 cases cs with
 | nil => exact h.elim
 | cons v r => exact ⟨v, r, rfl, h.1, h.2⟩
theorem fv_nil {cs : List Value} (h : FV [] cs) : cs = [] := by
 cases cs with
 | nil => rfl
 | cons v r => exact h.elim
section
variable {H : Type} {enc : TypeId × Value -> H} {P : Program} {w : World} {base : Nat} {spare : Nat -> Bool} {held : Bool}
end
end Go.Proofs.Ytmaffamhjmlonaa
namespace Go.Proofs.Ytmaffamhjmlonaa
open Go.Joins Go.ChangeShapes Go.WideShapes Go.RowKit Go.Deep
def flatF (P : Program) (rec : TypeId -> Option (List FK)) : List Field -> Nat -> Option (List FK)
 | [], _ => some []
 | f :: r, off => bif Nat.beq f.offset off then (match rec f.type with
   | some ks => bif Nat.beq ks.length (P.cellsOf f.type) then (match flatF P rec r (off + ks.length) with
     | some l => some (ks ++ l)
     | none => none) else none
   | none => none) else none
def flatK (P : Program) : Nat -> TypeId -> Option (List FK)
 | 0, _ => none
 | n + 1, t => match P.underlying t with
   | some .bool => some [none]
   | some (.int k) => some [some (some k)]
   | some .string => some [some none]
   | some (.struct fs) => match flatF P (flatK P n) fs.toList 0 with
     | some l => bif Nat.beq l.length (P.cellsOf t) then some l else none
     | none => none
   | some (.array m e) => match flatK P n e with
     | some l => bif Nat.beq l.length (P.cellsOf e) && Nat.beq (m * l.length) (P.cellsOf t) then some (List.replicate m l).flatten else none
     | none => none
   | _ => none
theorem fv_app : ∀ {ks ls : List FK} {cs : List Value}, FV ks (cs.take ks.length) -> FV ls (cs.drop ks.length) -> FV (ks ++ ls) cs
 | [], ls, cs, _, h => by simpa using h
 | k :: ks, ls, [], h, _ => h.elim
 | k :: ks, ls, c :: cs, h, h2 => ⟨h.1, fv_app (ks := ks) h.2 h2⟩
section
variable {H : Type} {enc : TypeId × Value -> H} {P : Program} {w : World} {base : Nat} {spare : Nat -> Bool} {held : Bool}
theorem flatF_ok {rec : TypeId -> Option (List FK)} {cs : List Value} : ∀ (fs : List Field) (off : Nat) (l : List FK), flatF P rec fs off = some l ->
   (∀ f ∈ fs, ∀ ks, rec f.type = some ks -> FV ks ((cs.drop f.offset).take (P.cellsOf f.type))) -> FV l ((cs.drop off).take l.length)
 | [], off, l, h, _ => by simp only [flatF, qS] at h; subst h; trivial
 | f :: r, off, l, h, hall => by
   unfold flatF at h
   cases hb : Nat.beq f.offset off
   . rw [hb] at h; cases h
   . rw [hb] at h
     simp only [cond_true] at h
     have hoff := qB hb
     split at h
     . rename_i ks hks
       cases hb2 : Nat.beq ks.length (P.cellsOf f.type)
       . rw [hb2] at h; cases h
       . rw [hb2] at h
         simp only [cond_true] at h
         have hk := qB hb2
         split at h
         . rename_i l' hl'
           simp only [qS] at h
           subst h
           have h1 := hall f List.mem_cons_self ks hks
           rw [hoff, <- hk] at h1
           have h2 := flatF_ok r (off + ks.length) l' hl' fun f' hf' => hall f' (List.mem_cons_of_mem _ hf')
           refine fv_app ?_ ?_
           . rw [List.length_append, List.take_take, Nat.min_eq_left (by omega)]; exact h1
           . rw [List.length_append, List.drop_take, List.drop_drop, Nat.add_sub_cancel_left]; exact h2
         . cases h
     . cases h
theorem flatA_ok {l : List FK} {cs : List Value} : ∀ (m i : Nat), (∀ j, j < m -> FV l ((cs.drop ((i + j) * l.length)).take l.length)) -> FV (List.replicate m l).flatten ((cs.drop (i * l.length)).take (m * l.length))
 | 0, i, _ => by simp; trivial
 | m + 1, i, h => by
   rw [List.replicate_succ, List.flatten_cons]
   have ih := flatA_ok m (i + 1) fun j hj => by
     have := h (j + 1) (by omega)
     rwa [show i + (j + 1) = i + 1 + j by omega] at this
   refine fv_app ?_ ?_
   . have := h 0 (by omega)
     rw [Nat.add_zero] at this
     rw [List.take_take, Nat.min_eq_left (by rw [Nat.add_mul, Nat.one_mul]; omega)]; exact this
   . rw [List.drop_take, List.drop_drop, Nat.add_mul, Nat.one_mul, Nat.add_sub_cancel]
     rw [Nat.add_mul, Nat.one_mul] at ih
     exact ih
theorem flat_cells : ∀ (n : Nat) {t : TypeId} {ks : List FK} {cs : List Value} {fuel : Nat} {y : DataW H × List MemPlace}, flatK P n t = some ks -> DataW.trod enc P w base spare held fuel t cs = some y -> FV ks cs
 | 0, t, ks, cs, fuel, y, h, _ => by simp [flatK] at h
 | n + 1, t, ks, cs, fuel, y, h, hf => by
   unfold flatK at h
   split at h
   . rename_i hu
     simp only [qS] at h; subst h
     obtain ⟨m, h0, _⟩ := DataW.trod_bool hu hf
     subst h0; exact ⟨⟨m, rfl⟩, trivial⟩
   . rename_i k hu
     simp only [qS] at h; subst h
     obtain ⟨m, h0, _, hw⟩ := DataW.trod_int hu hf
     subst h0; exact ⟨⟨m, rfl, hw⟩, trivial⟩
   . rename_i hu
     simp only [qS] at h; subst h
     obtain ⟨m, h0, _, hm⟩ := DataW.trod_string hu hf
     subst h0; exact ⟨⟨m, rfl, hm⟩, trivial⟩
   . rename_i fs hu
     obtain ⟨xs, m, _, _, hcs, hlen, hg⟩ := DataW.trod_struct hu hf
     split at h
     . rename_i l hl
       cases hb : Nat.beq l.length (P.cellsOf t)
       . rw [hb] at h; cases h
       . rw [hb] at h
         simp only [cond_true, qS] at h
         subst h
         have := flatF_ok (P := P) (cs := cs) fs.toList 0 l hl fun f hfm ks hks => by
           obtain ⟨j, hj, rfl⟩ := List.getElem_of_mem hfm
           have hj2 : j < fs.size := by simpa using hj
           have h1 := hg j fs.toList[j] (by simp [hj2])
           rw [List.getElem?_eq_getElem (by omega)] at h1
           exact flat_cells n hks h1
         rw [List.drop_zero, qB hb, <- hcs, List.take_length] at this
         exact this
     . cases h
   . rename_i m e hu
     obtain ⟨xs, m', _, _, hcs, hlen, hg⟩ := DataW.trod_array hu hf
     split at h
     . rename_i l hl
       cases hb : (Nat.beq l.length (P.cellsOf e) && Nat.beq (m * l.length) (P.cellsOf t))
       . rw [hb] at h; cases h
       . rw [hb] at h
         simp only [cond_true, qS] at h
         subst h
         rw [Bool.and_eq_true] at hb
         have h1 := qB hb.1
         have h2 := qB hb.2
         have := flatA_ok (l := l) (cs := cs) m 0 fun j hj => by
           have h3 := hg j hj
           rw [List.getElem?_eq_getElem (by omega), <- h1] at h3
           rw [Nat.zero_add]
           exact flat_cells n hl h3
         rw [Nat.zero_mul, List.drop_zero, h2, <- hcs, List.take_length] at this
         exact this
     . cases h
   . cases h
theorem slice_flat {n : Nat} {t e : TypeId} {ks : List FK} {a : Option Addr} {len cap : Nat} {d : DataW H} {p : List MemPlace} (ht : P.underlying t = some (.slice e)) (hk : flatK P n e = some ks) (hC : P.cellsOf e = ks.length) (hpos : 0 < ks.length)
   (h : DataW.Trod enc P w 0 (fun _ => true) true t (.slice a len cap) d p) :
   len <= cap /\ cap <= maxLen /\ (0 < len -> ∃ b off, a = some ⟨b, off, none⟩ /\ b < w.heap.size /\ ∀ j, j < len -> ∃ cs, FV ks cs /\ ∀ (o : Nat) c, cs[o]? = some c -> w.cell? ⟨b, off + j * ks.length + o, none⟩ = some c) := by
 obtain ⟨fuel, hf⟩ := h
 rcases DataW.trod_slice ht hf with ⟨hcs, _⟩ | ⟨a0, len0, cap0, elems, rest, m, _, hcs, _, _, hl, hm, hlen, hel, _, _⟩
 . simp [Value.cells] at hcs
   obtain ⟨rfl, rfl, rfl⟩ := hcs
   exact ⟨Nat.le_refl _, by simp, fun h => by omega⟩
 . simp [Value.cells] at hcs
   obtain ⟨rfl, rfl, rfl⟩ := hcs
   refine ⟨hl, hm, fun hp => ?_⟩
   rw [hC] at hel
   have each : ∀ j, j < len -> ∃ cs, FV ks cs /\ cs.length = ks.length /\ ∀ o, o < ks.length -> w.cell? ((a0.add (j * ks.length)).add o) = cs[o]? := by
     intro j hj
     have h0 := hel j hj
     rw [List.getElem?_eq_getElem (by omega), Option.bind_eq_some_iff] at h0
     obtain ⟨cs, hc, hy⟩ := h0
     have hc' : (List.range ks.length).mapM (fun i => w.cell? ((a0.add (j * ks.length)).add i)) = some cs := by
       unfold World.cells? at hc
       simpa using hc
     refine ⟨cs, flat_cells n hk hy, by simpa using mapM_some_length hc', fun o ho => ?_⟩
     exact mapM_some_get hc' o o (by simp [ho])
   obtain ⟨b, off, spot⟩ := a0
   have hspot : spot = none := by
     obtain ⟨cs, _, hcl, hc⟩ := each 0 hp
     have h1 := hc 0 hpos
     rw [List.getElem?_eq_getElem (by omega)] at h1
     simpa [Addr.add] using World.cell?_spot h1
   subst hspot
   refine ⟨b, off, rfl, ?_, fun j hj => ?_⟩
   . obtain ⟨cs, _, hcl, hc⟩ := each 0 hp
     have h1 := hc 0 hpos
     rw [List.getElem?_eq_getElem (by omega), Go.WideShapes.add_plain, Go.WideShapes.add_plain] at h1
     rcases Nat.lt_or_ge b w.heap.size with hlt | hge
     . exact hlt
     . simp [World.cell?, Array.getElem?_eq_none hge] at h1
   . obtain ⟨cs, hfv, hcl, hc⟩ := each j hj
     refine ⟨cs, hfv, fun o c ho => ?_⟩
     have hol : o < ks.length := by
       rw [<- hcl]
       exact (List.getElem?_eq_some_iff.1 ho).1
     have h1 := hc o hol
     rw [Go.WideShapes.add_plain, Go.WideShapes.add_plain, ho] at h1
     exact h1
end
end Go.Proofs.Ytmaffamhjmlonaa
