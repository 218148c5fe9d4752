/- Froz11, Laid11. -/
import Derived.Test.YtilljoemebbnjaaDoorS2I
import Derived.Test.YtilljoemebbnjaaDoorIsa
import Derived.Test.YtilljoemebbnjaaDoorEnc
import Derived.Test.YtilljoemebbnjaaDoorTz09
import Derived.Test.YtilljoemebbnjaaDoorLaidKit
set_option linter.unusedVariables false
set_option linter.unusedSimpArgs false
namespace Go.Proofs.YtilljoemebbnjaaDoor
open Go.RowKit Sim S2
def frz (w : World) : Gl := fun g => match w.heap[g]? with
 | some (.cells c _ _) => some c.toList
 | _ => none
theorem frz_cell {w : World} {g : Nat} {cs : List Value} (h : frz w g = some cs) (i : Nat) : w.cell? ⟨g, i, none⟩ = cs[i]? := by
 unfold frz at h
 split at h
 . rename_i c _ _ hc
   simp only [qS] at h
   subst h
   simp [World.cell?, hc]
 . cases h
theorem frz_of {w : World} {g i : Nat} {v : Value} (h : w.cell? ⟨g, i, none⟩ = some v) : ∃ cs, frz w g = some cs /\ cs[i]? = some v := by
 have h0 := h
 unfold World.cell? at h
 split at h
 . rename_i c t z hc
   have hc : w.heap[g]? = some (.cells c t z) := hc
   have hf : frz w g = some c.toList := by unfold frz; rw [hc]
   exact ⟨_, hf, (frz_cell hf i).symm.trans h0⟩
 . cases h
theorem frz_ok (w : World) : GlobOk (frz w) w := fun g cs hg => ⟨fun i v hv => (frz_cell hg i).trans hv, fun _ i => frz_cell hg i⟩
theorem frz_sub {gl : Gl} {w w' : World} (h : GlobOk gl w) (h' : GlobOk (frz w) w') : GlobOk gl w' := fun g cs hg => by
 obtain ⟨k1, k2⟩ := h g cs hg
 refine ⟨fun i v hv => ?_, fun he i => ?_⟩
 . obtain ⟨ds, h1, h2⟩ := frz_of (k1 i v hv)
   exact (h' g ds h1).1 i v h2
 . have hx := k2 he
   match cs, he, hx, k1 with
   | .int .u64 x :: r, he, hx, k1 =>
     obtain ⟨ds, h1, h2⟩ := frz_of (k1 0 _ rfl)
     have hd : exactL ds = true := by
       match ds, h2 with
       | y :: s, h2 =>
         have : y = .int .u64 x := by simpa using h2
         subst this; rfl
     rw [(h' g ds h1).2 hd i, <- frz_cell h1 i]
     exact hx i
theorem rowG_of {B : Nat} {w : World} {e : LE} {v : Value} (h : InB B w e v) : rowG (frz w) v e := by
 obtain ⟨h1, a, cap, hv, hc, h2⟩ := h
 refine ⟨h1, a, cap, hv, hc, fun hn => ?_⟩
 obtain ⟨b, off, ha, _, h3⟩ := h2 hn
 have hl := (h1.2 0 hn).1
 have h0 : 0 < e.size := h1.1
 obtain ⟨cs, hcs, _⟩ := frz_of (h3 0 hn 0 _ (List.getElem?_eq_getElem (by omega)))
 exact ⟨b, off, cs, ha, hcs, fun j hj o c ho => (frz_cell hcs _).symm.trans (h3 j hj o c ho)⟩
abbrev GlTo (gl gl' : Gl) : Prop := ∀ w, GlobOk gl' w -> GlobOk gl w
theorem ltab_to {P : Program} {gl gl' : Gl} {c : LTab} (h : LTabOk P gl c) (hs : GlTo gl gl') : LTabOk P gl' c := fun f args tup res hv w vals hG ha => h f args tup res hv w vals (hs w hG) ha
theorem glTo_frz {gl : Gl} {w : World} (h : GlobOk gl w) : GlTo gl (frz w) := fun _ h' => frz_sub h h'
end Go.Proofs.YtilljoemebbnjaaDoor
namespace Go.Proofs.YtilljoemebbnjaaDoor
open Sim Go.ChangeShapes Go.WideShapes Go.ChangeAt Go.RowKit
def wordCells : List Value := (wordL.take 77).map fun x => .int .u32 x
def fieldCells : List Value := fieldL.map fun x => .int .i64 x
def gl11 : Gl := fun g => bif Nat.beq g 0 then some (tzL.map (Value.int .u8)) else bif Nat.beq g 2 then some wordCells else bif Nat.beq g 1 then some fieldCells else none
def tab11 : List (Nat × List Value) := [(0, tzL.map (Value.int .u8)), (2, wordCells), (1, fieldCells)]
theorem gl11_mem (g : Nat) (cs : List Value) (h : gl11 g = some cs) : (g, cs) ∈ tab11 := by
 unfold gl11 at h
 cases h0 : Nat.beq g 0
 . rw [h0] at h
   simp only [cond_false] at h
   cases h1 : Nat.beq g 2
   . rw [h1] at h
     simp only [cond_false] at h
     cases h2 : Nat.beq g 1
     . rw [h2] at h; cases h
     . rw [h2] at h
       simp only [cond_true, qS] at h
       subst h
       rw [qB h2]
       exact List.mem_cons_of_mem _ (List.mem_cons_of_mem _ List.mem_cons_self)
   . rw [h1] at h
     simp only [cond_true, qS] at h
     subst h
     rw [qB h1]
     exact List.mem_cons_of_mem _ List.mem_cons_self
 . rw [h0] at h
   simp only [cond_true, qS] at h
   subst h
   rw [qB h0]
   exact List.mem_cons_self
theorem gl11_of_laid {W : World} (h : laidMetH Tryd.prog [("math/bits.deBruijn64tab", Rows.laid_math_bits_deBruijn64tab), ("spinnaker/enc.words", Rows.laid_spinnaker_enc_words), ("spinnaker/enc.fields", Rows.laid_spinnaker_enc_fields)] W) : GlobOk gl11 W :=
 globs_of_laid (k := 5) (tab := tab11) (by kernel_rfl) (by kernel_rfl) gl11_mem h
theorem to9 : GlTo gl9 gl11 := fun w h g cs hg => h g cs (by
 unfold gl9 at hg
 unfold gl11
 cases h0 : Nat.beq g 0
 . rw [h0] at hg; cases hg
 . rw [h0] at hg; exact hg)
theorem toEnc : GlTo encGl gl11 := fun w h g cs hg => h g cs (by
 unfold encGl at hg
 unfold gl11
 cases h1 : Nat.beq g 2
 . rw [h1] at hg
   simp only [cond_false] at hg
   cases h2 : Nat.beq g 1
   . rw [h2] at hg; cases hg
   . rw [h2] at hg
     rw [qB h2]
     exact hg
 . rw [h1] at hg
   rw [qB h1]
   exact hg)
end Go.Proofs.YtilljoemebbnjaaDoor
