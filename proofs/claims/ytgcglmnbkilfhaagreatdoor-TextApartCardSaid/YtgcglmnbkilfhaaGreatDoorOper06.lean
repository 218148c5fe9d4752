/- Contracts of package text (layer 6): the iterator over the operands. -/
import Derived.Test.YtgcglmnbkilfhaaGreatDoorIdx06
import Derived.RangeFuncNested
import Derived.RangeFuncBound
import Derived.RangeFuncCalls
import Derived.RangeFuncLeaves
import Derived.Shelf.Abstract
import Derived.Shelf.RegionOpen
import Derived.WalkKit
import Derived.OwnWalkIn
import Derived.TacticsInMore
import Derived.LoopNIn
import Derived.LoopIn
namespace Go.Proofs.YtgcglmnbkilfhaaGreatDoor
open Go Go.RowKit Sim S2
set_option linter.unusedVariables false
set_option linter.unusedSimpArgs false

/-- A part of a string behind a letter. -/
theorem tpZ_ex : ∃ g : ByteArray → Int → ByteArray, ∀ s c, g s c = ⟨(Lib.trimPrefix (toL s) (toL (Utf8.encode c))).toArray⟩ := ⟨_, fun _ _ => rfl⟩
noncomputable def tpZ : ByteArray → Int → ByteArray := Classical.choose tpZ_ex
theorem tpZ_eq (s : ByteArray) (c : Int) : toL (tpZ s c) = Lib.trimPrefix (toL s) (toL (Utf8.encode c)) := by rw [tpZ, Classical.choose_spec tpZ_ex]; exact toL_mk _
theorem tpZ_size (s : ByteArray) (c : Int) : (tpZ s c).size ≤ s.size := by
  rw [toL_size, tpZ_eq, toL_size]
  unfold Lib.trimPrefix
  split
  · rw [List.length_drop]; omega
  · omega
theorem trimPrefix_ret (s : ByteArray) (c : Int) (w : World) : Calls Tryz.prog 56 #[.string s, .string (Utf8.encode c)] w fun e w' => e = .returned (.string (tpZ s c)) ∧ w' = w :=
  (Any.strings_TrimPrefix lays101 s (Utf8.encode c) w).mono fun e w' ⟨h1, h2⟩ => ⟨by rw [h1]; rw [tpZ, Classical.choose_spec tpZ_ex]; rfl, h2⟩
/-- Where an operand ends. -/
theorem enZ_ex : ∃ g : ByteArray → Int, ∀ s, g s = if ixZ s < 0 then (s.size : Int) else ixZ s := ⟨_, fun _ => rfl⟩
noncomputable def enZ : ByteArray → Int := Classical.choose enZ_ex
theorem enZ_eq (s : ByteArray) : enZ s = if ixZ s < 0 then (s.size : Int) else ixZ s := Classical.choose_spec enZ_ex s
theorem enZ_bnd (s : ByteArray) : 0 ≤ enZ s ∧ enZ s ≤ s.size := by
  have := ixZ_bnd s
  rw [enZ_eq]; split <;> omega
/-- One letter of a layout: what has been told, and what is left of the text. -/
noncomputable def opStep (p : List (Int × ByteArray) × ByteArray) (c : Int) : List (Int × ByteArray) × ByteArray :=
  if sepB c = true then (p.1, tpZ p.2 c) else (p.1 ++ [(c, extZ p.2 0 (enZ p.2))], extZ p.2 (enZ p.2) p.2.size)
noncomputable def opRun (s : ByteArray) : List UInt8 → List (Int × ByteArray) × ByteArray := fun l => l.foldl (fun p c => opStep p (c.toNat : Nat)) ([], s)
theorem opRun_snoc (s : ByteArray) (l : List UInt8) (c : UInt8) : opRun s (l ++ [c]) = opStep (opRun s l) (c.toNat : Nat) := by unfold opRun; rw [List.foldl_append]; rfl
theorem ext_size (s : ByteArray) (l h : Int) : (extZ s l h).size ≤ s.size := by rw [extZ_eq]; simp [ByteArray.size_extract]; omega
theorem opRun_size (s : ByteArray) (l : List UInt8) : (opRun s l).2.size ≤ s.size := by
  have go : ∀ (l : List UInt8) (p : List (Int × ByteArray) × ByteArray), p.2.size ≤ s.size → (l.foldl (fun p c => opStep p (c.toNat : Nat)) p).2.size ≤ s.size := by
    intro l
    induction l with
    | nil => intro p h; exact h
    | cons c l ih =>
      intro p h
      refine ih _ ?_
      show (opStep p (c.toNat : Nat)).2.size ≤ s.size
      unfold opStep
      split
      · exact Nat.le_trans (tpZ_size _ _) h
      · exact Nat.le_trans (ext_size _ _ _) h
  exact go l _ (Nat.le_refl _)
/-- What the caller keeps while the iterator goes: the world holds its result's cells, the instruction read so far, the layout, the loop's record. -/
structure PK (w00 : World) (b2 b7 bl D l : Nat) (rec : Loop) (lay : ByteArray) (i : In) (W : World) : Prop where
  bel : Below w00.heap.size w00 W
  hres : W.heap[b2]? = some (.cells #[.int .i64 0, .int .i64 0, .int .i64 0, .int .i64 0, .int .i64 0, .bool false, .bool false] 23 (0, 0))
  hin : W.heap[b7]? = some (.cells #[.int .i64 i.op, .int .i64 i.rd, .int .i64 i.a, .int .i64 i.b, .int .i64 i.imm, .bool i.aq, .bool i.rl] 23 (0, 0))
  hlay : W.heap[bl]? = some (.cells #[.string lay] 9 (0, 0))
  hD : W.heap[D]? = some (.deferred (some []))
  hl : W.heap[l]? = some (.loop rec)
structure Ord6 (w00 : World) (b2 b7 bl bs D l : Nat) : Prop where
  h0 : w00.heap.size ≤ b2
  h1 : b2 < b7
  h2 : b7 < bl
  h3 : bl < bs
  h4 : bs < D
  h5 : D < l
theorem PK.keep {w00 : World} {b2 b7 bl D l : Nat} {rec : Loop} {lay : ByteArray} {i : In} {W W' : World} (h : PK w00 b2 b7 bl D l rec lay i W) (hb : Below w00.heap.size W W') (hk : ∀ k, k < W.heap.size → (k = b2 ∨ k = b7 ∨ k = bl ∨ k = D ∨ k = l) → W'.heap[k]? = W.heap[k]?) : PK w00 b2 b7 bl D l rec lay i W' :=
  ⟨h.bel.trans hb, (hk _ (Go.Proofs.YtgcglmnbkilfhaaGreatDoor.Sim.lt_of_some h.hres) (by simp)).trans h.hres, (hk _ (Go.Proofs.YtgcglmnbkilfhaaGreatDoor.Sim.lt_of_some h.hin) (by simp)).trans h.hin, (hk _ (Go.Proofs.YtgcglmnbkilfhaaGreatDoor.Sim.lt_of_some h.hlay) (by simp)).trans h.hlay, (hk _ (Go.Proofs.YtgcglmnbkilfhaaGreatDoor.Sim.lt_of_some h.hD) (by simp)).trans h.hD, (hk _ (Go.Proofs.YtgcglmnbkilfhaaGreatDoor.Sim.lt_of_some h.hl) (by simp)).trans h.hl⟩
/-- Between two steps of the iterator: its place in the layout, what is left of the text, what the caller keeps. -/
structure RS (w00 : World) (b2 b7 bl bs D l it : Nat) (rec : Loop) (lay : ByteArray) (pos : Nat) (x : ByteArray) (i : In) (W : World) : Prop where
  hk : W.heap[it]? = some (.stringIter lay pos)
  hsc : W.heap[bs]? = some (.cells #[.string x] 9 (0, 0))
  pk : PK w00 b2 b7 bl D l rec lay i W
section
variable {w00 : World} {b2 b7 bl bs D l it : Nat} {rec : Loop} {lay : ByteArray} {pos : Nat} {x : ByteArray} {i : In} {W W' : World}
theorem RS.below (h : RS w00 b2 b7 bl bs D l it rec lay pos x i W) (hb : Below W.heap.size W W') (h0 : w00.heap.size ≤ W.heap.size) : RS w00 b2 b7 bl bs D l it rec lay pos x i W' :=
  ⟨(hb.block _ (Sim.lt_of_some h.hk)).trans h.hk, (hb.block _ (Sim.lt_of_some h.hsc)).trans h.hsc, h.pk.keep (hb.mono h0) fun k hk _ => hb.block k hk⟩
theorem RS.size (h : RS w00 b2 b7 bl bs D l it rec lay pos x i W) : w00.heap.size ≤ W.heap.size := h.pk.bel.size
theorem RS.cell (h : RS w00 b2 b7 bl bs D l it rec lay pos x i W) : W.cell? ⟨bs, 0, none⟩ = some (.string x) := cell_of_one h.hsc
theorem RS.free (h : RS w00 b2 b7 bl bs D l it rec lay pos x i W) : W.frozen? ⟨bs, 0, none⟩ = false := free_of_one h.hsc
theorem RS.set (ho : Ord6 w00 b2 b7 bl bs D l) (h : RS w00 b2 b7 bl bs D l it rec lay pos x i W) (x' : ByteArray) (hi : l < it) : RS w00 b2 b7 bl bs D l it rec lay pos x' i (W.setCell ⟨bs, 0, none⟩ (.string x')) := by
  obtain ⟨o0, o1, o2, o3, o4, o5⟩ := ho
  refine ⟨(Below.heap_setCell _ _ _ _ (by simp; omega)).trans h.hk, one_setCell h.hsc, h.pk.keep ((Below.refl _ _).setCell (p := ⟨bs, 0, none⟩) (by simp; omega) _) fun k _ hk => Below.heap_setCell _ _ _ _ ?_⟩
  rcases hk with rfl | rfl | rfl | rfl | rfl <;> simp <;> omega
theorem RS.as {st : List (Int × ByteArray) × ByteArray} {a : List (Int × ByteArray)} {f : List (Int × ByteArray) → In} (h : RS w00 b2 b7 bl bs D l it rec lay pos x (f a) W) (e : st = (a, x)) : RS w00 b2 b7 bl bs D l it rec lay pos st.2 (f st.1) W := by subst e; exact h
theorem RS.next (ho : Ord6 w00 b2 b7 bl bs D l) (h : RS w00 b2 b7 bl bs D l it rec lay pos x i W) (pos' : Nat) (hi : l < it) : RS w00 b2 b7 bl bs D l it rec lay pos' x i (W.iterAt it lay pos') := by
  obtain ⟨o0, o1, o2, o3, o4, o5⟩ := ho
  refine ⟨Lib.iterAt_heap _ _ _ _ _ h.hk, (Lib.iterAt_other _ _ _ _ _ (by omega)).trans h.hsc, h.pk.keep (Lib.below_iterAt (Below.refl _ _) (by omega) _ _) fun k _ hk => Lib.iterAt_other _ _ _ _ _ ?_⟩
  rcases hk with rfl | rfl | rfl | rfl | rfl <;> omega
/-- After a round of the caller's loop. -/
theorem RS.yield {i' : In} (ho : Ord6 w00 b2 b7 bl bs D l) (h : RS w00 b2 b7 bl bs D l it rec lay pos x i W) (hi : l < it) (hp : PK w00 b2 b7 bl D l rec lay i' W') (hk : ∀ k, k < W.heap.size → k ≠ b7 → k ≠ l → W'.heap[k]? = W.heap[k]?) : RS w00 b2 b7 bl bs D l it rec lay pos x i' W' := by
  obtain ⟨o0, o1, o2, o3, o4, o5⟩ := ho
  exact ⟨(hk _ (Sim.lt_of_some h.hk) (by omega) (by omega)).trans h.hk, (hk _ (Sim.lt_of_some h.hsc) (by omega) (by omega)).trans h.hsc, hp⟩
end
theorem take_one {l : List UInt8} {p : Nat} (h : p < l.length) : l.take (p + 1) = l.take p ++ [l[p]] := by simp
theorem toL_get {s : ByteArray} {p : Nat} (h : p < s.size) : ∃ h', (toL s)[p]'h' = s[p]'h := ⟨by rw [← toL_size]; exact h, Array.getElem_toList _⟩
theorem sepB_step {p : List (Int × ByteArray) × ByteArray} {c : Int} (h : sepB c = true) : opStep p c = (p.1, tpZ p.2 c) := by unfold opStep; rw [if_pos h]
theorem opS_step {p : List (Int × ByteArray) × ByteArray} {c : Int} (h : sepB c = false) : opStep p c = (p.1 ++ [(c, extZ p.2 0 (enZ p.2))], extZ p.2 (enZ p.2) p.2.size) := by unfold opStep; rw [if_neg (by rw [h]; simp)]
theorem iterPos_of {w : World} {k : Nat} {s : ByteArray} {p : Nat} (h : w.heap[k]? = some (.stringIter s p)) : w.iterPos k = p := by simp [World.iterPos, h]
theorem operands_in (w00 : World) (b2 b7 bl bs D l : Nat) (rec : Loop) (lay s : ByteArray) (f : List (Int × ByteArray) → In) (ho : Ord6 w00 b2 b7 bl bs D l) (hs : s.size ≤ 1000) (hlay : ∀ x ∈ toL lay, x.toNat < 128)
    (hY : ∀ (pre : List (Int × ByteArray)) (c : Int) (x : ByteArray) (W : World), PK w00 b2 b7 bl D l rec lay (f pre) W → x.size ≤ 1000 → (∃ u ∈ toL lay, c = (u.toNat : Nat) ∧ sepB c = false) → ∀ n, YieldAt Fence.wide n Tryz.prog l #[.int .i32 c, .string x] W fun e W' => e = .returned (.bool true) ∧ PK w00 b2 b7 bl D l rec lay (f (pre ++ [(c, x)])) W' ∧ ∀ k, k < W.heap.size → k ≠ b7 → k ≠ l → W'.heap[k]? = W.heap[k]?)
    (W : World) (h0 : PK w00 b2 b7 bl D l rec lay (f []) W) (hbs : W.heap[bs]? = some (.cells #[.string s] 9 (0, 0))) (n : Nat) :
    CallsIn Fence.wide n Tryz.prog 54 #[.func (.yield l) #[] #[], .pointer (some ⟨bl, 0, none⟩), .pointer (some ⟨bs, 0, none⟩)] W fun e W' => (∃ v, e = .returned v) ∧ PK w00 b2 b7 bl D l rec lay (f (opRun s (toL lay)).1) W' := by
  have cl : W.cell? ⟨bl, 0, none⟩ = some (.string lay) := by simp [World.cell?, h0.hlay]
  refine callsIn_of_wp Tryz.func54 rfl trivial ?_ rfl
  simp only [Tryz.ntmps54, List.size_toArray, List.length_cons, List.length_nil, Nat.reduceAdd, Nat.reduceSub, Array.replicate_succ, Array.replicate_zero, List.push_toArray, List.append_toArray, List.nil_append, List.cons_append]
  obtain ⟨o0, o1, o2, o3, o4, o5⟩ := id ho
  have hll : l < W.heap.size := Sim.lt_of_some h0.hl
  gi_wp2
  gi_loopw [5] (fun _ wr => ∃ pos, pos ≤ lay.size ∧ RS w00 b2 b7 bl bs D l W.heap.size rec lay pos (opRun s ((toL lay).take pos)).2 (f (opRun s ((toL lay).take pos)).1) wr)
    (fun _ wr => lay.size - wr.iterPos W.heap.size)
  case atStart =>
    have hal := Below.heap_alloc W (.stringIter lay 0)
    exact ⟨0, Nat.zero_le _, (by show (W.heap.push _)[W.heap.size]? = _; simp), (hal bs (Sim.lt_of_some hbs)).trans hbs, h0.keep ((Below.refl _ W).alloc h0.bel.size _) fun k hk _ => hal k hk⟩
  case round =>
    obtain ⟨pos, hpos, hr⟩ := hrel
    have hip := iterPos_of hr.hk
    by_cases hlt : pos < lay.size
    · obtain ⟨hlt', hget⟩ := toL_get hlt
      have htk := take_one hlt'
      have h128 : (lay[pos]'hlt).toNat < 128 := hlay _ (by rw [← hget]; exact List.getElem_mem _)
      have hmem : lay[pos]'hlt ∈ toL lay := by rw [← hget]; exact List.getElem_mem _
      rw [hget] at htk
      have hop := opRun_snoc s ((toL lay).take pos) (lay[pos]'hlt)
      rw [← htk] at hop
      have hsz := opRun_size s ((toL lay).take pos)
      generalize opRun s ((toL lay).take pos) = st at hr hop hsz
      have hnext : ∀ ty, (Instr.next (.pointer (some ⟨W.heap.size, 0, none⟩)) true ty).run Tryz.prog wr = .ok (.tuple #[.bool true, .int .i64 pos, .int .i32 (lay[pos]'hlt).toNat]) (wr.iterAt W.heap.size lay (pos + 1)) := fun ty => Lib.run_next_ascii_at wr W.heap.size lay pos ty hr.hk hlt h128
      have hr1 := hr.next ho (pos + 1) hll
      generalize wr.iterAt W.heap.size lay (pos + 1) = W1 at hnext hr1
      have hY' := hY st.1 ((lay[pos]'hlt).toNat : Nat) (extZ st.2 0 (enZ st.2))
      have hmem' : sepB ((lay[pos]'hlt).toNat : Nat) = false → ∃ u ∈ toL lay, ((lay[pos]'hlt).toNat : Int) = (u.toNat : Nat) ∧ sepB ((lay[pos]'hlt).toNat : Nat) = false := fun hb => ⟨_, hmem, rfl, hb⟩
      generalize hc : (lay[pos]'hlt).toNat = c at hnext h128 hop hY' hmem'
      have Hsep := hid (fun w => separates_ret (c : Nat) w)
      cases hb : sepB (c : Nat)
      · gi_wp2_with ((refine ⟨trivial, (fun h => by cases h), ?_⟩; refine (callsIn_wide.2 (Hsep.out _)).mono ?_; rintro e w2 ⟨rfl, hb2⟩; refine Hid.out ?_))
        have hr2 := hr1.below hb2 hr1.size
        have c2 := hr2.cell
        have Hix := hid (fun w => indexFuncTop_ret st.2 w)
        have hxb := ixZ_bnd st.2
        refine hid ?_
        gi_wp2_with ((refine ⟨trivial, (fun h => by cases h), ?_⟩; refine (callsIn_wide.2 (Hix.out _)).mono ?_; rintro e w3 ⟨rfl, hb3⟩; refine Hid.out ?_))
        have hr3 := hr2.below hb3 hr2.size
        have c3 := hr3.cell
        have f3 := hr3.free
        have hxs : (extZ st.2 0 (enZ st.2)).size ≤ 1000 := Nat.le_trans (ext_size _ _ _) (Nat.le_trans hsz hs)
        have HY := hid (fun W h => hY' W h hxs (hmem' hb))
        have hen := enZ_eq st.2
        by_cases hneg : ixZ st.2 < 0
        · rw [if_pos hneg] at hen
          have hx : extZ st.2 0 (enZ st.2) = st.2 := by rw [extZ_eq, hen]; simp
          have hx2 : extZ st.2 (enZ st.2) st.2.size = ByteArray.empty := by rw [extZ_eq, hen]; simp
          rw [hx] at HY
          rw [opS_step hb, hx, hx2] at hop
          obtain ⟨fn, tmps, assign, body, hy, hR⟩ := HY.out w3 hr3.pk (n - 1)
          refine hid ?_
          gi_wp2
          refine ⟨(fun h => by cases h), ?_⟩
          refine hR.mono ?_
          rintro e W5 ⟨rfl, hp5, hk5⟩
          have hr5 := hr3.yield ho hll hp5 hk5
          have c5 := hr5.cell
          have f5 := hr5.free
          gi_wp2
          have hr6 := hr5.set ho ByteArray.empty hll
          replace hr6 := hr6.as hop
          exact ⟨⟨pos + 1, hlt, hr6⟩, by rw [iterPos_of hr6.hk, hip]; omega⟩
        · rw [if_neg hneg] at hen
          have hx : extZ st.2 0 (enZ st.2) = st.2.extract 0 (ixZ st.2).toNat := by rw [extZ_eq, hen]; simp
          have hx2 : extZ st.2 (enZ st.2) st.2.size = st.2.extract (ixZ st.2).toNat st.2.size := by rw [extZ_eq, hen]; simp
          rw [hx] at HY
          rw [opS_step hb, hx, hx2] at hop
          obtain ⟨fn, tmps, assign, body, hy, hR⟩ := HY.out w3 hr3.pk (n - 1)
          refine hid ?_
          gi_wp2
          refine ⟨(fun h => by cases h), ?_⟩
          refine hR.mono ?_
          rintro e W5 ⟨rfl, hp5, hk5⟩
          have hr5 := hr3.yield ho hll hp5 hk5
          have c5 := hr5.cell
          have f5 := hr5.free
          gi_wp2
          have hr6 := hr5.set ho (st.2.extract (ixZ st.2).toNat st.2.size) hll
          replace hr6 := hr6.as hop
          exact ⟨⟨pos + 1, hlt, hr6⟩, by rw [iterPos_of hr6.hk, hip]; omega⟩
      · gi_wp2_with ((refine ⟨trivial, (fun h => by cases h), ?_⟩; refine (callsIn_wide.2 (Hsep.out _)).mono ?_; rintro e w2 ⟨rfl, hb2⟩; refine Hid.out ?_))
        have hr2 := hr1.below hb2 hr1.size
        have c2 := hr2.cell
        have f2 := hr2.free
        have Htp := hid (fun w => trimPrefix_ret st.2 (c : Nat) w)
        refine hid ?_
        gi_wp2_with ((refine ⟨trivial, (fun h => by cases h), ?_⟩; refine (callsIn_wide.2 (Htp.out _)).mono ?_; rintro e w3 ⟨rfl, rfl⟩))
        have hr4 := hr2.set ho (tpZ st.2 (c : Nat)) hll
        rw [sepB_step hb] at hop
        replace hr4 := hr4.as hop
        refine ⟨⟨pos + 1, hlt, hr4⟩, ?_⟩
        rw [iterPos_of hr4.hk, hip]; omega
    · have hnext : ∀ ty, (Instr.next (.pointer (some ⟨W.heap.size, 0, none⟩)) true ty).run Tryz.prog wr = _ := fun ty => Lib.run_next_end_at wr W.heap.size lay pos ty hr.hk hlt
      gi_wp2
      obtain rfl : pos = lay.size := by omega
      rw [List.take_of_length_le (by rw [toL_size]; exact Nat.le_refl _)] at hr
      go_end0
      exact ⟨⟨_, rfl⟩, hr.pk⟩
end Go.Proofs.YtgcglmnbkilfhaaGreatDoor
