/- Acs16, Plw16, Stp16. -/
import Derived.Test.YtchjjbcmbdmlgaaK07
import Derived.Test.YtchjjbcmbdmlgaaK09
import Derived.Test.YtchjjbcmbdmlgaaPlr16
import Derived.Deep.Cut
set_option linter.unusedVariables false
set_option linter.unusedSimpArgs false
namespace Go.Proofs.Ytchjjbcmbdmlgaa
open Go Go.RowKit Sim
structure RkA where
  pc : Int
  val : Int
  sh : Int
  sa : Int
  wt : Bool
  fl : Bool
abbrev rkA (r : RkA) : Array Value := #[.int .i64 r.pc, .int .i64 r.val, .int .i64 r.sh, .int .i64 r.sa, .bool r.wt, .bool r.fl]
theorem imageInfo : (Try.prog.info? 25).map (·.size) = some 3 := by kernel_rfl
theorem load_image {W : World} {b : Nat} {t : TypeId} {x y z : Value} (h : Hb W b t 3 (arrF #[x, y, z])) : (loadVar 25 ⟨b, 0, none⟩).run Try.prog W = .ok (.agg #[x, y, z]) W :=
  run_loadVar_mid W b 0 _ [x, y, z] _ (h.range (fun j hj => by
    have : j = 0 ∨ j = 1 ∨ j = 2 := by simp at hj; omega
    rcases this with rfl | rfl | rfl <;> rfl) (by simp)) Try.underlying25 rfl imageInfo
def AcsE (w : World) (h eb N : Nat) (M : List Nat) (no : Int) (tp vc : Value) (i0 : In) (w' : World) : Prop :=
  ∃ S' e' va' vd', HtOk w' h M N S' ∧ S'.tp = tp ∧ EvQ w' eb M N no e' va' vd' vc ∧ e'.i = i0 ∧ Fr [h, eb] w w'
structure AcI (w : World) (h eb N : Nat) (M : List Nat) (no : Int) (tp vc : Value) (i0 : In) (im : Array Value) (i : In) (r : RkA) (kn : Bool) (S : HZ) (e : EvZ) (va vd : Value) (W : World) : Prop where
  hart : HtOk W h M N S
  tpe : S.tp = tp
  ev : EvQ W eb M N no e va vd vc
  ie : e.i = i0
  kne : kn = true → e.kn = true
  b0 : Hb W w.heap.size 25 3 (arrF im)
  b1 : Hb W (w.heap.size + 1) 41 7 (inC i)
  b2 : Hb W (w.heap.size + 2) 81 6 (arrF (rkA r))
  fr : Fr [h, eb] w W
  lh : h < w.heap.size
  le : eb < w.heap.size
  ne : h ≠ eb
  sz : w.heap.size + 3 ≤ W.heap.size
section
variable {w : World} {h eb N : Nat} {M : List Nat} {no : Int} {tp vc : Value} {i0 : In} {im : Array Value} {i : In} {r : RkA} {kn : Bool} {S : HZ} {e : EvZ} {va vd : Value} {W W' : World}
theorem AcI.out (H : AcI w h eb N M no tp vc i0 im i r kn S e va vd W) : AcsE w h eb N M no tp vc i0 W := ⟨S, e, va, vd, H.hart, H.tpe, H.ev, H.ie, H.fr⟩
theorem AcI.same (H : AcI w h eb N M no tp vc i0 im i r kn S e va vd W) (hB : Below W.heap.size W W') : AcI w h eb N M no tp vc i0 im i r kn S e va vd W' :=
  ⟨H.hart.same hB, H.tpe, H.ev.same hB, H.ie, H.kne, H.b0.below hB H.b0.lt, H.b1.below hB H.b1.lt, H.b2.below hB H.b2.lt, H.fr.trans (Fr.of_below hB), H.lh, H.le, H.ne, Nat.le_trans H.sz hB.size⟩
theorem AcI.setE (H : AcI w h eb N M no tp vc i0 im i r kn S e va vd W) {k : Nat} {x : Value} {kn' : Bool} {e' : EvZ} {va' vd' : Value} (hE : EvQ (W.setCell ⟨eb, k, none⟩ x) eb M N no e' va' vd' vc) (hi : e'.i = e.i) (hk : kn' = true → e'.kn = true) :
    AcI w h eb N M no tp vc i0 im i r kn' S e' va' vd' (W.setCell ⟨eb, k, none⟩ x) := by
  have hf : Fr [eb] W (W.setCell ⟨eb, k, none⟩ x) := (Fr.refl _ W).set (.inr (by simp)) x
  have hm : eb ∈ M := H.ev.inn
  have h1 := H.le
  have h2 := H.ne
  exact ⟨H.hart.fr hf (by simpa using h2) (fun k hk => by simp at hk; subst hk; exact .inl hm) (fun _ hk => .inl hk) H.hart.inn, H.tpe, hE, hi.trans H.ie, hk,
    H.b0.fr hf (by simp; omega), H.b1.fr hf (by simp; omega), H.b2.fr hf (by simp; omega), H.fr.trans (hf.mono fun k _ hk => by simp at hk; simp [hk]), H.lh, H.le, H.ne, Nat.le_trans H.sz hf.size⟩
theorem AcI.setH (H : AcI w h eb N M no tp vc i0 im i r kn S e va vd W) {S' : HZ} (hH : HtOk W' h M N S') (ht : S'.tp = S.tp) (hf : Fr [h] W W') : AcI w h eb N M no tp vc i0 im i r kn S' e va vd W' := by
  have hm : h ∈ M := H.hart.inn
  have h1 := H.lh
  have h2 := H.ne
  exact ⟨hH, ht.trans H.tpe, H.ev.fr hf (by simpa using h2.symm) (fun k hk => by simp at hk; subst hk; exact .inl hm), H.ie, H.kne,
    H.b0.fr hf (by simp; omega), H.b1.fr hf (by simp; omega), H.b2.fr hf (by simp; omega), H.fr.trans (hf.mono fun k _ hk => by simp at hk; simp [hk]), H.lh, H.le, H.ne, Nat.le_trans H.sz hf.size⟩
theorem AcI.drew (H : AcI w h eb N M no tp vc i0 im i r kn S e va vd W) : AcI w h eb N M no tp vc i0 im i r kn S e va vd W.drew := H.same ⟨rfl, rfl, rfl, Nat.le_refl _, fun _ _ => rfl⟩
theorem AcI.start (H : HtOk w h M N S) (ht : S.tp = tp) (E : EvQ w eb M N no e va vd vc) (hie : e.i = i0) (hne : h ≠ eb) (im : Array Value) (hsz : im.size = 3) (i : In) (r : RkA) :
    AcI w h eb N M no tp vc i0 im i r false S e va vd (((w.alloc (.cells im 25)).alloc (.cells (inA i) 41)).alloc (.cells (rkA r) 81)) := by
  have hB : Below w.heap.size w (((w.alloc (.cells im 25)).alloc (.cells (inA i) 41)).alloc (.cells (rkA r) 81)) := (((Below.refl _ w).alloc (Nat.le_refl _) _).alloc (by simp) _).alloc (by simp; omega) _
  have h0 := ((Hb.arr w im 25).alloc (.cells (inA i) 41)).alloc (.cells (rkA r) 81)
  rw [hsz] at h0
  have h1 := (Hb.instr (w.alloc (.cells im 25)) i 41).alloc (.cells (rkA r) 81)
  rw [World.size_alloc] at h1
  have h2 := Hb.arr ((w.alloc (.cells im 25)).alloc (.cells (inA i) 41)) (rkA r) 81
  rw [World.size_alloc, World.size_alloc] at h2
  exact ⟨H.same hB, ht, E.same hB, hie, (fun h => by cases h), h0, h1, h2, Fr.of_below hB, H.row.lt, E.row.lt, hne, by simp⟩
end
end Go.Proofs.Ytchjjbcmbdmlgaa
namespace Go.Proofs.Ytchjjbcmbdmlgaa
open Go Go.RowKit Sim
theorem plain_w {w : World} {h N B n : Nat} {M : List Nat} {S : HZ} (H : HtT w h M N B n S) (i : In) (hi : DecI i) (pc : Int) : Calls Try.prog 56 #[.pointer (some ⟨h, 0, none⟩), .agg (inA i), .int .i64 pc] w (PlE w h M N B n S) := by
  obtain ⟨op, rd, a, b, imm, aq, rl⟩ := i
  obtain ⟨h1, h2, h3, h4, _, h6⟩ := hi
  simp only at h1 h2 h3 h4 h6
  obtain ⟨a, rfl⟩ : ∃ k : Nat, a = (k : Int) := ⟨a.toNat, by omega⟩
  obtain ⟨b, rfl⟩ : ∃ k : Nat, b = (k : Int) := ⟨b.toNat, by omega⟩
  by_cases c1 : op = 0 ∨ op = 65
  · exact plain_bad H op rd a b imm aq rl c1 pc
  by_cases c2 : op = 64
  · exact plain_call H op rd a b imm aq rl c2 pc
  by_cases c3 : op = 63
  · exact plain_fence H op rd a b imm aq rl c3 pc
  by_cases c4 : op = 1 ∨ op = 2 ∨ op = 3
  · exact plain_set H op rd a b imm aq rl c4 h2 pc
  by_cases c5 : op = 4
  · exact plain_jalr H op rd imm a b aq rl c5 h2 (by omega) pc
  have ho : op ≠ 0 ∧ op ≠ 65 ∧ op ≠ 64 ∧ op ≠ 63 ∧ op ≠ 1 ∧ op ≠ 2 ∧ op ≠ 3 ∧ op ≠ 4 := ⟨fun e => c1 (.inl e), fun e => c1 (.inr e), c2, c3, fun e => c4 (.inl e), fun e => c4 (.inr (.inl e)), fun e => c4 (.inr (.inr e)), c5⟩
  by_cases c6 : formZ op = 4
  · exact plain_b H op rd imm a b aq rl ho c6 (by omega) (by omega) pc
  by_cases c7 : formZ op = 6
  · exact plain_r H op rd imm a b aq rl ho (by have := ho.1; omega) c7 h2 (by omega) (by omega) pc
  · exact plain_i H op rd imm a b aq rl ho (by have := ho.1; omega) c6 c7 h6 h2 (by omega) pc
end Go.Proofs.Ytchjjbcmbdmlgaa
namespace Go.Proofs.Ytchjjbcmbdmlgaa
open Go Go.RowKit Sim
theorem owns_fr {w w' : World} {B : Nat} {e : TypeId} {size : Nat} {v : Value} {n : Nat} {xs : List Value} {T : List Nat} (h : w.ownsRow B e size v n xs) (hf : Fr T w w') (hn : ∀ b, v.ownBlock = some b → b ∉ T) : w'.ownsRow B e size v n xs := by
  refine ⟨h.1, ?_⟩
  rcases h.2 with hz | ⟨g, cap, cur, rfl, hb, hg, rest⟩
  · exact .inl hz
  · exact .inr ⟨g, cap, cur, rfl, hb, (hf.block g (Array.getElem?_eq_some_iff.1 hg).1 (hn g rfl)).trans hg, rest⟩
section
variable {ops : Array Oper} {rest : List Oper} {op : Oper} {a : Act} {w : World} {Q : Exit → Act → World → Prop}
theorem wp_st_at (hgd : op.guard = none) (ty : TypeId) (x y : Operand) (ho : op.op = .store ty x y) {g f : Nat} {v : Value} {w' : World} (hx : a.eval x = .pointer (some ⟨g, f, none⟩)) (hy : a.eval y = v) (hr : (storeVar ty ⟨g, f, none⟩ v).run Try.prog w = .ok () w')
    (h : wpList Try.prog ops Q rest (a.put op.dst undef) w') : wpList Try.prog ops Q (op :: rest) a w :=
  wpList_plain hgd fun _ hK => by
    unfold Oper.wp execOp
    simp only [ho, hx, hy, Instr.storeAt, Instr.sureAddr, Sem.run_bind, Sem.run_pure, Result.andThen_ok, hr]
    exact hK _ _ h
end
theorem recInfo16 : (Try.prog.info? 81).map (·.size) = some 6 := by kernel_rfl
theorem load_rec {W : World} {b : Nat} {t : TypeId} {r : RkA} (h : Hb W b t 6 (arrF (rkA r))) : (loadVar 81 ⟨b, 0, none⟩).run Try.prog W = .ok (.agg (rkA r)) W :=
  run_loadVar_mid W b 0 _ (rkA r).toList _ (h.range (fun j hj => by
    have : j = 0 ∨ j = 1 ∨ j = 2 ∨ j = 3 ∨ j = 4 ∨ j = 5 := by simp at hj; omega
    rcases this with rfl | rfl | rfl | rfl | rfl | rfl <;> rfl) (by simp)) Try.underlying81 rfl recInfo16
section
variable {w w' W : World} {h eb N B n : Nat} {M : List Nat} {no : Int} {S : HZ} {e : EvZ} {va vd vc : Value}
theorem EvQ.frM (H : EvQ w eb M N no e va vd vc) {T M' : List Nat} (hf : Fr T w w') (hh : eb ∉ T) (hT : ∀ k, k ∈ T → k ∈ M ∨ w.heap.size ≤ k) (hM : ∀ k, k ∈ M' → k ∈ M ∨ w.heap.size ≤ k) (hm : eb ∈ M') : EvQ w' eb M' N no e va vd vc :=
  ⟨H.row.fr hf hh, H.ht, H.kn, H.fe, H.la.fr hf hT hM, H.ld.fr hf hT hM, H.lc.fr hf hT hM, hm⟩
theorem evF_setI (e : EvZ) (va vd vc : Value) (i : In) : ∀ k, k < 23 → updR (evF e va vd vc) 3 (inA i).toList k = evF { e with i := i } va vd vc k := lt23 (by simp [updR, evF, evL, inA])
theorem st_instr_at {w : World} {b o : Nat} {N : Nat} {F : Nat → Value} {t : TypeId} (h : Hb w b t N F) (ho : o + 7 ≤ N) (i : In) : (storeVar 41 ⟨b, o, none⟩ (.agg (inA i))).run Try.prog w = .ok () (w.setCells b o (inA i).toList) :=
  run_storeVar_mid (P := Try.prog) w b o 41 (inA i) (h.there (by simpa using ho)) instrInfo (by simp [Value.oneCell'])
theorem EvQ.instr (H : EvQ w eb M N no e va vd vc) {i : In} (hi : DecI i) : EvQ (w.setCells eb 3 (inA i).toList) eb M N no { e with i := i } va vd vc := by
  have hf : Fr [eb] w (w.setCells eb 3 (inA i).toList) := Fr.sets (.inr List.mem_cons_self) _ _ (Fr.refl _ w)
  have hT : ∀ k, k ∈ [eb] → k ∈ M ∨ w.heap.size ≤ k := fun k hk => by simp at hk; subst hk; exact .inl H.inn
  exact ⟨H.row.sets.congr (evF_setI e va vd vc i), H.ht, H.kn, hi.fe, H.la.fr hf hT fun _ hk => .inl hk, H.ld.fr hf hT fun _ hk => .inl hk, H.lc.fr hf hT fun _ hk => .inl hk, H.inn⟩
theorem HtT.fr (H : HtT w h M N B n S) {T : List Nat} (hf : Fr T w w') (hh : h ∉ T) (hT : ∀ k, k ∈ T → k ∈ M ∨ w.heap.size ≤ k) (ht : ∀ b, S.tp.ownBlock = some b → b ∉ T) : HtT w' h M N B n S := by
  obtain ⟨xs, ho⟩ := H.own
  exact ⟨H.ok.fr hf hh hT (fun _ hk => .inl hk) H.ok.inn, ⟨xs, owns_fr ho hf ht⟩, Nat.le_trans H.base hf.size, H.len, H.inn, fun x hx => Nat.lt_of_lt_of_le (H.lt x hx) hf.size, H.nn⟩
theorem HtT.same (H : HtT w h M N B n S) (hb : Below w.heap.size w w') : HtT w' h M N B n S := H.fr (T := []) (Fr.of_below hb) (by simp) (by simp) (by simp)
def StP (w w' : World) (h eb : Nat) (M : List Nat) (N B n : Nat) (no : Int) (S : HZ) : Prop :=
  ∃ S' M' n' xs e' va vd vc, HtOk w' h M' N S' ∧ EvQ w' eb M' N no e' va vd vc ∧ (∀ x, x ∈ M → x ∈ M') ∧ (∀ x, x ∈ M' → x ∈ M ∨ w.heap.size ≤ x) ∧ w'.ownsRow B 3 1 S'.tp n' xs ∧ n' ≤ n + 1 ∧ (∀ b, S'.tp.ownBlock = some b → b ∈ M') ∧ Fr (h :: eb :: ownL S.tp) w w'
structure StI (w : World) (h eb : Nat) (M : List Nat) (N B n : Nat) (no : Int) (S : HZ) (im : Array Value) (r : RkA) (e : EvZ) (va vd vc : Value) (W : World) : Prop where
  ht : HtT W h M N B n S
  ev : EvQ W eb M N no e va vd vc
  b0 : Hb W w.heap.size 25 3 (arrF im)
  b1 : Hb W (w.heap.size + 1) 81 6 (arrF (rkA r))
  fr : Fr [h, eb] w W
  le : eb < w.heap.size
  ne : h ≠ eb
  sz : w.heap.size + 2 ≤ W.heap.size
variable {im : Array Value} {r : RkA}
theorem StI.out (H : StI w h eb M N B n no S im r e va vd vc W) : StP w W h eb M N B n no S := by
  obtain ⟨xs, ho⟩ := H.ht.own
  exact ⟨S, M, n, xs, e, va, vd, vc, H.ht.ok, H.ev, fun _ hx => hx, fun _ hx => .inl hx, ho, by omega, H.ht.inn, H.fr.mono fun k _ hk => by simp at hk; rcases hk with rfl | rfl <;> simp⟩
theorem StI.same (H : StI w h eb M N B n no S im r e va vd vc W) (hB : Below W.heap.size W w') : StI w h eb M N B n no S im r e va vd vc w' :=
  ⟨H.ht.same hB, H.ev.same hB, H.b0.below hB H.b0.lt, H.b1.below hB H.b1.lt, H.fr.trans (Fr.of_below hB), H.le, H.ne, Nat.le_trans H.sz hB.size⟩
theorem tape_ne (H : HtT w h M N B n S) {b k : Nat} {F : Nat → Value} (hb : Hb w b evT k F) : ∀ g, S.tp.ownBlock = some g → g ∉ [b] := fun g hg hm => by
  obtain ⟨xs, ho⟩ := H.own
  simp at hm
  subst hm
  exact own_ne ho hb (by decide) hg
theorem StI.turn (H : StI w h eb M N B n no S im r e va vd vc W) {e' : EvZ} {va' vd' vc' : Value} (hf : Fr [eb] W w') (hE : EvQ w' eb M N no e' va' vd' vc') : StI w h eb M N B n no S im r e' va' vd' vc' w' := by
  have h1 := H.le
  have h2 := H.ne
  exact ⟨H.ht.fr hf (by simpa using h2) (fun k hk => by simp at hk; subst hk; exact .inl H.ev.inn) (tape_ne H.ht H.ev.row), hE, H.b0.fr hf (by simp; omega), H.b1.fr hf (by simp; omega), H.fr.trans (hf.mono fun k _ hk => by simp at hk; simp [hk]), H.le, H.ne, Nat.le_trans H.sz hf.size⟩
theorem StI.acs (H : StI w h eb M N B n no S im r e va vd vc W) {i0 : In} (hA : AcsE W h eb N M no S.tp vc i0 w') : StP w w' h eb M N B n no S := by
  obtain ⟨S', e', va', vd', h1, h2, h3, h4, h5⟩ := hA
  obtain ⟨xs, ho⟩ := H.ht.own
  have hn : ∀ b, S.tp.ownBlock = some b → b ∉ [h, eb] := fun b hb hm => by
    simp at hm
    rcases hm with rfl | rfl
    · exact own_ne ho H.ht.ok.row (by decide) hb
    · exact own_ne ho H.ev.row (by decide) hb
  exact ⟨S', M, n, xs, e', va', vd', vc, h1, h3, fun _ hx => hx, fun _ hx => .inl hx, by rw [h2]; exact owns_fr ho h5 hn, by omega, by rw [h2]; exact H.ht.inn, (H.fr.trans h5).mono fun k _ hk => by simp at hk; rcases hk with rfl | rfl <;> simp⟩
theorem StI.pln (H : StI w h eb M N B n no S im r e va vd vc W) (hA : PlP W w' h M N B n S) : StP w w' h eb M N B n no S := by
  obtain ⟨S', M', n', xs, h1, h2, h3, h4, h5, h6, h7⟩ := hA
  have hsz := H.fr.size
  have hT : ∀ k, k ∈ h :: ownL S.tp → k ∈ M ∨ W.heap.size ≤ k := fun k hk => by
    rcases List.mem_cons.1 hk with rfl | hk
    · exact .inl H.ht.ok.inn
    · unfold ownL at hk
      split at hk
      · rename_i b hb; simp at hk; subst hk; exact .inl (H.ht.inn _ hb)
      · simp at hk
  have hne : eb ∉ h :: ownL S.tp := fun hm => by
    rcases List.mem_cons.1 hm with rfl | hk
    · exact H.ne rfl
    · unfold ownL at hk
      split at hk
      · rename_i b hb; simp at hk; subst hk; exact tape_ne H.ht H.ev.row _ hb (by simp)
      · simp at hk
  refine ⟨S', M', n', xs, e, va, vd, vc, h1, H.ev.frM h7 hne hT h3 (h2 _ H.ev.inn), h2, fun x hx => ?_, h4, h5, h6, ?_⟩
  · rcases h3 x hx with h | h
    · exact .inl h
    · exact .inr (Nat.le_trans hsz h)
  · refine (H.fr.mono fun k _ hk => ?_).trans (h7.mono fun k _ hk => ?_)
    · simp at hk; rcases hk with rfl | rfl <;> simp
    · rcases List.mem_cons.1 hk with rfl | hk
      · simp
      · simp [hk]
theorem StI.b1_pln (H : StI w h eb M N B n no S im r e va vd vc W) (hM : ∀ x, x ∈ M → x < w.heap.size) (hA : PlP W w' h M N B n S) : Hb w' (w.heap.size + 1) 81 6 (arrF (rkA r)) := by
  obtain ⟨S', M', n', xs, h1, h2, h3, h4, h5, h6, h7⟩ := hA
  refine H.b1.fr h7 fun hm => ?_
  rcases List.mem_cons.1 hm with hk | hk
  · have := hM _ H.ht.ok.inn; omega
  · unfold ownL at hk
    split at hk
    · rename_i b hb; simp at hk; have := hM _ (H.ht.inn _ hb); omega
    · simp at hk
theorem StI.start (H : HtT w h M N B n S) (E : EvQ w eb M N no e va vd vc) (hne : h ≠ eb) (im : Array Value) (hsz : im.size = 3) (r : RkA) :
    StI w h eb M N B n no S im r e va vd vc ((w.alloc (.cells im 25)).alloc (.cells (rkA r) 81)) := by
  have hB : Below w.heap.size w ((w.alloc (.cells im 25)).alloc (.cells (rkA r) 81)) := ((Below.refl _ w).alloc (Nat.le_refl _) _).alloc (by simp) _
  have h0 := (Hb.arr w im 25).alloc (.cells (rkA r) 81)
  rw [hsz] at h0
  have h1 := Hb.arr (w.alloc (.cells im 25)) (rkA r) 81
  rw [World.size_alloc] at h1
  exact ⟨H.same hB, E.same hB, h0, h1, Fr.of_below hB, E.row.lt, hne, by simp⟩
end
end Go.Proofs.Ytchjjbcmbdmlgaa
