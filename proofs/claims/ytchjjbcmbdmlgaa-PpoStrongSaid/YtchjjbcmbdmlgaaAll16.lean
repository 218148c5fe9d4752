/- Layer 16: package ppo: All. -/
import Derived.Test.YtchjjbcmbdmlgaaK11
import Derived.Test.YtchjjbcmbdmlgaaK15
import Derived.Sort.CutIn
set_option linter.unusedVariables false
set_option linter.unusedSimpArgs false
namespace Go.Proofs.Ytchjjbcmbdmlgaa
open Go Go.RowKit
theorem btw_take (p : Nat → Bool) (a : Nat) : ∀ (c k e : Nat), (btw p a c)[k]? = some e → (btw p a c).take k = btw p a e
  | 0, k, e, h => by
    have : btw p a 0 = [] := rfl
    rw [this] at h; cases h
  | c + 1, k, e, h => by
    rw [btw_succ] at h ⊢
    by_cases hk : k < (btw p a c).length
    · rw [List.getElem?_append_left hk] at h
      rw [List.take_append_of_le_length (Nat.le_of_lt hk)]
      exact btw_take p a c k e h
    · rw [List.getElem?_append_right (by omega)] at h
      cases hp : (decide (a < c) && p c)
      · rw [hp] at h; simp at h
      · rw [hp] at h
        simp only [if_true] at h
        have hk2 : k - (btw p a c).length = 0 := by
          rcases Nat.eq_zero_or_pos (k - (btw p a c).length) with h0 | h0
          · exact h0
          · rw [List.getElem?_eq_none (by simp only [List.length_cons, List.length_nil]; omega)] at h; cases h
        rw [hk2] at h
        have he : c = e := by simpa using h
        subst he
        rw [List.take_append_of_le_length (by omega), List.take_of_length_le (by omega)]
theorem btw_mem {p : Nat → Bool} {a c e : Nat} : e ∈ btw p a c ↔ e < c ∧ a < e ∧ p e = true := by
  unfold btw
  rw [List.mem_filter, List.mem_range]
  simp
def mP (pos : Nat → Nat → Bool) (a : Nat) (l : List Nat) : Nat → Nat → Bool := fun x y => (decide (x < a) || (x == a && l.contains y)) && pos x y
theorem mP_start (pos : Nat → Nat → Bool) : mP pos 0 [] = fun _ _ => false := by funext x y; unfold mP; simp
theorem mP_add {pos : Nat → Nat → Bool} {a e : Nat} {l : List Nat} (h : pos a e = true) : addP (mP pos a l) a e = mP pos a (l ++ [e]) := by
  funext x y
  unfold addP
  by_cases hx : x = a
  · subst hx
    rw [updF_same]
    unfold mP
    by_cases hy : y = e
    · subst hy; simp [h]
    · have : (y == e) = false := by simpa using hy
      simp [this, hy]
  · rw [updF_other _ _ hx]
    unfold mP
    have : (x == a) = false := by simpa using hx
    rw [this]; simp
theorem mP_skip {pos : Nat → Nat → Bool} {a e : Nat} {l : List Nat} (h : pos a e = false) : mP pos a l = mP pos a (l ++ [e]) := by
  funext x y
  unfold mP
  by_cases hx : x = a
  · subst hx
    by_cases hy : y = e
    · subst hy; simp [h]
    · simp [hy]
  · have : (x == a) = false := by simpa using hx
    rw [this]; simp
theorem mP_next {pos : Nat → Nat → Bool} {a : Nat} {l : List Nat} (h : ∀ y, pos a y = true → y ∈ l) : mP pos a l = mP pos (a + 1) [] := by
  funext x y
  unfold mP
  by_cases hx : x = a
  · subst hx
    cases hp : pos x y
    · simp
    · have h1 : (List.contains l y) = true := by rw [List.contains_iff_mem]; exact h y hp
      rw [h1]; simp
  · have h1 : (x == a) = false := by simpa using hx
    have h2 : decide (x < a + 1) = decide (x < a) := by
      by_cases h : x < a
      · rw [decide_eq_true h, decide_eq_true (by omega)]
      · rw [decide_eq_false h, decide_eq_false (by omega)]
    rw [h1, h2]; simp
def okA (n0 r1 : Nat) : Nat → TypeId → Prop := fun k t => (n0 ≤ k ∧ (t = 90 ∨ t = 43)) ∨ (k = r1 ∧ t = 71)
theorem kcA_cell {n0 r1 : Nat} {A B : World} {p : Addr} {v : Value} (hk : Kc (okA n0 r1) A B) (h : A.cell? p = some v) (hlt : p.block < n0) (hne : p.block ≠ r1) : B.cell? p = some v := by
  unfold World.cell? at h ⊢
  split at h
  · rename_i cs t fz hc
    rw [hk.cells _ _ _ _ hc (fun h => by
      rcases h with h | h
      · have := h.1; omega
      · exact hne h.1)]
    exact h
  · cases h
theorem ownFrom_kc {β : Type} {A : World} {ok : Nat → TypeId → Prop} : OwnFrom A.heap.size (fun (_ : β) W => Kc ok A W) := fun s W W' row hs hg hr =>
  ⟨Nat.le_trans hs.size hg.size, fun k cs t fz h1 h2 => (hg.block k (Array.getElem?_eq_some_iff.1 (hs.cells k cs t fz h1 h2)).1 (fun e => by
    have h3 := (hr k e.symm).1
    have h4 := (Array.getElem?_eq_some_iff.1 h1).1
    omega)).trans (hs.cells k cs t fz h1 h2), fun k o h1 h2 => (hg.block k (Array.getElem?_eq_some_iff.1 (hs.objs k o h1 h2)).1 (fun e => by
    have h3 := (hr k e.symm).1
    have h4 := (Array.getElem?_eq_some_iff.1 h1).1
    omega)).trans (hs.objs k o h1 h2)⟩
theorem RelC.stays {B : Nat} {r0 r1 n : Nat} {m : Nat → Nat → Bool} {W W' : World} {row : Option Nat} (h : RelC W r0 r1 n m) (hg : W.grownBy W' row) (hr : ∀ r, row = some r → B ≤ r ∧ ∃ o : Obj, W.heap[r]? = some o ∧ o.isCells = false) : RelC W' r0 r1 n m :=
  ⟨ownFrom_hb B _ _ _ _ () W W' row h.hd hg hr, ownFrom_hb B _ _ _ _ () W W' row h.rows hg hr, h.ne, h.n512, h.inn⟩
structure AllS (w : World) (rb r0 r1 n : Nat) (m : Nat → Nat → Bool) (Ds : List Nat) (W : World) : Prop where
  box : Hb W rb 36 1 (fun _ => .pointer (some ⟨r0, 0, none⟩))
  rel : RelC W r0 r1 n m
  l0 : w.heap.size ≤ rb
  l1 : w.heap.size ≤ r0
  l2 : w.heap.size ≤ r1
  bel : Below w.heap.size w W
  nd : Ds.Nodup
  ds : ∀ D, D ∈ Ds → W.heap[D]? = some (.deferred (some []))
  lo : ∀ D, D ∈ Ds → w.heap.size ≤ D
theorem lastI_call {m : Nat} {P : Program} {ops : Array Oper} {Q : Exit → Act → World → Prop} {S : World → Prop} {l n i : Nat} {listed : Array Bool} {a : Act} {w : World} (o : Oper) (hr : Region.ready .any ops listed = [i]) (ho : ops[i]? = some o) (hw : Region.wanted o (yielded ops a.tmps) = true) {f : FuncId} {args : Array Value} (hv : (execOp a.eval o).run P w = .ok (.enter f args) w)
    (h : Calls P f args w fun e w' => ∃ v, e = .returned v ∧ (i = l ∨ S w') ∧ wpLI m P ops Q S l n (listed.setIfInBounds i true) (a.put o.dst v) w') : wpLI m P ops Q S l (n + 1) listed a w := lastI_wp o hr ho hw fun K' hK => by
  unfold Oper.wpIn
  rw [show Fence.wide.round = none from rfl, Oper.semAt_none, hv]
  refine ⟨fun f _ => trivial, (fun h => by cases h), ?_⟩
  refine CallsIn.mono (callsIn_wide.2 h) ?_
  rintro e w' ⟨v, rfl, h1, h2⟩
  exact hK _ _ ⟨h1, h2⟩
theorem SpI.fr1 {w w' : World} {B sb r1 : Nat} {s : SpZ} {ps : List (Int × Int)} (h : SpI w B sb s ps) (hf : Fr [r1] w w') (hr : r1 < B) : SpI w' B sb s ps :=
  ⟨h.row.fr hf (by have := h.sb; simp; omega), h.own.kept (row := some r1) ⟨hf.os, hf.tape, hf.output, hf.size, fun k hk hne => hf.block k hk (by simp; rintro rfl; exact hne rfl)⟩ (by
    cases hv : s.ps.ownBlock with
    | none => exact .inl rfl
    | some g =>
      refine .inr fun e => ?_
      have h1 := (row_obj16 h.own g hv).1
      cases e
      omega), h.sb, Nat.le_trans h.base hf.size⟩
theorem fr1_below {w w' : World} {n r1 : Nat} (hf : Fr [r1] w w') (hn : n ≤ r1) (hs : n ≤ w.heap.size) : Below n w w' :=
  ⟨hf.os, hf.tape, hf.output, hf.size, fun k hk => hf.block k (by omega) (by simp; omega)⟩
theorem leastR_pos (f : Int → Bool) : ∀ n k, 0 ≤ leastR f n k
  | 0, _ => Int.le_refl _
  | n + 1, k => by
    unfold leastR
    split
    · omega
    · exact leastR_pos f n (k + 1)
theorem AllS.below {w W W' : World} {rb r0 r1 n : Nat} {m : Nat → Nat → Bool} {Ds : List Nat} (h : AllS w rb r0 r1 n m Ds W) (hb : Below W.heap.size W W') : AllS w rb r0 r1 n m Ds W' :=
  ⟨h.box.below hb h.box.lt, h.rel.below hb, h.l0, h.l1, h.l2, h.bel.trans (hb.mono h.bel.size), h.nd, fun D hD => by
    have h1 := h.ds D hD
    exact (hb.block D (Array.getElem?_eq_some_iff.1 h1).1).trans h1, h.lo⟩
section
variable {W0 : World} {b0 o0 n : Nat} {E : EvsZ} {nA nD nC : Nat → Nat} {FA FD FC : Nat → Nat → Int}
theorem EvsX.orcB (H : EvsX W0 b0 o0 n E nA nD nC FA FD FC) {a c : Nat} (ha : a < n) (hc : c < n) {W : World} {B sb : Nat} {s : SpZ} (hw : Below W0.heap.size W0 W) (h : SpOk E nA nD FA FD a W B sb b0 o0 s (btw (sameH E a) a c)) :
    OrC W B sb s (psZ E nA nD FA FD a (btw (sameH E a) a c)) (E.e a) (E.e c) (E.a a) (E.d a) (E.c a) (E.a c) (E.d c) (E.c c) b0 (o0 + c * 23) (nA c) (nD c) (nC c) (FA c) (FD c) (FC c) :=
  ⟨h.sp, by rw [h.fen]; exact fenZ_lt _ _ _, by rw [h.fb, h.fo]; exact H.ev W hw a ha, H.ev W hw c hc, H.la W hw c hc, H.ld W hw c hc, H.lc W hw c hc, (H.sz c hc).1, (H.sz c hc).2.1, (H.sz c hc).2.2⟩
theorem SpOk.rule {a e : Nat} {W : World} {B sb : Nat} {s : SpZ} (h : SpOk E nA nD FA FD a W B sb b0 o0 s (btw (sameH E a) a e)) (hae : a < e) (he : e < n) (hh : sameH E a e = true) :
    leastR (ordZ s (psZ E nA nD FA FD a (btw (sameH E a) a e)) (E.e a) (E.e e) (inF (FA e) (nA e) s.ix) (inF (FD e) (nD e) s.ix) (inF (FC e) (nC e) s.ix)) 13 1 = ruleX E n nA nD nC FA FD FC a e := by
  unfold ruleX
  congr 1
  funext k
  unfold holdsX
  have h1 : oneB E n a e = true := by
    unfold oneB
    unfold sameH at hh
    simp only [beq_iff_eq] at hh
    simp only [Bool.and_eq_true, decide_eq_true_eq, beq_iff_eq, Int.toNat_natCast]
    exact ⟨by omega, by omega, by omega, hh.symm⟩
  rw [h1, Int.toNat_natCast, Int.toNat_natCast, Bool.true_and, h.ix, h.ord]; rfl
theorem include_ok (H : EvsX W0 b0 o0 n E nA nD nC FA FD FC) {a e : Nat} (ha : a < n) (he : e < n) {W : World} {B sb : Nat} {s : SpZ} (hS : SpOk E nA nD FA FD a W B sb b0 o0 s (btw (sameH E a) a e)) (hlow : ∀ W', Below B W W' → Below W0.heap.size W0 W') :
    Calls Try.prog 30 #[.pointer (some ⟨sb, 0, none⟩), .pointer (some ⟨b0, o0 + e * 23, none⟩)] W fun x w' => x = .returned (.tuple #[]) ∧ (∃ s', SpOk E nA nD FA FD a w' B sb b0 o0 s' (btw (sameH E a) a e ++ [e])) ∧ Fr (sb :: ownL s.ps) W w' := by
  have hlk := psZ_small E nA nD FA FD a e (by have := H.nn; omega)
  generalize btw (sameH E a) a e = lk at hS hlk ⊢
  obtain ⟨sfb, sfo, six, sfen, sps, srew, srsv, sadr⟩ := s
  obtain ⟨hsp, e1, e2, e3, e4, e5, e6, e7⟩ := hS
  simp only at e1 e2 e3 e4 e5 e6 e7
  subst e1 e2 e3
  refine (include_w hsp hlk (by rw [e4]; exact fenZ_lt _ _ _) (fun W h => H.ev W (hlow W h) six ha) (fun W h => H.ev W (hlow W h) e he) (fun W h => H.la W (hlow W h) e he) (fun W h => H.ld W (hlow W h) e he) (H.sz e he).1 (H.sz e he).2.1 (H.fe e he)).mono ?_
  rintro x w4 ⟨rfl, ⟨v4, hS4⟩, hf4⟩
  refine ⟨rfl, ⟨incZ ⟨sfb, o0 + six * 23, six, sfen, sps, srew, srsv, sadr⟩ (E.e six) (E.e e) (inF (FA e) (nA e) (six : Int)) (inF (FD e) (nD e) (six : Int)) v4, ⟨?_, rfl, rfl, rfl, ?_, ?_, ?_, ?_⟩⟩, hf4⟩
  · unfold psZ; rw [List.foldl_append]; exact hS4
  · unfold fenZ; rw [List.foldl_append]; show sfen ||| _ = _; rw [e4]; rfl
  · unfold rewZ; rw [List.foldl_append]; show (srew || _) = _; rw [e5]; rfl
  · unfold rsvZ; rw [List.foldl_append]; show (srsv || _) = _; rw [e6]; rfl
  · unfold adrZ; rw [List.foldl_append]; show (sadr || _) = _; rw [e7]; rfl
theorem kcA_inc {n0 r1 : Nat} {B sb : Nat} {s : SpZ} {ps : List (Int × Int)} {W W' : World} (h : SpI W B sb s ps) (hB : n0 ≤ B) (hf : Fr (sb :: ownL s.ps) W W') : Kc (okA n0 r1) W W' := Kc.of_fr hf (fun q hq _ => by
  rcases List.mem_cons.1 hq with rfl | h'
  · obtain ⟨cs, fz, h2⟩ := h.row.obj
    exact ⟨cs, _, fz, h2, .inl ⟨Nat.le_trans hB h.sb, .inl rfl⟩⟩
  · obtain ⟨h1, cs, fz, h2⟩ := row_obj16 h.own q (mem_ownL.1 h')
    exact ⟨cs, _, fz, h2, .inl ⟨Nat.le_trans hB h1, .inr rfl⟩⟩)
theorem rel_inc {r0 r1 m : Nat} {pm : Nat → Nat → Bool} {B sb : Nat} {s : SpZ} {ps : List (Int × Int)} {W W' : World} (hR : RelC W r0 r1 m pm) (h : SpI W B sb s ps) (h0 : r0 < B) (h1 : r1 < B) (hf : Fr (sb :: ownL s.ps) W W') : RelC W' r0 r1 m pm := by
  have key : ∀ r, r < B → r ∉ sb :: ownL s.ps := fun r hr hm => by
    rcases List.mem_cons.1 hm with h' | h'
    · have := h.sb; omega
    · have := (row_obj16 h.own r (mem_ownL.1 h')).1; omega
  exact hR.fr hf (key r0 h0) (key r1 h1)
theorem kcA_add {n0 r0 r1 m : Nat} {pm : Nat → Nat → Bool} {W W' : World} (hR : RelC W r0 r1 m pm) (hf : Fr [r1] W W') : Kc (okA n0 r1) W W' := Kc.of_fr hf (fun q hq _ => by
  obtain rfl := List.mem_singleton.1 hq
  obtain ⟨cs, fz, h2⟩ := hR.rows.obj
  exact ⟨cs, _, fz, h2, .inr ⟨rfl, rfl⟩⟩)
noncomputable def posX (E : EvsZ) (n : Nat) (nA nD nC : Nat → Nat) (FA FD FC : Nat → Nat → Int) (x y : Nat) : Bool := decide (0 < ruleX E n nA nD nC FA FD FC x y)
set_option maxRecDepth 100000 in
set_option maxHeartbeats 2000000 in
theorem all_w (H : EvsX W0 b0 o0 n E nA nD nC FA FD FC) (hn512 : n ≤ 512) (cap : Nat) (w : World) (hw : Below W0.heap.size W0 w) :
    Calls Try.prog 12 #[.slice (some ⟨b0, o0, none⟩) n cap] w fun x w' => ∃ r0 r1, x = .returned (.pointer (some ⟨r0, 0, none⟩)) ∧ RelC w' r0 r1 n (mP (posX E n nA nD nC FA FD FC) n []) ∧ Below w.heap.size w w' := by
  have HNew := hid (fun W => new_mid n hn512 W)
  refine (callsIn_wide (n := 9)).1 ?_
  refine callsIn_of_wp_marks Try.func12 rfl trivial ?_ rfl
  simp only [Try.ntmps12, List.size_toArray, List.length_cons, List.length_nil, Nat.reduceAdd, Nat.reduceSub, Array.replicate_succ, Array.replicate_zero, List.push_toArray, List.append_toArray, List.nil_append, List.cons_append]
  gi_wp2_with (first
    | (refine ⟨trivial, ?_⟩; refine (callsIn_wide.2 (HNew.out _)).mono ?_; rintro e w1 ⟨r0, r1, rfl, hR, hl0, hl1, hB1⟩; refine Hid.out ?_))
  refine hid ?_
  have hBx : Below w.heap.size w (w1.alloc (.cells #[.pointer (some ⟨r0, 0, none⟩)] 36)) := hB1.alloc (hB1.size) _
  have hBx0 : Below w1.heap.size w1 (w1.alloc (.cells #[.pointer (some ⟨r0, 0, none⟩)] 36)) := (Below.refl _ w1).alloc (Nat.le_refl _) _
  have hX : Hb (w1.alloc (.cells #[.pointer (some ⟨r0, 0, none⟩)] 36)) w1.heap.size 36 1 (fun _ => .pointer (some ⟨r0, 0, none⟩)) := Hb.new w1 #[.pointer (some ⟨r0, 0, none⟩)] 36 (one_at16 _)
  have HL := hid (len_ret ((hR.below hBx0).v))
  gi_wp2_with (refine ⟨trivial, ?_⟩; refine (callsIn_wide.2 HL.out).mono ?_; rintro e w2 ⟨rfl, rfl⟩; refine Hid.out ?_)
  refine hid ?_
  have hS : AllS w w1.heap.size r0 r1 n (mP (posX E n nA nD nC FA FD FC) 0 []) [] (w1.alloc (.cells #[.pointer (some ⟨r0, 0, none⟩)] 36)) := ⟨hX, by rw [mP_start]; exact hR.below hBx0, hB1.size, hl0, hl1, hBx, List.nodup_nil, (fun D h => by cases h), fun D h => by cases h⟩
  clear hR hX hBx hBx0 HL HNew
  generalize w1.alloc (.cells #[.pointer (some ⟨r0, 0, none⟩)] 36) = w2 at hS ⊢
  obtain ⟨rb, hrb⟩ : ∃ rb, rb = w1.heap.size := ⟨_, rfl⟩
  rw [← hrb] at hS ⊢
  clear hrb hl0 hl1 hB1
  gi_wp2
  refine wpIn_loop (fun a' W => ∃ (k : Nat) (Ds : List Nat) (u4 u5 u6 u7 u14 u15 u16 u17 u18 u19 u20 u21 u22 u23 u24 u25 u26 u27 u28 u29 u30 u31 u32 u33 u34 u35 u36 u37 : Value), k ≤ n ∧ AllS w rb r0 r1 n (mP (posX E n nA nD nC FA FD FC) k []) Ds W ∧ a' = ⟨#[.slice (some ⟨b0, o0, none⟩) n cap, undef, .pointer none, .pointer (some ⟨rb, 0, none⟩), u4, u5, u6, u7, .slice (some ⟨b0, o0, none⟩) n cap, .int .i64 n, .pointer (some ⟨r0, 0, none⟩), .pointer (some ⟨r0, 0, none⟩), .int .i64 n, .int .i64 (k : Nat), u14, u15, u16, u17, u18, u19, u20, u21, u22, u23, u24, u25, u26, u27, u28, u29, u30, u31, u32, u33, u34, u35, u36, u37, undef], marks Ds⟩) (fun a' _ => n - (intOf (a'.tmps.getD 13 undef)).toNat) ⟨0, [], _, _, _, _, _, _, _, _, _, _, _, _, _, _, _, _, _, _, _, _, _, _, _, _, _, _, _, _, Nat.zero_le _, hS, rfl⟩ ?_
  rintro a W ⟨k, Ds, u4, u5, u6, u7, u14, u15, u16, u17, u18, u19, u20, u21, u22, u23, u24, u25, u26, u27, u28, u29, u30, u31, u32, u33, u34, u35, u36, u37, hk, hS2, rfl⟩
  replace hS := hS2
  dsimp only
  by_cases hlt : k < n
  · have HN := hid (newSpan_w (w := W.alloc (.cells #[.int .i64 (k : Nat)] 3)) (b := b0) (o := o0) (c := cap) (n := n) (i := k) hlt)
    have HS := hid hS
    clear hS hS2
    have HX := HN
    have hlt2 : (k : Int) < n := by omega
    have hba : Below W.heap.size W (W.alloc (.cells #[.int .i64 (k : Nat)] 3)) := (Below.refl _ W).alloc (Nat.le_refl _) _
    have hXa : Hb (W.alloc (.cells #[.int .i64 (k : Nat)] 3)) W.heap.size 3 1 (fun _ => .int .i64 (k : Nat)) := Hb.new W #[.int .i64 (k : Nat)] 3 (one_at16 _)
    have ca := hXa.cell (i := 0) (by omega)
    gi_wp2_with (refine ⟨trivial, ?_⟩; refine (callsIn_wide.2 HX.out).mono ?_; rintro e w3 ⟨rfl, hr1, hB3⟩; refine Hid.out ?_)
    refine hid ?_
    gi_upto_region 6 with (fail)
    have hbs : Below w3.heap.size w3 (w3.alloc (.cells #[.pointer (some ⟨W.heap.size + 1, 0, none⟩)] 54)) := (Below.refl _ w3).alloc (Nat.le_refl _) _
    have hXs : Hb (w3.alloc (.cells #[.pointer (some ⟨W.heap.size + 1, 0, none⟩)] 54)) w3.heap.size 54 1 (fun _ => .pointer (some ⟨W.heap.size + 1, 0, none⟩)) := Hb.new w3 #[.pointer (some ⟨W.heap.size + 1, 0, none⟩)] 54 (one_at16 _)
    rw [World.size_alloc] at hr1 hB3
    have hs3 : W.heap.size + 1 ≤ w3.heap.size := by have h := hB3.size; simpa using h
    have hga := hXa.below (hB3.trans (hbs.mono hs3)) (by simp)
    have hsp := hr1.below hbs hr1.lt
    have hlt1 : W.heap.size + 1 < w3.heap.size := hr1.lt
    have h4 := HS.out.below (hba.trans ((hB3.trans (hbs.mono hs3)).mono (by simp)))
    have lb0 : rb < W.heap.size := HS.out.box.lt
    have lb1 : r0 < W.heap.size := HS.out.rel.hd.lt
    have lb2 : r1 < W.heap.size := HS.out.rel.rows.lt
    have lw : w.heap.size ≤ W.heap.size := HS.out.bel.size
    have hlow := HS.out.l2
    clear hXa ca hr1 hB3 hbs hba HN HX
    generalize w3.alloc (.cells #[.pointer (some ⟨W.heap.size + 1, 0, none⟩)] 54) = W4 at hXs hga hsp h4 ⊢
    obtain ⟨gs, hgs⟩ : ∃ g, g = w3.heap.size := ⟨_, rfl⟩
    rw [← hgs] at hXs hlt1 ⊢
    obtain ⟨ga, hga0⟩ : ∃ g, g = W.heap.size := ⟨_, rfl⟩
    rw [← hga0] at hga hsp hlt1 lb0 lb1 lb2 lw hXs ⊢
    clear hgs hga0 HS
    have H4 := hid h4
    have HLen := hid (len_ret (h4.rel.below (⟨rfl, rfl, rfl, Nat.le_refl _, fun _ _ => rfl⟩ : Below W4.heap.size W4 W4.drew)).v)
    have HM := hid (fun w => callsIn_wide.1 (btw_make (some ⟨b0, o0, none⟩) n cap (k : Nat) (n : Nat) w Fence.wide 0 trivial rfl))
    have s0 : W4.drew.cell? ⟨rb, 0, none⟩ = some (.pointer (some ⟨r0, 0, none⟩)) := h4.box.cell (i := 0) (by omega)
    have s1 : W4.drew.cell? ⟨ga, 0, none⟩ = some (.int .i64 (k : Nat)) := hga.cell (i := 0) (by omega)
    refine regionI_calm (fun U => U = W4.drew) 4 [0, 1, 2] 2 (by rfl) (by kernel_rfl) (by kernel_rfl) (by kernel_rfl) (by kernel_rfl) rfl ?_
    iterate 3
      refine take_pure _ rfl (by rfl) (fun W hSW => by (subst hSW; go_simp; try with_reducible rfl)) ?_
      simp only [Act.put, List.getElem_toArray, List.getElem_cons_succ, List.getElem_cons_zero, List.setIfInBounds_toArray, List.set_cons_zero, List.set_cons_succ]
    refine take_done ?_
    refine lastI_call (i := 3) _ (by kernel_rfl) rfl (by rfl) (by go_simp; try exact ⟨rfl, rfl⟩) ?_
    refine HLen.out.mono ?_
    rintro e w5 ⟨rfl, rfl⟩
    refine ⟨_, rfl, .inr rfl, ?_⟩
    simp only [Act.put, List.getElem_toArray, List.getElem_cons_succ, List.getElem_cons_zero, List.setIfInBounds_toArray, List.set_cons_zero, List.set_cons_succ]
    refine lastI_call (i := 4) _ (by kernel_rfl) rfl (by rfl) (by go_simp; try exact ⟨rfl, rfl⟩) ?_
    refine (HM.out _).mono ?_
    rintro e w6 ⟨rfl, rfl⟩
    refine ⟨_, rfl, .inl rfl, ?_⟩
    clear HLen HM s0 s1
    simp only [Act.put, List.getElem_toArray, List.getElem_cons_succ, List.getElem_cons_zero, List.setIfInBounds_toArray, List.set_cons_zero, List.set_cons_succ]
    refine lastI_done (by kernel_rfl) ?_
    gi_wp2
    have hbx : Below W4.drew.heap.size W4.drew (((W4.drew.alloc (.cells #[.slice (some ⟨b0, o0, none⟩) n cap] 30)).alloc (.cells #[.int .i64 (k : Nat)] 3)).alloc (.cells #[.int .i64 (n : Nat)] 3)) := (((Below.refl _ W4.drew).alloc (Nat.le_refl _) _).alloc (by simp) _).alloc (by simp; omega) _
    have b2 : Hb (((W4.drew.alloc (.cells #[.slice (some ⟨b0, o0, none⟩) n cap] 30)).alloc (.cells #[.int .i64 (k : Nat)] 3)).alloc (.cells #[.int .i64 (n : Nat)] 3)) W4.drew.heap.size 30 1 (fun _ => .slice (some ⟨b0, o0, none⟩) n cap) := ((Hb.new W4.drew #[.slice (some ⟨b0, o0, none⟩) n cap] 30 (one_at16 _)).alloc _).alloc _
    have b3 : Hb (((W4.drew.alloc (.cells #[.slice (some ⟨b0, o0, none⟩) n cap] 30)).alloc (.cells #[.int .i64 (k : Nat)] 3)).alloc (.cells #[.int .i64 (n : Nat)] 3)) (W4.drew.heap.size + 1) 3 1 (fun _ => .int .i64 (k : Nat)) := by
      have h := Hb.new (W4.drew.alloc (.cells #[.slice (some ⟨b0, o0, none⟩) n cap] 30)) #[.int .i64 (k : Nat)] 3 (one_at16 (.int .i64 (k : Nat)))
      rw [World.size_alloc] at h
      exact h.alloc _
    have b4 : Hb (((W4.drew.alloc (.cells #[.slice (some ⟨b0, o0, none⟩) n cap] 30)).alloc (.cells #[.int .i64 (k : Nat)] 3)).alloc (.cells #[.int .i64 (n : Nat)] 3)) (W4.drew.heap.size + 2) 3 1 (fun _ => .int .i64 (n : Nat)) := by
      have h := Hb.new ((W4.drew.alloc (.cells #[.slice (some ⟨b0, o0, none⟩) n cap] 30)).alloc (.cells #[.int .i64 (k : Nat)] 3)) #[.int .i64 (n : Nat)] 3 (one_at16 (.int .i64 (n : Nat)))
      rw [World.size_alloc, World.size_alloc] at h
      exact h
    have hb45 : Below W4.heap.size W4 (((W4.drew.alloc (.cells #[.slice (some ⟨b0, o0, none⟩) n cap] 30)).alloc (.cells #[.int .i64 (k : Nat)] 3)).alloc (.cells #[.int .i64 (n : Nat)] 3)) := (⟨rfl, rfl, rfl, Nat.le_refl _, fun _ _ => rfl⟩ : Below W4.heap.size W4 W4.drew).trans hbx
    have h5 := H4.out.below hb45
    have hga5 := hga.below hb45 hga.lt
    have hXs5 := hXs.below hb45 hXs.lt
    have hsp5 := hsp.below hb45 hsp.lt
    have hgb : ga + 1 < W4.drew.heap.size := hsp.lt
    clear hga hXs hsp hb45 hbx H4
    generalize ((W4.drew.alloc (.cells #[.slice (some ⟨b0, o0, none⟩) n cap] 30)).alloc (.cells #[.int .i64 (k : Nat)] 3)).alloc (.cells #[.int .i64 (n : Nat)] 3) = W5 at b2 b3 b4 h5 hga5 hXs5 hsp5 ⊢
    obtain ⟨gb, hgb0⟩ : ∃ g, g = W4.drew.heap.size := ⟨_, rfl⟩
    rw [← hgb0] at b2 b3 b4 hgb ⊢
    clear hgb0
    have hW5 : Below W0.heap.size W0 W5 := hw.trans (h5.bel.mono hw.size)
    have hlow : ∀ W, Below w.heap.size w W → Below W0.heap.size W0 W := fun W h => hw.trans (h.mono hw.size)
    have hb0 : b0 < w.heap.size := (H.ev w hw k hlt).lt
    have hn := H.nn
    have hr1w : w.heap.size ≤ r1 := h5.l2
    have hD5 : ∀ D, D ∈ Ds → D < W5.heap.size := fun D hD => (Array.getElem?_eq_some_iff.1 (h5.ds D hD)).1
    have hga1 : ga + 1 ≤ W5.heap.size := by have := hsp5.lt; omega
    refine range_outer (btw1_tells E k n n cap ⟨b0, o0, none⟩ b0 o0 rfl hlt (Nat.le_refl _) (by omega) (okA (ga + 1) r1) (gb + 1) (gb + 2) gb W5 b3 b4 b2 (fun b h => by revert h; unfold okA; rintro (⟨_, h⟩ | ⟨_, h⟩) <;> revert h <;> decide) (fun b h => by revert h; unfold okA; rintro (⟨_, h⟩ | ⟨_, h⟩) <;> revert h <;> decide) (fun W hW i hi => kcA_cell hW ((H.ev W5 hW5 i hi) 0 (by omega)) (by show b0 < ga + 1; omega) (by show b0 ≠ r1; omega)))
      rfl (enters_of Try.func47 (by kernel_rfl) rfl) (fun q x hk => by obtain ⟨e, he, rfl⟩ := List.mem_map.1 (List.mem_of_getElem? hk); rfl)
      (fun j W => (∃ s, SpOk E nA nD FA FD k W (ga + 1) (ga + 1) b0 o0 s ((btw (sameH E k) k n).take j)) ∧ RelC W r0 r1 n (mP (posX E n nA nD nC FA FD FC) k ((btw (sameH E k) k n).take j)) ∧ Kc (okA (ga + 1) r1) W5 W ∧ Below w.heap.size w W) (fun _ _ _ => False)
      (fun s A A' row hs hg' hr => ⟨by
          obtain ⟨s', h1⟩ := hs.1
          exact ⟨s', ⟨h1.sp.stays (D := W5.heap.size) (ga + 1) hg' hr, h1.fb, h1.fo, h1.ix, h1.fen, h1.rew, h1.rsv, h1.adr⟩⟩, hs.2.1.stays hg' hr, ownFrom_kc (β := Unit) () A A' row hs.2.2.1 hg' hr, (ownFrom_below (β := Unit) (Nat.le_refl _) (show w.heap.size ≤ W5.heap.size from h5.bel.size)) () A A' row hs.2.2.2 hg' hr⟩) (fun c s A A' row hs _ _ => hs)
      ⟨⟨sp0 b0 o0 k, ⟨⟨hsp5, World.ownsRow_nil _ _ _ _, Nat.le_refl _, hga1⟩, rfl, rfl, rfl, rfl, rfl, rfl, rfl⟩⟩, h5.rel, Kc.refl _ _, h5.bel⟩ (fun j => { tmps := #[.slice (some ⟨b0, o0, none⟩) n cap, undef, .pointer none, .pointer (some ⟨rb, 0, none⟩), .pointer (some ⟨ga, 0, none⟩), .pointer (some ⟨gs, 0, none⟩), .int .i64 (mAt E k n j : Nat), .pointer (some ⟨b0, o0 + mAt E k n j * 23, none⟩), .slice (some ⟨b0, o0, none⟩) n cap, .int .i64 n, .pointer (some ⟨r0, 0, none⟩), .pointer (some ⟨r0, 0, none⟩), .int .i64 n, .int .i64 k, .bool true, .int .i64 k, .slice (some ⟨b0, o0, none⟩) n cap, .int .i64 k, .pointer (some ⟨ga + 1, 0, none⟩), .slice (some ⟨b0, o0, none⟩) n cap, .int .i64 k, .pointer (some ⟨r0, 0, none⟩), .int .i64 n, .func (.func 47) #[] #[.pointer (some ⟨gb + 1, 0, none⟩), .pointer (some ⟨gb + 2, 0, none⟩), .pointer (some ⟨gb, 0, none⟩)], .int .i64 (mAt E k n j : Nat), .pointer (some ⟨b0, o0 + mAt E k n j * 23, none⟩), u26, u27, u28, u29, u30, u31, u32, u33, u34, u35, u36, u37, undef], defers := [] }) ?assign ?body ?done ?stop
    case assign =>
      intro l' j x m' W' K hk' hK
      obtain ⟨e, he, rfl⟩ : ∃ e : Nat, (btw (sameH E k) k n)[j]? = some e ∧ x = #[.int .i64 e, .pointer (some ⟨b0, o0 + e * 23, none⟩)] := by
        rw [List.getElem?_map] at hk'
        obtain ⟨e, he, h2⟩ := Option.map_eq_some_iff.1 hk'
        exact ⟨e, he, h2.symm⟩
      rw [mAt_of he] at hK
      have hsem := @Oper.semAt_some
      gi_wp2
      exact hK
    case body =>
      rintro l' j x m' W' hk' hl hr ⟨⟨s, hS⟩, hR, hKc, hB⟩
      obtain ⟨e, he⟩ : ∃ e : Nat, (btw (sameH E k) k n)[j]? = some e := by
        rw [List.getElem?_map] at hk'
        obtain ⟨e, he, h2⟩ := Option.map_eq_some_iff.1 hk'
        exact ⟨e, he⟩
      have htk : (btw (sameH E k) k n).take (j + 1) = (btw (sameH E k) k n).take j ++ [e] := by
        obtain ⟨h1, h2⟩ := List.getElem?_eq_some_iff.1 he
        rw [List.take_succ_eq_append_getElem h1, h2]
      obtain ⟨hen, hke, hsame⟩ := btw_mem.1 (List.mem_of_getElem? he)
      rw [mAt_of he]
      rw [btw_take _ _ _ _ _ he] at hS hR htk
      have Htk := hid htk
      have hWl := hlow W' hB
      have HRu := rule_w (H.orcB hlt hen hWl hS) (psZ_small E nA nD FA FD k e (by omega)) (fun W hW => H.orcB hlt hen (hWl.trans (hW.mono hWl.size)) (hS.below hW))
      rw [hS.rule hke hen hsame] at HRu
      obtain ⟨v, hv⟩ : ∃ v, v = ruleX E n nA nD nC FA FD FC k e := ⟨_, rfl⟩
      rw [← hv] at HRu
      have Hv := hid hv
      have hv0 : 0 ≤ v := by rw [hv]; exact leastR_pos _ _ _
      have HRul := hid HRu
      have HS := hid hS
      have HR := hid hR
      have HKc := hid hKc
      have HB := hid hB
      have HW5 := hid h5
      have cb := (hXs5.kc hKc (by unfold okA; rintro (⟨_, h⟩ | ⟨_, h⟩) <;> revert h <;> decide)).cell (i := 0) (by omega)
      have c3 := (h5.box.kc hKc (by unfold okA; rintro (⟨_, h⟩ | ⟨_, h⟩) <;> revert h <;> decide)).cell (i := 0) (by omega)
      have c4 := (hga5.kc hKc (by unfold okA; rintro (⟨_, h⟩ | ⟨_, h⟩) <;> revert h <;> decide)).cell (i := 0) (by omega)
      clear htk hS hR hKc hB HRu hv h5 hWl
      dsimp only
      have hsem := @Oper.semAt_some
      clear hga5 b2 b3 b4 hgb
      gi_wp2_with (refine ⟨trivial, (fun h => by cases h), ?_⟩; refine (CallsIn.inRound l' (callsIn_wide.2 HRul.out)).mono ?_; rintro e' w4 ⟨rfl, hB4⟩; refine Hid.out ?_)
      have S4 := HS.out.below hB4
      have R4 := HR.out.below hB4
      have HK4 := hid (Kc.of_below (ok := okA (ga + 1) r1) hB4)
      have HB4 := hid (HB.out.trans (hB4.mono HB.out.size))
      have hl4 : ∀ {p : Addr} {u : Value}, W'.cell? p = some u → w4.cell? p = some u := fun {p u} h => by
        have hlt : p.block < W'.heap.size := by
          unfold World.cell? at h
          cases hk : W'.heap[p.block]? with
          | none => rw [hk] at h; cases h
          | some y => exact (Array.getElem?_eq_some_iff.1 hk).1
        exact (hB4.cell hlt).trans h
      have cb4 := hl4 cb
      have c34 := hl4 c3
      have c44 := hl4 c4
      clear cb c3 c4 hl4 HRul HS HR hB4
      by_cases hv1 : v = 0
      · have hpos : posX E n nA nD nC FA FD FC k e = false := by unfold posX; rw [← Hv.out, hv1]; rfl
        subst hv1
        clear c34 c44
        refine hid ?_
        have hlow6 : ∀ W', Below (ga + 1) w4 W' → Below W0.heap.size W0 W' := fun W' h => hlow W' (HB4.out.trans (h.mono (by omega)))
        have HI := hid (include_ok H hlt hen S4 hlow6)
        clear hlow6
        gi_wp2_with (refine ⟨trivial, (fun h => by cases h), ?_⟩; refine (CallsIn.inRound l' (callsIn_wide.2 HI.out)).mono ?_; rintro e' w7 ⟨rfl, hS7, hf7⟩; refine Hid.out ?_)
        refine hid ?_
        gi_wp2
        have hK7 := HK4.out.trans (kcA_inc (n0 := ga + 1) (r1 := r1) S4.sp (Nat.le_refl _) hf7)
        refine ⟨hK7, by rw [Htk.out]; exact hS7, ?_, HKc.out.trans hK7, HB4.out.trans ((bel_of_fr S4.sp hf7).mono (by omega))⟩
        rw [Htk.out, ← mP_skip hpos]
        exact rel_inc R4 S4.sp (by omega) (by omega) hf7
      · have hpos : posX E n nA nD nC FA FD FC k e = true := by unfold posX; rw [← Hv.out]; exact decide_eq_true (by omega)
        have hvn : (v != 0) = true := by simpa using hv1
        have HAd := hid (addYes_ret R4 hlt hen)
        have HT : ∀ b, ¬ okA (ga + 1) r1 b 54 := fun b h => by revert h; unfold okA; rintro (⟨_, h⟩ | ⟨_, h⟩) <;> revert h <;> decide
        clear hv1
        refine hid ?_
        gi_wp2_with (refine ⟨trivial, (fun h => by cases h), ?_⟩; refine (CallsIn.inRound l' (callsIn_wide.2 HAd.out)).mono ?_; rintro e' w5 ⟨rfl, hR5, hf5⟩; refine Hid.out ?_)
        have S5 : SpOk E nA nD FA FD k w5 (ga + 1) (ga + 1) b0 o0 s (btw (sameH E k) k e) := ⟨S4.sp.fr1 hf5 (by omega), S4.fb, S4.fo, S4.ix, S4.fen, S4.rew, S4.rsv, S4.adr⟩
        have HK5 := hid (HK4.out.trans (kcA_add (n0 := ga + 1) R4 hf5))
        have HB5 := hid (HB4.out.trans (fr1_below hf5 hr1w HB4.out.size))
        have cb5 := (hXs5.kc (HKc.out.trans HK5.out) (HT _)).cell (i := 0) (by omega)
        clear cb4 c34 c44 HAd HT
        refine hid ?_
        have hlow6 : ∀ W', Below (ga + 1) w5 W' → Below W0.heap.size W0 W' := fun W' h => hlow W' (HB5.out.trans (h.mono (by omega)))
        have HI := hid (include_ok H hlt hen S5 hlow6)
        clear hlow6
        gi_wp2_with (refine ⟨trivial, (fun h => by cases h), ?_⟩; refine (CallsIn.inRound l' (callsIn_wide.2 HI.out)).mono ?_; rintro e' w7 ⟨rfl, hS7, hf7⟩; refine Hid.out ?_)
        refine hid ?_
        gi_wp2
        have hK7 := HK5.out.trans (kcA_inc (n0 := ga + 1) (r1 := r1) S5.sp (Nat.le_refl _) hf7)
        refine ⟨hK7, by rw [Htk.out]; exact hS7, ?_, HKc.out.trans hK7, HB5.out.trans ((bel_of_fr S5.sp hf7).mono (by omega))⟩
        rw [Htk.out, ← mP_add hpos]
        exact rel_inc hR5 S5.sp (by omega) (by omega) hf7
    case done =>
      rintro D W' hD ⟨⟨s, hS⟩, hR, hKc, hB⟩ hd
      rw [List.length_map, List.take_of_length_le (Nat.le_refl _), mP_next (fun y hy => by
        unfold posX at hy
        have h1 : 0 < ruleX E n nA nD nC FA FD FC k y := of_decide_eq_true hy
        unfold ruleX at h1
        cases ho : oneB E n (k : Int) (y : Int)
        · rw [leastR_no (fun q => by unfold holdsX; rw [ho]; rfl)] at h1
          omega
        · obtain ⟨i', j', ei, ej, h2, h3, h4⟩ := oneB_split ho
          have ei : k = i' := by omega
          have ej : y = j' := by omega
          subst ei ej
          exact btw_mem.2 ⟨h3, h2, by unfold sameH; simp only [beq_iff_eq]; exact h4.symm⟩)] at hR
      have hbx := h5.box.kc hKc (by unfold okA; rintro (⟨_, h⟩ | ⟨_, h⟩) <;> revert h <;> decide)
      have hobj := hKc.objs
      have hns : D ∉ Ds := fun hm => by have := hD5 D hm; omega
      have HR := hid hR
      have HB := hid hB
      have HX := hid hbx
      have H5 := hid h5
      have HO := hid hobj
      clear hS hR hKc hB hbx h5 hobj hXs5 hga5 b2 b3 b4 hgb
      gi_wp2
      refine ⟨⟨k + 1, D :: Ds, _, _, _, _, _, _, _, _, _, _, _, _, _, _, _, _, _, _, _, _, _, _, _, _, _, _, _, _, by omega, ⟨HX.out, HR.out, H5.out.l0, H5.out.l1, H5.out.l2, HB.out, List.nodup_cons.2 ⟨hns, H5.out.nd⟩, fun D' h => ?_, fun D' h => ?_⟩, rfl⟩, ?_⟩
      · rcases List.mem_cons.1 h with rfl | h
        · exact hd
        · exact HO.out _ _ (H5.out.ds D' h) rfl
      · rcases List.mem_cons.1 h with rfl | h
        · exact Nat.le_trans H5.out.bel.size hD
        · exact H5.out.lo D' h
      · simp [intOf]; omega
    case stop =>
      intro D c j W' _ _ h _
      exact h.elim
  · obtain rfl : k = n := by omega
    have cb := hS.box.cell (i := 0) (by omega)
    have HS := hid hS
    clear hS hS2
    gi_wp2
    refine leave_marks (.pointer (some ⟨r0, 0, none⟩)) (fun W => RelC W r0 r1 k (mP (posX E k nA nD nC FA FD FC) k []) ∧ Below w.heap.size w W) (fun _ _ => results_tmp (t := 2) rfl _ _ _) (fun W h => ⟨r0, r1, rfl, h.1, h.2⟩) Ds _ HS.out.nd HS.out.ds (fun D W h hd hh => ?_) ⟨HS.out.rel, HS.out.bel⟩
    exact ⟨hh.1.stays (B := 0) (grownBy_putObj' W D (.deferred none)) (fun r e => by cases e; exact ⟨Nat.zero_le _, _, hd, rfl⟩), hh.2.trans (belowK_b (w := w) (Nat.le_refl _) W D _ _ (HS.out.lo D h) hd rfl rfl)⟩
end
end Go.Proofs.Ytchjjbcmbdmlgaa
