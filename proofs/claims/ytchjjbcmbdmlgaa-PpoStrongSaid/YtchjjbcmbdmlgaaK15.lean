/- Sof16, Prl16, Alc16, Ald16. -/
import Derived.Test.YtchjjbcmbdmlgaaK10
import Derived.Test.YtchjjbcmbdmlgaaBtw16
import Derived.Test.YtchjjbcmbdmlgaaRnr16
set_option linter.unusedVariables false
set_option linter.unusedSimpArgs false
namespace Go.Proofs.Ytchjjbcmbdmlgaa
open Go Go.RowKit
theorem row_obj16 {w : World} {base e size n : Nat} {v : Value} {xs : List Value} (h : w.ownsRow base e size v n xs) : ∀ k, v.ownBlock = some k → base ≤ k ∧ ∃ cs fz, w.heap[k]? = some (.cells cs e fz) := fun k hk => by
  rcases h.2 with ⟨rfl, _⟩ | ⟨g, cap, cur, rfl, hb, hg, _⟩
  · cases hk
  · cases hk; exact ⟨hb, cur, _, hg⟩
structure EvsX (W0 : World) (b0 o0 n : Nat) (E : EvsZ) (nA nD nC : Nat → Nat) (FA FD FC : Nat → Nat → Int) : Prop where
  ev : ∀ W, Below W0.heap.size W0 W → ∀ i, i < n → EvA W b0 (o0 + i * 23) (E.e i) (E.a i) (E.d i) (E.c i)
  la : ∀ W, Below W0.heap.size W0 W → ∀ i, i < n → RdL W (E.a i) (nA i) (FA i)
  ld : ∀ W, Below W0.heap.size W0 W → ∀ i, i < n → RdL W (E.d i) (nD i) (FD i)
  lc : ∀ W, Below W0.heap.size W0 W → ∀ i, i < n → RdL W (E.c i) (nC i) (FC i)
  sz : ∀ i, i < n → nA i ≤ 1000000 ∧ nD i ≤ 1000000 ∧ nC i ≤ 1000000
  up : ∀ i j, i < j → j < n → (E.e i).ht ≤ (E.e j).ht
  fe : ∀ i, i < n → (E.e i).i.op = 63 → 0 ≤ (E.e i).i.imm ∧ (E.e i).i.imm ≤ 255
  nn : n ≤ 1000
section
variable (E : EvsZ) (nA nD : Nat → Nat) (FA FD : Nat → Nat → Int) (a : Nat)
noncomputable def xA (m : Nat) : Bool := inF (FA m) (nA m) (a : Int)
noncomputable def fenZ (l : List Nat) : Nat := l.foldl (fun x m => x ||| keptN (E.e a) (E.e m)) 0
def rewZ (l : List Nat) : Bool := l.foldl (fun x m => x || ((E.e m).wr && sameB (E.e a) (E.e m))) false
def rsvZ (l : List Nat) : Bool := l.foldl (fun x m => x || rsvB (E.e m)) false
noncomputable def adrZ (l : List Nat) : Bool := l.foldl (fun x m => x || xA nA FA a m) false
noncomputable def psZ (l : List Nat) : List (Int × Int) := l.foldl (fun ps m => incP ps (E.e m) (xA nA FA a m) (xA nD FD a m)) []
structure SpOk (W : World) (B sb b0 o0 : Nat) (s : SpZ) (l : List Nat) : Prop where
  sp : SpI W B sb s (psZ E nA nD FA FD a l)
  fb : s.fb = b0
  fo : s.fo = o0 + a * 23
  ix : s.ix = a
  fen : s.fen = fenZ E a l
  rew : s.rew = rewZ E a l
  rsv : s.rsv = rsvZ E l
  adr : s.adr = adrZ nA FA a l
end
theorem fenZ_lt (E : EvsZ) (a : Nat) (l : List Nat) : fenZ E a l < 16 := by
  have key : ∀ (l : List Nat) (x : Nat), x < 16 → l.foldl (fun x m => x ||| keptN (E.e a) (E.e m)) x < 16 := fun l => by
    induction l with
    | nil => intro x hx; exact hx
    | cons m r ih => intro x hx; exact ih _ (Nat.or_lt_two_pow (n := 4) hx (keptN_lt _ _))
  exact key l 0 (by omega)
theorem psZ_len (E : EvsZ) (nA nD : Nat → Nat) (FA FD : Nat → Nat → Int) (a : Nat) (l : List Nat) : (psZ E nA nD FA FD a l).length ≤ l.length := by
  have key : ∀ (l : List Nat) (ps : List (Int × Int)), (l.foldl (fun ps m => incP ps (E.e m) (xA nA FA a m) (xA nD FD a m)) ps).length ≤ ps.length + l.length := fun l => by
    induction l with
    | nil => intro ps; simp
    | cons m r ih =>
      intro ps
      have h1 : (incP ps (E.e m) (xA nA FA a m) (xA nD FD a m)).length ≤ ps.length + 1 := by
        unfold incP
        split <;> simp
      refine Nat.le_trans (ih _) ?_
      simp only [List.length_cons]
      omega
  have := key l []
  simpa [psZ] using this
def okS (n0 : Nat) : Nat → TypeId → Prop := fun k t => n0 ≤ k ∧ (t = 90 ∨ t = 43)
theorem SpI.stays {B D : Nat} (sb : Nat) {s : SpZ} {ps : List (Int × Int)} {W W' : World} {row : Option Nat} (h : SpI W B sb s ps) (hg : W.grownBy W' row) (hr : ∀ r, row = some r → D ≤ r ∧ ∃ o : Obj, W.heap[r]? = some o ∧ o.isCells = false) : SpI W' B sb s ps :=
  ⟨ownFrom_hb D _ _ _ _ () W W' row h.row hg hr, h.own.kept hg (by
    cases hv : s.ps.ownBlock with
    | none => exact .inl rfl
    | some g =>
      refine .inr fun e => ?_
      obtain ⟨_, o, ho, hc⟩ := hr g e.symm
      obtain ⟨_, cs, fz, h2⟩ := row_obj16 h.own g hv
      rw [h2] at ho; cases ho; cases hc), h.sb, Nat.le_trans h.base hg.size⟩
theorem one_at16 (v : Value) : ∀ i, i < #[v].size → #[v][i]? = some ((fun _ => v) i : Value) := fun i hi => by
  have hi : i < 1 := hi
  have : i = 0 := by omega
  subst this; rfl
theorem kc_cell {n0 : Nat} {A B : World} {p : Addr} {v : Value} (hk : Kc (okS n0) A B) (h : A.cell? p = some v) (hlt : p.block < n0) : B.cell? p = some v := by
  unfold World.cell? at h ⊢
  split at h
  · rename_i cs t fz hc
    rw [hk.cells _ _ _ _ hc (fun h => by have := h.1; omega)]
    exact h
  · cases h
def mAt (E : EvsZ) (a c k : Nat) : Nat := ((btw (sameH E a) a c)[k]?).getD 0
theorem mAt_of {E : EvsZ} {a c k e : Nat} (h : (btw (sameH E a) a c)[k]? = some e) : mAt E a c k = e := by unfold mAt; rw [h]; rfl
set_option maxRecDepth 100000 in
set_option maxHeartbeats 2000000 in
theorem spanOf_w {W0 : World} {b0 o0 n : Nat} {E : EvsZ} {nA nD nC : Nat → Nat} {FA FD FC : Nat → Nat → Int} (H : EvsX W0 b0 o0 n E nA nD nC FA FD FC) (cap a c : Nat) (hac : a < c) (hc : c ≤ n) (w : World) (hw : Below W0.heap.size W0 w) :
    Calls Try.prog 19 #[.slice (some ⟨b0, o0, none⟩) n cap, .int .i64 a, .int .i64 c] w fun x w' => ∃ sb s, x = .returned (.pointer (some ⟨sb, 0, none⟩)) ∧ SpOk E nA nD FA FD a w' w.heap.size sb b0 o0 s (btw (sameH E a) a c) ∧ Below w.heap.size w w' := by
  have HM := hid (fun w => callsIn_wide.1 (btw_make (some ⟨b0, o0, none⟩) n cap a c w Fence.wide 0 trivial rfl))
  have HN := hid (newSpan_w (w := w) (b := b0) (o := o0) (c := cap) (n := n) (i := a) (by omega))
  refine (callsIn_wide (n := 9)).1 ?_
  refine callsIn_of_wp_marks Try.func19 rfl trivial ?_ rfl
  simp only [Try.ntmps19, List.size_toArray, List.length_cons, List.length_nil, Nat.reduceAdd, Nat.reduceSub, Array.replicate_succ, Array.replicate_zero, List.push_toArray, List.append_toArray, List.nil_append, List.cons_append]
  have HX := HN
  gi_wp2_with (first
    | (refine ⟨trivial, ?_⟩; refine (callsIn_wide.2 HX.out).mono ?_; rintro e w1 ⟨rfl, hr1, hB1⟩; clear HX; have Hr1 := hid hr1; have HB1 := hid hB1; clear hr1 hB1)
    | (refine ⟨trivial, ?_⟩; refine (callsIn_wide.2 (HM.out _)).mono ?_; rintro e w3 ⟨rfl, rfl⟩))
  have hbx : Below w1.heap.size w1 ((((w1.alloc (.cells #[.pointer (some ⟨w.heap.size, 0, none⟩)] 54)).alloc (.cells #[.slice (some ⟨b0, o0, none⟩) n cap] 30)).alloc (.cells #[.int .i64 a] 3)).alloc (.cells #[.int .i64 c] 3)) := ((((Below.refl _ w1).alloc (Nat.le_refl _) _).alloc (by simp) _).alloc (by simp; omega) _).alloc (by simp; omega) _
  have b1 : Hb ((((w1.alloc (.cells #[.pointer (some ⟨w.heap.size, 0, none⟩)] 54)).alloc (.cells #[.slice (some ⟨b0, o0, none⟩) n cap] 30)).alloc (.cells #[.int .i64 a] 3)).alloc (.cells #[.int .i64 c] 3)) w1.heap.size 54 1 (fun _ => .pointer (some ⟨w.heap.size, 0, none⟩)) := (((Hb.new w1 #[.pointer (some ⟨w.heap.size, 0, none⟩)] 54 (one_at16 _)).alloc _).alloc _).alloc _
  have b2 : Hb ((((w1.alloc (.cells #[.pointer (some ⟨w.heap.size, 0, none⟩)] 54)).alloc (.cells #[.slice (some ⟨b0, o0, none⟩) n cap] 30)).alloc (.cells #[.int .i64 a] 3)).alloc (.cells #[.int .i64 c] 3)) (w1.heap.size + 1) 30 1 (fun _ => .slice (some ⟨b0, o0, none⟩) n cap) := by
    have h := Hb.new (w1.alloc (.cells #[.pointer (some ⟨w.heap.size, 0, none⟩)] 54)) #[.slice (some ⟨b0, o0, none⟩) n cap] 30 (one_at16 (.slice (some ⟨b0, o0, none⟩) n cap))
    rw [World.size_alloc] at h
    exact (h.alloc _).alloc _
  have b3 : Hb ((((w1.alloc (.cells #[.pointer (some ⟨w.heap.size, 0, none⟩)] 54)).alloc (.cells #[.slice (some ⟨b0, o0, none⟩) n cap] 30)).alloc (.cells #[.int .i64 a] 3)).alloc (.cells #[.int .i64 c] 3)) (w1.heap.size + 1 + 1) 3 1 (fun _ => .int .i64 a) := by
    have h := Hb.new ((w1.alloc (.cells #[.pointer (some ⟨w.heap.size, 0, none⟩)] 54)).alloc (.cells #[.slice (some ⟨b0, o0, none⟩) n cap] 30)) #[.int .i64 a] 3 (one_at16 (.int .i64 a))
    rw [World.size_alloc, World.size_alloc] at h
    exact h.alloc _
  have b4 : Hb ((((w1.alloc (.cells #[.pointer (some ⟨w.heap.size, 0, none⟩)] 54)).alloc (.cells #[.slice (some ⟨b0, o0, none⟩) n cap] 30)).alloc (.cells #[.int .i64 a] 3)).alloc (.cells #[.int .i64 c] 3)) (w1.heap.size + 1 + 2) 3 1 (fun _ => .int .i64 c) := by
    have h := Hb.new (((w1.alloc (.cells #[.pointer (some ⟨w.heap.size, 0, none⟩)] 54)).alloc (.cells #[.slice (some ⟨b0, o0, none⟩) n cap] 30)).alloc (.cells #[.int .i64 a] 3)) #[.int .i64 c] 3 (one_at16 (.int .i64 c))
    rw [World.size_alloc, World.size_alloc, World.size_alloc] at h
    exact h
  have hB2 := HB1.out.trans (hbx.mono HB1.out.size)
  have hs2 := Hr1.out.below hbx Hr1.out.lt
  generalize ((((w1.alloc _).alloc _).alloc _).alloc _) = W2 at hbx b1 b2 b3 b4 hB2 hs2 ⊢
  have hg1 : w.heap.size < w1.heap.size := Hr1.out.lt
  obtain ⟨g, hg⟩ : ∃ g, g = w1.heap.size := ⟨_, rfl⟩
  rw [← hg] at b1 b2 b3 b4 hg1 ⊢
  have hb0 : b0 < w.heap.size := (H.ev w hw a (by omega)).lt
  have hW2 : Below W0.heap.size W0 W2 := hw.trans (hB2.mono hw.size)
  have hlow : ∀ W, Below w.heap.size w W → Below W0.heap.size W0 W := fun W h => hw.trans (h.mono hw.size)
  have hn := H.nn
  clear hg hbx Hr1 HB1
  refine range_outer (btw1_tells E a c n cap ⟨b0, o0, none⟩ b0 o0 rfl hac hc (by omega) (okS w.heap.size) (g + 1 + 1) (g + 1 + 2) (g + 1) W2 b3 b4 b2 (fun b h => by revert h; unfold okS; rintro ⟨_, h⟩; revert h; decide) (fun b h => by revert h; unfold okS; rintro ⟨_, h⟩; revert h; decide) (fun W hW i hi => kc_cell hW ((H.ev W2 hW2 i hi) 0 (by omega)) hb0))
    rfl (enters_of Try.func47 (by kernel_rfl) rfl) (fun k x hk => by obtain ⟨e, he, rfl⟩ := List.mem_map.1 (List.mem_of_getElem? hk); rfl)
    (fun k W => (∃ s, SpOk E nA nD FA FD a W w.heap.size w.heap.size b0 o0 s ((btw (sameH E a) a c).take k)) ∧ Hb W g 54 1 (fun _ => .pointer (some ⟨w.heap.size, 0, none⟩)) ∧ Below w.heap.size w W) (fun _ _ _ => False)
    (fun s A A' row hs hg' hr => ⟨by
        obtain ⟨s', h1⟩ := hs.1
        exact ⟨s', ⟨h1.sp.stays (D := W2.heap.size) w.heap.size hg' hr, h1.fb, h1.fo, h1.ix, h1.fen, h1.rew, h1.rsv, h1.adr⟩⟩, ownFrom_hb W2.heap.size _ _ _ _ () A A' row hs.2.1 hg' hr, (ownFrom_below (β := Unit) (Nat.le_refl _) (show w.heap.size ≤ W2.heap.size from hB2.size)) () A A' row hs.2.2 hg' hr⟩) (fun c s A A' row hs _ _ => hs)
    ⟨⟨sp0 b0 o0 a, ⟨⟨hs2, World.ownsRow_nil _ _ _ _, Nat.le_refl _, hB2.size⟩, rfl, rfl, rfl, rfl, rfl, rfl, rfl⟩⟩, b1, hB2⟩ (fun k => { tmps := #[.slice (some ⟨b0, o0, none⟩) n cap, .int .i64 a, .int .i64 c, undef, undef, undef, .pointer none, .pointer (some ⟨g, 0, none⟩), undef, .pointer (some ⟨b0, o0 + mAt E a c k * 23, none⟩), .slice (some ⟨b0, o0, none⟩) n cap, .int .i64 a, .pointer (some ⟨w.heap.size, 0, none⟩), .slice (some ⟨b0, o0, none⟩) n cap, .int .i64 a, .int .i64 c, .func (.func 47) #[] #[.pointer (some ⟨g + 1 + 1, 0, none⟩), .pointer (some ⟨g + 1 + 2, 0, none⟩), .pointer (some ⟨g + 1, 0, none⟩)], .int .i64 (mAt E a c k : Nat), .pointer (some ⟨b0, o0 + mAt E a c k * 23, none⟩), undef, undef, undef, undef], defers := [] }) ?assign ?body ?done ?stop
  case assign =>
    intro l' k x m' W' K hk hK
    obtain ⟨e, he, rfl⟩ : ∃ e : Nat, (btw (sameH E a) a c)[k]? = some e ∧ x = #[.int .i64 e, .pointer (some ⟨b0, o0 + e * 23, none⟩)] := by
      rw [List.getElem?_map] at hk
      obtain ⟨e, he, h2⟩ := Option.map_eq_some_iff.1 hk
      exact ⟨e, he, h2.symm⟩
    rw [mAt_of he] at hK
    have hsem := @Oper.semAt_some
    gi_wp2
    exact hK
  case body =>
    rintro l' k x m' W' hk hl hr ⟨⟨s, hS⟩, hbx, hB⟩
    obtain ⟨e, he⟩ : ∃ e : Nat, (btw (sameH E a) a c)[k]? = some e := by
      rw [List.getElem?_map] at hk
      obtain ⟨e, he, h2⟩ := Option.map_eq_some_iff.1 hk
      exact ⟨e, he⟩
    have htk : (btw (sameH E a) a c).take (k + 1) = (btw (sameH E a) a c).take k ++ [e] := by
      obtain ⟨h1, h2⟩ := List.getElem?_eq_some_iff.1 he
      rw [List.take_succ_eq_append_getElem h1, h2]
    have hec : e < c := by
      have h1 := List.mem_of_getElem? he
      unfold btw at h1
      exact List.mem_range.1 (List.mem_filter.1 h1).1
    have hlk : (psZ E nA nD FA FD a ((btw (sameH E a) a c).take k)).length ≤ 10000 := by
      have h1 := psZ_len E nA nD FA FD a ((btw (sameH E a) a c).take k)
      have h2 : ((btw (sameH E a) a c).take k).length ≤ c := by
        have h3 : (btw (sameH E a) a c).length ≤ c := by
          unfold btw
          refine Nat.le_trans (List.length_filter_le _ _) ?_
          simp
        rw [List.length_take]
        omega
      omega
    rw [mAt_of he]
    generalize (btw (sameH E a) a c).take k = lk at hS htk hlk
    obtain ⟨sfb, sfo, six, sfen, sps, srew, srsv, sadr⟩ := s
    obtain ⟨hsp, e1, e2, e3, e4, e5, e6, e7⟩ := hS
    simp only at e1 e2 e3 e4 e5 e6 e7
    subst e1 e2 e3
    have HI := hid (include_w hsp hlk (by rw [e4]; exact fenZ_lt _ _ _) (fun W h => H.ev W (hlow W (hB.trans h)) six (by omega)) (fun W h => H.ev W (hlow W (hB.trans h)) e (by omega)) (fun W h => H.la W (hlow W (hB.trans h)) e (by omega)) (fun W h => H.ld W (hlow W (hB.trans h)) e (by omega)) (H.sz e (by omega)).1 (H.sz e (by omega)).2.1 (H.fe e (by omega)))
    have cb := hbx.cell (i := 0) (by omega)
    have Htk := hid htk
    have Hsp := hid hsp
    have E4 := hid e4
    have E5 := hid e5
    have E6 := hid e6
    have E7 := hid e7
    clear htk hsp e4 e5 e6 e7 hlk
    have hsem := @Oper.semAt_some
    gi_wp2_with (refine ⟨trivial, (fun h => by cases h), ?_⟩; refine (CallsIn.inRound l' (callsIn_wide.2 HI.out)).mono ?_; rintro e' w4 ⟨rfl, ⟨v4, hS4⟩, hf4⟩; refine Hid.out ?_)
    have hB4 : Below w.heap.size w w4 := hB.trans (bel_of_fr Hsp.out hf4)
    have hbx4 := hbx.fr hf4 (fun hm => by
      rcases List.mem_cons.1 hm with h | h
      · omega
      · obtain ⟨_, cs, fz, h2⟩ := row_obj16 Hsp.out.own g (mem_ownL.1 h)
        obtain ⟨cs', fz', h3⟩ := hbx.obj
        rw [h2] at h3
        simp at h3)
    have hk4 : Kc (okS w.heap.size) W' w4 := Kc.of_fr hf4 (fun q hq _ => by
      rcases List.mem_cons.1 hq with rfl | h
      · obtain ⟨cs, fz, h2⟩ := Hsp.out.row.obj
        exact ⟨cs, _, fz, h2, Nat.le_refl _, .inl rfl⟩
      · obtain ⟨h1, cs, fz, h2⟩ := row_obj16 Hsp.out.own q (mem_ownL.1 h)
        exact ⟨cs, _, fz, h2, h1, .inr rfl⟩)
    refine hid ?_
    gi_wp2
    refine ⟨hk4, ⟨incZ ⟨sfb, o0 + six * 23, six, sfen, sps, srew, srsv, sadr⟩ (E.e six) (E.e e) (inF (FA e) (nA e) (six : Int)) (inF (FD e) (nD e) (six : Int)) v4, ⟨?_, rfl, rfl, rfl, ?_, ?_, ?_, ?_⟩⟩, hbx4, hB4⟩
    · rw [Htk.out]; unfold psZ; rw [List.foldl_append]; exact hS4
    · rw [Htk.out]; unfold fenZ; rw [List.foldl_append]; show sfen ||| _ = _; rw [E4.out]; rfl
    · rw [Htk.out]; unfold rewZ; rw [List.foldl_append]; show (srew || _) = _; rw [E5.out]; rfl
    · rw [Htk.out]; unfold rsvZ; rw [List.foldl_append]; show (srsv || _) = _; rw [E6.out]; rfl
    · rw [Htk.out]; unfold adrZ; rw [List.foldl_append]; show (sadr || _) = _; rw [E7.out]; rfl
  case done =>
    rintro D W' hD ⟨⟨s, hS⟩, hbx, hB⟩ hd
    rw [List.length_map, List.take_of_length_le (Nat.le_refl _)] at hS
    have cb := hbx.cell (i := 0) (by omega)
    have HS := hid hS
    clear hS
    gi_wp2
    refine leave_marks (.pointer (some ⟨w.heap.size, 0, none⟩)) (fun W => SpOk E nA nD FA FD a W w.heap.size w.heap.size b0 o0 s (btw (sameH E a) a c) ∧ Below w.heap.size w W) (fun _ _ => results_tmp (t := 6) rfl _ _ _) (fun W h => ⟨_, s, rfl, h.1, h.2⟩) [D] _ (by simp) (fun D' h => by rw [List.mem_singleton.1 h]; exact hd) (fun D' W h hd' hh => ?_) ⟨HS.out, hB⟩
    rw [List.mem_singleton.1 h] at hd' ⊢
    exact ⟨⟨hh.1.sp.stays (D := 0) w.heap.size (grownBy_putObj' W D (.deferred none)) (fun r e => by cases e; exact ⟨Nat.zero_le _, _, hd', rfl⟩), hh.1.fb, hh.1.fo, hh.1.ix, hh.1.fen, hh.1.rew, hh.1.rsv, hh.1.adr⟩, hh.2.trans (belowK_b (w := w) (Nat.le_refl _) W D _ _ (by have := hB2.size; omega) hd' rfl rfl)⟩
  case stop =>
    intro D c k W' _ _ h _
    exact h.elim
end Go.Proofs.Ytchjjbcmbdmlgaa
namespace Go.Proofs.Ytchjjbcmbdmlgaa
open Go Go.RowKit
section
variable {W0 : World} {b0 o0 n : Nat} {E : EvsZ} {nA nD nC : Nat → Nat} {FA FD FC : Nat → Nat → Int}
noncomputable def spnV (E : EvsZ) (nA : Nat → Nat) (FA : Nat → Nat → Int) (a c : Nat) : SpZ := ⟨0, 0, a, fenZ E a (btw (sameH E a) a c), .slice none 0 0, rewZ E a (btw (sameH E a) a c), rsvZ E (btw (sameH E a) a c), adrZ nA FA a (btw (sameH E a) a c)⟩
noncomputable def ordX (E : EvsZ) (nA nD nC : Nat → Nat) (FA FD FC : Nat → Nat → Int) (a c : Nat) (rule : Int) : Bool :=
  ordZ (spnV E nA FA a c) (psZ E nA nD FA FD a (btw (sameH E a) a c)) (E.e a) (E.e c) (inF (FA c) (nA c) (a : Int)) (inF (FD c) (nD c) (a : Int)) (inF (FC c) (nC c) (a : Int)) rule
theorem ordR_congr {s s' : SpZ} (h1 : s.fen = s'.fen) (h2 : s.rew = s'.rew) (h3 : s.rsv = s'.rsv) (h4 : s.adr = s'.adr) (ps : List (Int × Int)) (e m : EvZ) (xa xd xc : Bool) (k : Nat) : ordR s ps e m xa xd xc k = ordR s' ps e m xa xd xc k := by
  unfold ordR
  split <;> first | rfl | (simp only [h1, h2, h3, h4])
theorem SpOk.ord {W : World} {B sb : Nat} {s : SpZ} {a c : Nat} (h : SpOk E nA nD FA FD a W B sb b0 o0 s (btw (sameH E a) a c)) (xa xd xc : Bool) (m : EvZ) (rule : Int) :
    ordZ s (psZ E nA nD FA FD a (btw (sameH E a) a c)) (E.e a) m xa xd xc rule = ordZ (spnV E nA FA a c) (psZ E nA nD FA FD a (btw (sameH E a) a c)) (E.e a) m xa xd xc rule := by
  unfold ordZ
  rw [ordR_congr (s' := spnV E nA FA a c) h.fen h.rew h.rsv h.adr]
theorem EvsX.orc (H : EvsX W0 b0 o0 n E nA nD nC FA FD FC) {a c : Nat} (ha : a < n) (hc : c < n) {w W : World} {sb : Nat} {s : SpZ} (hw : Below W0.heap.size W0 W) (h : SpOk E nA nD FA FD a W w.heap.size sb b0 o0 s (btw (sameH E a) a c)) :
    OrC W w.heap.size sb s (psZ E nA nD FA FD a (btw (sameH E a) a c)) (E.e a) (E.e c) (E.a a) (E.d a) (E.c a) (E.a c) (E.d c) (E.c c) b0 (o0 + c * 23) (nA c) (nD c) (nC c) (FA c) (FD c) (FC c) :=
  ⟨h.sp, by rw [h.fen]; exact fenZ_lt _ _ _, by rw [h.fb, h.fo]; exact H.ev W hw a ha, H.ev W hw c hc, H.la W hw c hc, H.ld W hw c hc, H.lc W hw c hc, (H.sz c hc).1, (H.sz c hc).2.1, (H.sz c hc).2.2⟩
theorem SpOk.below {W W' : World} {B sb : Nat} {s : SpZ} {a : Nat} {l : List Nat} (h : SpOk E nA nD FA FD a W B sb b0 o0 s l) (hb : Below W.heap.size W W') : SpOk E nA nD FA FD a W' B sb b0 o0 s l := ⟨h.sp.same hb, h.fb, h.fo, h.ix, h.fen, h.rew, h.rsv, h.adr⟩
theorem psZ_small (E : EvsZ) (nA nD : Nat → Nat) (FA FD : Nat → Nat → Int) (a c : Nat) (hc : c ≤ 1000) : (psZ E nA nD FA FD a (btw (sameH E a) a c)).length ≤ 10000 := by
  have h1 := psZ_len E nA nD FA FD a (btw (sameH E a) a c)
  have h3 : (btw (sameH E a) a c).length ≤ c := by
    unfold btw
    refine Nat.le_trans (List.length_filter_le _ _) ?_
    simp
  omega
noncomputable def holdsX (E : EvsZ) (n : Nat) (nA nD nC : Nat → Nat) (FA FD FC : Nat → Nat → Int) (a c rule : Int) : Bool := oneB E n a c && ordX E nA nD nC FA FD FC a.toNat c.toNat rule
noncomputable def ruleX (E : EvsZ) (n : Nat) (nA nD nC : Nat → Nat) (FA FD FC : Nat → Nat → Int) (a c : Int) : Int := leastR (holdsX E n nA nD nC FA FD FC a c) 13 1
theorem leastR_no {f : Int → Bool} (h : ∀ k, f k = false) : ∀ n k, leastR f n k = 0
  | 0, _ => rfl
  | n + 1, k => by unfold leastR; rw [h]; exact leastR_no h n (k + 1)
theorem oneB_split {a c : Int} (h : oneB E n a c = true) : ∃ i j : Nat, a = i ∧ c = j ∧ i < j ∧ j < n ∧ (E.e i).ht = (E.e j).ht := by
  unfold oneB at h
  simp only [Bool.and_eq_true, decide_eq_true_eq, beq_iff_eq] at h
  obtain ⟨h1, h2, h3, h4⟩ := h
  obtain ⟨i, rfl⟩ : ∃ i : Nat, a = (i : Int) := ⟨a.toNat, by omega⟩
  obtain ⟨j, rfl⟩ : ∃ j : Nat, c = (j : Int) := ⟨c.toNat, by omega⟩
  exact ⟨i, j, rfl, rfl, by omega, by omega, by simpa using h4⟩
set_option maxHeartbeats 4000000 in
set_option maxRecDepth 100000 in
theorem ppoRule_w (H : EvsX W0 b0 o0 n E nA nD nC FA FD FC) (cap : Nat) (a c : Int) (w : World) (hw : Below W0.heap.size W0 w) :
    Calls Try.prog 7 #[.slice (some ⟨b0, o0, none⟩) n cap, .int .i64 a, .int .i64 c] w fun x w' => x = .returned (.int .i64 (ruleX E n nA nD nC FA FD FC a c)) ∧ Below w.heap.size w w' := by
  have hL : EvsL w (.slice (some ⟨b0, o0, none⟩) n cap) n E := ⟨_, _, rfl, fun _ => ⟨b0, o0, rfl, fun i hi => H.ev w hw i hi⟩⟩
  have hn := H.nn
  have hO := hid (oneHart_w hL (by omega) a c)
  obtain ⟨r, hr⟩ : ∃ r, r = ruleX E n nA nD nC FA FD FC a c := ⟨_, rfl⟩
  rw [← hr]
  clear hL
  cases hone : oneB E n a c
  · have hr0 : r = 0 := by
      rw [hr]; unfold ruleX
      exact leastR_no (fun k => by unfold holdsX; rw [hone]; rfl) _ _
    subst hr0
    rw [hone] at hO
    clear hr hone
    go_enter Try.func7, Try.ntmps7
    go_wp2_with (go_at_call 18; refine hO.out.mono ?_; rintro x w1 ⟨rfl, hq⟩; have Hq := hid hq; clear hq)
    go_ret
    exact ⟨rfl, below_q Hq.out⟩
  · obtain ⟨i, j, rfl, rfl, hij, hj, hh⟩ := oneB_split hone
    have hr1 : r = leastR (ordX E nA nD nC FA FD FC i j) 13 1 := by
      rw [hr]; unfold ruleX
      congr 1
      funext k
      unfold holdsX
      rw [hone, Int.toNat_natCast, Int.toNat_natCast, Bool.true_and]
    rw [hone] at hO
    have Hr1 := hid hr1
    clear hr hr1 hone hh
    go_enter Try.func7, Try.ntmps7
    go_upto_region 3 with (go_at_call 18; refine hO.out.mono ?_; rintro x w1 ⟨rfl, hq⟩; have Hq := hid hq; clear hq)
    have hb1 : Below w.heap.size w w1.drew := (below_q Hq.out).trans ⟨rfl, rfl, rfl, Nat.le_refl _, fun _ _ => rfl⟩
    have hw1 : Below W0.heap.size W0 w1.drew := hw.trans (hb1.mono hw.size)
    refine region_takes (fun _ => True) [0, 1, 2, 4, 5, 6] 3 (by rfl) (by kernel_rfl) (by kernel_rfl) (by kernel_rfl) (fun c a d v w h => And.intro (put_nil h.1) h.2) trivial ?_
    iterate 6
      refine take_pure _ rfl (by rfl) (fun W hSW => by (go_simp; with_reducible rfl)) ?_
      simp only [Act.put, List.getElem_toArray, List.getElem_cons_succ, List.getElem_cons_zero, List.setIfInBounds_toArray, List.set_cons_zero, List.set_cons_succ]
    refine take_done ?_
    refine held_call (i := 3) _ (by kernel_rfl) rfl (by rfl) (by go_simp; try exact ⟨rfl, rfl⟩) ?_
    refine (spanOf_w H cap i j hij (by omega) w1.drew hw1).mono ?_
    rintro x w2 ⟨sb, s, rfl, hS, hB2⟩
    refine ⟨_, rfl, trivial, ?_⟩
    simp only [Act.put, List.getElem_toArray, List.getElem_cons_succ, List.getElem_cons_zero, List.setIfInBounds_toArray, List.set_cons_zero, List.set_cons_succ]
    have hw2 := hw1.trans (hB2.mono hw1.size)
    have hC : ∀ W, Below w2.heap.size w2 W → OrC W w1.drew.heap.size sb s (psZ E nA nD FA FD i (btw (sameH E i) i j)) (E.e i) (E.e j) (E.a i) (E.d i) (E.c i) (E.a j) (E.d j) (E.c j) b0 (o0 + j * 23) (nA j) (nD j) (nC j) (FA j) (FD j) (FC j) := fun W hW => H.orc (by omega) hj (hw2.trans (hW.mono hw2.size)) (hS.below hW)
    refine held_call (i := 7) _ (by kernel_rfl) rfl (by rfl) (by go_simp; try exact ⟨rfl, rfl⟩) ?_
    refine (rule_w (hC w2 (Below.refl _ _)) (psZ_small E nA nD FA FD i j (by omega)) hC).mono ?_
    rintro x w3 ⟨rfl, hB3⟩
    refine ⟨_, rfl, trivial, ?_⟩
    simp only [Act.put, List.getElem_toArray, List.getElem_cons_succ, List.getElem_cons_zero, List.setIfInBounds_toArray, List.set_cons_zero, List.set_cons_succ]
    have er : leastR (ordZ s (psZ E nA nD FA FD i (btw (sameH E i) i j)) (E.e i) (E.e j) (inF (FA j) (nA j) s.ix) (inF (FD j) (nD j) s.ix) (inF (FC j) (nC j) s.ix)) 13 1 = r := by
      rw [Hr1.out]
      congr 1
      funext k
      rw [hS.ix, hS.ord]; rfl
    rw [er]
    refine held_op (i := 8) (w' := w3) _ (by kernel_rfl) rfl (by rfl) (by first | with_reducible rfl | (go_simp; with_reducible rfl)) trivial ?_
    simp only [Act.put, List.getElem_toArray, List.getElem_cons_succ, List.getElem_cons_zero, List.setIfInBounds_toArray, List.set_cons_zero, List.set_cons_succ]
    refine wpAnyH_done (by kernel_rfl) ?_ _
    have HB := hid ((hb1.trans (hB2.mono hb1.size)).trans (hB3.mono (Nat.le_trans hb1.size hB2.size)))
    clear hC hS hB2 hB3 hw2 hb1 hw1 er
    go_wp2
    go_ret
    exact ⟨rfl, HB.out⟩
set_option maxHeartbeats 4000000 in
set_option maxRecDepth 100000 in
theorem ppoHolds_w (H : EvsX W0 b0 o0 n E nA nD nC FA FD FC) (cap : Nat) (rule a c : Int) (w : World) (hw : Below W0.heap.size W0 w) :
    Calls Try.prog 9 #[.slice (some ⟨b0, o0, none⟩) n cap, .int .i64 rule, .int .i64 a, .int .i64 c] w fun x w' => x = .returned (.bool (holdsX E n nA nD nC FA FD FC a c rule)) ∧ Below w.heap.size w w' := by
  have hn := H.nn
  have hL : ∀ W, Below w.heap.size w W → EvsL W (.slice (some ⟨b0, o0, none⟩) n cap) n E := fun W hW => ⟨_, _, rfl, fun _ => ⟨b0, o0, rfl, fun i hi => H.ev W (hw.trans (hW.mono hw.size)) i hi⟩⟩
  have hd : Below w.heap.size w w.drew := ⟨rfl, rfl, rfl, Nat.le_refl _, fun _ _ => rfl⟩
  have hO := oneHart_w (hL w.drew hd) (by omega) a c
  obtain ⟨r, hr⟩ : ∃ r, r = holdsX E n nA nD nC FA FD FC a c rule := ⟨_, rfl⟩
  rw [← hr]
  go_enter Try.func9, Try.ntmps9
  go_upto_region 1 with (fail)
  refine region_takes (fun _ => True) [0, 1, 2] 13 (by rfl) (by kernel_rfl) (by kernel_rfl) (by kernel_rfl) (fun c a d v w h => And.intro (put_nil h.1) h.2) trivial ?_
  iterate 3
    refine take_pure _ rfl (by rfl) (fun W hSW => by (go_simp; with_reducible rfl)) ?_
    simp only [Act.put, List.getElem_toArray, List.getElem_cons_succ, List.getElem_cons_zero, List.setIfInBounds_toArray, List.set_cons_zero, List.set_cons_succ]
  refine take_done ?_
  refine held_call (i := 3) _ (by kernel_rfl) rfl (by rfl) (by go_simp; try exact ⟨rfl, rfl⟩) ?_
  refine hO.mono ?_
  rintro x w1 ⟨rfl, hq⟩
  have hb1 : Below w.heap.size w w1 := hd.trans (below_q hq)
  have hw1 : Below W0.heap.size W0 w1 := hw.trans (hb1.mono hw.size)
  refine ⟨_, rfl, trivial, ?_⟩
  simp only [Act.put, List.getElem_toArray, List.getElem_cons_succ, List.getElem_cons_zero, List.setIfInBounds_toArray, List.set_cons_zero, List.set_cons_succ]
  cases hone : oneB E n a c
  · have hr0 : r = false := by rw [hr]; unfold holdsX; rw [hone]; rfl
    subst hr0
    clear hr hone hO
    refine held_takes (by kernel_rfl) (fun c a d v w h => And.intro (put_nil h.1) h.2) trivial (fuel := 0) [4, 5, 6, 7, 8, 9, 10, 11, 12, 13, 14, 15] _ _ (by kernel_rfl) ?_
    iterate 12
      first
      | refine take_off _ rfl (by rfl) ?_
      | refine take_pure _ rfl (by rfl) (fun W hSW => by (go_simp; try with_reducible rfl)) ?_
      simp only [Act.put, List.getElem_toArray, List.getElem_cons_succ, List.getElem_cons_zero, List.setIfInBounds_toArray, List.set_cons_zero, List.set_cons_succ]
    refine take_done ?_
    refine wpAnyH_done (by kernel_rfl) ?_ _
    have HB := hid hb1
    clear hb1 hw1 hq hL hd
    go_wp2
    go_ret
    exact ⟨rfl, HB.out⟩
  · obtain ⟨i, j, rfl, rfl, hij, hj, hh⟩ := oneB_split hone
    have hr1 : r = ordX E nA nD nC FA FD FC i j rule := by
      rw [hr]; unfold holdsX
      rw [hone, Int.toNat_natCast, Int.toNat_natCast, Bool.true_and]
    have Hr1 := hid hr1
    clear hr hone hh hO hr1
    refine held_takes (by kernel_rfl) (fun c a d v w h => And.intro (put_nil h.1) h.2) trivial (fuel := 4) [4, 5, 6, 7, 9, 10, 11, 12] _ _ (by kernel_rfl) ?_
    iterate 8
      refine take_pure _ rfl (by rfl) (fun W hSW => by (go_simp; try with_reducible rfl)) ?_
      simp only [Act.put, List.getElem_toArray, List.getElem_cons_succ, List.getElem_cons_zero, List.setIfInBounds_toArray, List.set_cons_zero, List.set_cons_succ]
    refine take_done ?_
    refine held_call (i := 8) _ (by kernel_rfl) rfl (by rfl) (by go_simp; try exact ⟨rfl, rfl⟩) ?_
    refine (spanOf_w H cap i j hij (by omega) w1 hw1).mono ?_
    rintro x w2 ⟨sb, s, rfl, hS, hB2⟩
    refine ⟨_, rfl, trivial, ?_⟩
    simp only [Act.put, List.getElem_toArray, List.getElem_cons_succ, List.getElem_cons_zero, List.setIfInBounds_toArray, List.set_cons_zero, List.set_cons_succ]
    have hw2 := hw1.trans (hB2.mono hw1.size)
    have hC : ∀ W, Below w2.heap.size w2 W → OrC W w1.heap.size sb s (psZ E nA nD FA FD i (btw (sameH E i) i j)) (E.e i) (E.e j) (E.a i) (E.d i) (E.c i) (E.a j) (E.d j) (E.c j) b0 (o0 + j * 23) (nA j) (nD j) (nC j) (FA j) (FD j) (FC j) := fun W hW => H.orc (by omega) hj (hw2.trans (hW.mono hw2.size)) (hS.below hW)
    refine held_call (i := 13) _ (by kernel_rfl) rfl (by rfl) (by go_simp; try exact ⟨rfl, rfl⟩) ?_
    refine (orders_w (hC w2 (Below.refl _ _)) (psZ_small E nA nD FA FD i j (by omega)) rule).mono ?_
    rintro x w3 ⟨rfl, hB3⟩
    refine ⟨_, rfl, trivial, ?_⟩
    simp only [Act.put, List.getElem_toArray, List.getElem_cons_succ, List.getElem_cons_zero, List.setIfInBounds_toArray, List.set_cons_zero, List.set_cons_succ]
    have er : ordZ s (psZ E nA nD FA FD i (btw (sameH E i) i j)) (E.e i) (E.e j) (inF (FA j) (nA j) s.ix) (inF (FD j) (nD j) s.ix) (inF (FC j) (nC j) s.ix) rule = r := by
      rw [Hr1.out, hS.ix, hS.ord]; rfl
    rw [er]
    refine held_takes (by kernel_rfl) (fun c a d v w h => And.intro (put_nil h.1) h.2) trivial (fuel := 0) [14, 15] _ _ (by kernel_rfl) ?_
    iterate 2
      refine take_pure _ rfl (by rfl) (fun W hSW => by (go_simp; try with_reducible rfl)) ?_
      simp only [Act.put, List.getElem_toArray, List.getElem_cons_succ, List.getElem_cons_zero, List.setIfInBounds_toArray, List.set_cons_zero, List.set_cons_succ]
    refine take_done ?_
    refine wpAnyH_done (by kernel_rfl) ?_ _
    have HB := hid ((hb1.trans (hB2.mono hb1.size)).trans (hB3.mono (Nat.le_trans hb1.size hB2.size)))
    clear hC hS hB2 hB3 hw2 hb1 hw1 er hq hL hd
    go_wp2
    go_ret
    exact ⟨rfl, HB.out⟩
end
end Go.Proofs.Ytchjjbcmbdmlgaa
namespace Go.Proofs.Ytchjjbcmbdmlgaa
open Go Go.RowKit
theorem held_allocs {P : Program} {ops : Array Oper} {Q : Exit → Act → World → Prop} {md : Region.Mode} {S : World → Prop} {n i j : Nat} {listed : Array Bool} {a : Act} {w : World} (oi oj : Oper) (di dj : Tmp) (cs : Array Value) (t : TypeId) (f : Nat → Value)
    (hf : ∀ k, k < cs.size → cs[k]? = some (f k))
    (hr : Region.ready md ops listed = [i, j]) (hr1 : Region.ready md ops (listed.setIfInBounds i true) = [j]) (hr2 : Region.ready md ops (listed.setIfInBounds j true) = [i]) (hij : i ≠ j)
    (hi : ops[i]? = some oi) (hj : ops[j]? = some oj) (wi : oi.guard = none) (wj : oj.guard = none) (d1 : oi.dst = some di) (d2 : oj.dst = some dj) (nd : di ≠ dj)
    (vi : ∀ W : World, (execOp a.eval oi).run P W = .ok (.value (.pointer (some ⟨W.heap.size, 0, none⟩))) (W.alloc (.cells cs t))) (vi' : ∀ v W, (execOp (a.put (some dj) v).eval oi).run P W = .ok (.value (.pointer (some ⟨W.heap.size, 0, none⟩))) (W.alloc (.cells cs t)))
    (vj : ∀ W : World, (execOp a.eval oj).run P W = .ok (.value (.pointer (some ⟨W.heap.size, 0, none⟩))) (W.alloc (.cells cs t))) (vj' : ∀ v W, (execOp (a.put (some di) v).eval oj).run P W = .ok (.value (.pointer (some ⟨W.heap.size, 0, none⟩))) (W.alloc (.cells cs t)))
    (hS : ∀ W', Below w.heap.size w W' → S W')
    (H : ∀ bi bj W, Hb W bi t cs.size f → Hb W bj t cs.size f → bi ≠ bj → w.heap.size ≤ bi → w.heap.size ≤ bj → Below w.heap.size w W → wpAnyH P md ops Q S n ((listed.setIfInBounds i true).setIfInBounds j true) ((a.put (some di) (.pointer (some ⟨bi, 0, none⟩))).put (some dj) (.pointer (some ⟨bj, 0, none⟩))) W) :
    wpAnyH P md ops Q S (n + 2) listed a w := by
  have hw : ∀ (o : Oper) (a : Act), o.guard = none → Region.wanted o (yielded ops a.tmps) = true := fun o a hg => by simp [Region.wanted, hg]
  have h1 := Hb.new w cs t hf
  have h2 := Hb.new (w.alloc (.cells cs t)) cs t hf
  rw [World.size_alloc] at h2
  have h1' := h1.alloc (.cells cs t)
  have b1 : Below w.heap.size w (w.alloc (.cells cs t)) := (Below.refl _ w).alloc (Nat.le_refl _) _
  have b2 : Below w.heap.size w ((w.alloc (.cells cs t)).alloc (.cells cs t)) := b1.alloc (by simp) _
  refine held_fork oi oj hr hi hj (hw _ _ wi) (hw _ _ wj) ?_ ?_
  · refine wp_val (vi w) ⟨hS _ b1, ?_⟩
    rw [d1]
    refine held_op oj hr1 hj (hw _ _ wj) (vj' _ _) (hS _ b2) ?_
    rw [d2, World.size_alloc]
    exact H _ _ _ h1' h2 (by omega) (Nat.le_refl _) (by omega) b2
  · refine wp_val (vj w) ⟨hS _ b1, ?_⟩
    rw [d2]
    refine held_op oi hr2 hi (hw _ _ wi) (vi' _ _) (hS _ b2) ?_
    rw [d1, World.size_alloc, Array.setIfInBounds_comm _ _ hij.symm, Act.put_put nd.symm]
    exact H _ _ _ h2 h1' (by omega) (by omega) (Nat.le_refl _) b2
end Go.Proofs.Ytchjjbcmbdmlgaa
namespace Go.Proofs.Ytchjjbcmbdmlgaa
open Go Go.RowKit
theorem load_evA {W : World} {b o : Nat} {e : EvZ} {va vd vc : Value} (h : EvA W b o e va vd vc) : (loadVar 45 ⟨b, o, none⟩).run Try.prog W = .ok (.agg (evAr e va vd vc)) W :=
  run_loadVar_mid W b o _ (evL e va vd vc) _ (fun j v hj => by
    have hl : j < 23 := (List.getElem?_eq_some_iff.1 hj).1
    rw [h j hl, ← hj]
    unfold evF
    rw [List.getD_eq_getElem?_getD, hj]; rfl) Try.underlying45 rfl evInfoS
theorem arr_get16 (a : Array Value) : ∀ k, k < a.size → a[k]? = some (arrF a k) := fun k hk => by simp [arrF, Array.getD, hk]
theorem Hb.less {w : World} {b N N' : Nat} {t : TypeId} {f : Nat → Value} (h : Hb w b t N f) (hN : N' ≤ N) : Hb w b t N' f := by
  obtain ⟨cs, h1, h2, h3⟩ := h
  exact ⟨cs, h1, Nat.le_trans hN h2, fun i hi => h3 i (by omega)⟩
section
variable {ops : Array Oper} {rest : List Oper} {op : Oper} {a : Act} {w : World} {Q : Exit → Act → World → Prop}
theorem wp_ld_g (hw : Region.wanted op (yielded ops a.tmps) = true) (ty : TypeId) (x : Operand) (ho : op.op = .load ty x) {b o : Nat} {v : Value} (hx : a.eval x = .pointer (some ⟨b, o, none⟩)) (hr : (loadVar ty ⟨b, o, none⟩).run Try.prog w = .ok v w)
    (h : wpList Try.prog ops Q rest (a.put op.dst v) w) : wpList Try.prog ops Q (op :: rest) a w :=
  wpList_step fun _ hK => by
    rw [if_pos hw]
    unfold Oper.wp execOp
    simp only [ho, hx, Instr.loadAt, Instr.sureAddr, Sem.run_bind, Sem.run_pure, Result.andThen_ok, hr]
    exact hK _ _ h
end
end Go.Proofs.Ytchjjbcmbdmlgaa
