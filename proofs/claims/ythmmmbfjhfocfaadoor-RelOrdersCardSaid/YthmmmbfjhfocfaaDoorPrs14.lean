/- The iterator over a relation's pairs. -/
import Derived.Test.YthmmmbfjhfocfaaDoorAll14
import Derived.Stop.RegionWithIn
namespace Go.Proofs.YthmmmbfjhfocfaaDoor
open Go Go.RowKit
set_option linter.unusedVariables false
set_option linter.unusedSimpArgs false

theorem RelC.kc {ok : Nat → TypeId → Prop} {w w' : World} {b0 b1 n : Nat} {m : Nat → Nat → Bool} (h : RelC w b0 b1 n m) (hk : Kc ok w w') (h0 : ¬ ok b0 57) (h1 : ¬ ok b1 55) : RelC w' b0 b1 n m := ⟨h.hd.kc hk h0, h.rows.kc hk h1, h.ne, h.n512, h.inn⟩
/-- A relation with its blocks, or nil. -/
def RelP (w : World) (p : Option Addr) (b0 b1 n : Nat) (m : Nat → Nat → Bool) : Prop :=
  (p = none ∧ n = 0 ∧ m = noP) ∨ (p = some ⟨b0, 0, none⟩ ∧ RelC w b0 b1 n m)
theorem RelP.v {w : World} {p : Option Addr} {b0 b1 n : Nat} {m : Nat → Nat → Bool} (h : RelP w p b0 b1 n m) : RelV w (.pointer p) n m := by
  rcases h with ⟨rfl, h⟩ | ⟨rfl, h⟩
  · exact .inl ⟨rfl, h⟩
  · exact h.v
theorem RelP.kc {ok : Nat → TypeId → Prop} {w w' : World} {p : Option Addr} {b0 b1 n : Nat} {m : Nat → Nat → Bool} (h : RelP w p b0 b1 n m) (hk : Kc ok w w') (hn : p ≠ none → ¬ ok b0 57 ∧ ¬ ok b1 55) : RelP w' p b0 b1 n m := by
  rcases h with h | ⟨rfl, h⟩
  · exact .inl h
  · exact .inr ⟨rfl, h.kc hk (hn (by simp)).1 (hn (by simp)).2⟩
theorem RelP.below {w w' : World} {p : Option Addr} {b0 b1 n : Nat} {m : Nat → Nat → Bool} (h : RelP w p b0 b1 n m) (hb : Below w.heap.size w w') : RelP w' p b0 b1 n m := by
  rcases h with h | ⟨rfl, h⟩
  · exact .inl h
  · exact .inr ⟨rfl, h.below hb⟩
theorem RelP.nz {w : World} {p : Option Addr} {b0 b1 n : Nat} {m : Nat → Nat → Bool} (h : RelP w p b0 b1 n m) (hn : 0 < n) : p = some ⟨b0, 0, none⟩ ∧ RelC w b0 b1 n m := by
  rcases h with ⟨_, h, _⟩ | h
  · omega
  · exact h
/-- How many pairs have a first component below a; all pairs, rising. -/
def off (m : Nat → Nat → Bool) : Nat → Nat
  | 0 => 0
  | a + 1 => off m a + (els (m a)).length
theorem off_succ (m : Nat → Nat → Bool) (a : Nat) : off m (a + 1) = off m a + (els (m a)).length := rfl
def prs (n : Nat) (m : Nat → Nat → Bool) : List (Nat × Nat) := (List.range n).flatMap fun a => (els (m a)).map fun b => (a, b)
theorem prs_succ (n : Nat) (m : Nat → Nat → Bool) : prs (n + 1) m = prs n m ++ (els (m n)).map fun b => (n, b) := by
  unfold prs
  rw [List.range_succ, List.flatMap_append]; simp
theorem prs_len (m : Nat → Nat → Bool) : ∀ n, (prs n m).length = off m n
  | 0 => rfl
  | n + 1 => by rw [prs_succ, List.length_append, prs_len m n, off_succ, List.length_map]
theorem prs_at (m : Nat → Nat → Bool) {a k x : Nat} (hx : (els (m a))[k]? = some x) : ∀ n, a < n → (prs n m)[off m a + k]? = some (a, x)
  | 0, h => by omega
  | n + 1, h => by
    have hk := (List.getElem?_eq_some_iff.1 hx).1
    rw [prs_succ]
    by_cases ha : a = n
    · subst ha
      rw [List.getElem?_append_right (by rw [prs_len]; omega), prs_len, Nat.add_sub_cancel_left, List.getElem?_map, hx]; rfl
    · have ih := prs_at m hx n (by omega)
      rw [List.getElem?_append_left (List.getElem?_eq_some_iff.1 ih).1]
      exact ih
theorem els_mem {f : Nat → Bool} {k x : Nat} (h : (els f)[k]? = some x) : f x = true ∧ x < 512 := by
  have := List.mem_of_getElem? h
  unfold els at this
  rw [List.mem_filter, List.mem_range] at this
  exact ⟨this.2, this.1⟩
theorem pairs_make (p : Option Addr) (w : World) (F : Fence) (m : Nat) (hF : F.fn 32) (hro : F.round = none) : CallsIn F m Tryd.prog 32 #[.pointer p] w fun e w' => e = .returned (.func (.func 42) #[] #[.pointer (some ⟨w.heap.size, 0, none⟩)]) ∧ w' = w.alloc (.cells #[.pointer p] 25) := by
  refine callsIn_of_wp Tryd.func32 rfl hF ?_ hro
  simp only [Tryd.ntmps32, List.size_toArray, List.length_cons, List.length_nil, Nat.reduceAdd, Nat.reduceSub, Array.replicate_succ, Array.replicate_zero, List.push_toArray, List.append_toArray, List.nil_append, List.cons_append]
  gi_wp2
  go_ret
  exact ⟨rfl, rfl⟩
theorem one_at (v : Value) : ∀ i, i < #[v].size → #[v][i]? = some ((fun _ => v) i : Value) := fun i hi => by
  have hi : i < 1 := hi
  have : i = 0 := by omega
  subst this; rfl
/-- Between two rounds of the iterator over pairs. -/
structure PI (J : Nat → World → Prop) (W : World) (l Bx : Nat) (p : Option Addr) (b0 b1 n : Nat) (m : Nat → Nat → Bool) (Ds : List Nat) (k : Nat) (w : World) : Prop where
  j : J k w
  y : Hb w W.heap.size 34 1 (fun _ => .func (.yield l) #[] #[])
  x : Hb w Bx 25 1 (fun _ => .pointer p)
  r : RelP w p b0 b1 n m
  g : TzOk w
  size : W.heap.size < w.heap.size
  nd : Ds.Nodup
  ds : ∀ D, D ∈ Ds → W.heap.size < D ∧ w.heap[D]? = some (.deferred (some []))
/-- Between two rounds of the inner loop. -/
structure PJ (J : Nat → World → Prop) (Y l A j Bx b0 b1 n : Nat) (m : Nat → Nat → Bool) (Ds : List Nat) (k : Nat) (w : World) : Prop where
  jj : J k w
  y : Hb w Y 34 1 (fun _ => .func (.yield l) #[] #[])
  a : Hb w A 3 1 (fun _ => .int .i64 j)
  x : Hb w Bx 25 1 (fun _ => .pointer (some ⟨b0, 0, none⟩))
  r : RelC w b0 b1 n m
  g : TzOk w
  ds : ∀ D, D ∈ Ds → w.heap[D]? = some (.deferred (some []))
theorem own_tz {B : Nat} {W W' : World} {row : Option Nat} (h : TzOk W) (hg : W.grownBy W' row) (hr : ∀ r, row = some r → B ≤ r ∧ ∃ o : Obj, W.heap[r]? = some o ∧ o.isCells = false) : TzOk W' := fun i v hv => cell_kept (h i v hv) hg fun r e => (hr r e).2
theorem own_relC {B : Nat} {W W' : World} {row : Option Nat} {b0 b1 n : Nat} {m : Nat → Nat → Bool} (h : RelC W b0 b1 n m) (hg : W.grownBy W' row) (hr : ∀ r, row = some r → B ≤ r ∧ ∃ o : Obj, W.heap[r]? = some o ∧ o.isCells = false) : RelC W' b0 b1 n m :=
  ⟨ownFrom_hb B _ _ _ _ () W W' row h.hd hg hr, ownFrom_hb B _ _ _ _ () W W' row h.rows hg hr, h.ne, h.n512, h.inn⟩
theorem own_relP {B : Nat} {W W' : World} {row : Option Nat} {p : Option Addr} {b0 b1 n : Nat} {m : Nat → Nat → Bool} (h : RelP W p b0 b1 n m) (hg : W.grownBy W' row) (hr : ∀ r, row = some r → B ≤ r ∧ ∃ o : Obj, W.heap[r]? = some o ∧ o.isCells = false) : RelP W' p b0 b1 n m := by
  rcases h with h | ⟨rfl, h⟩
  · exact .inl h
  · exact .inr ⟨rfl, own_relC h hg hr⟩
theorem ownFrom_pj {B : Nat} {J : Nat → World → Prop} (hJ : OwnFrom B J) {Y l A j Bx b0 b1 n : Nat} {m : Nat → Nat → Bool} {Ds : List Nat} (hD : ∀ D, D ∈ Ds → D < B) : OwnFrom B (fun k W => PJ J Y l A j Bx b0 b1 n m Ds k W) := fun s W W' row hs hg hr =>
  ⟨hJ s W W' row hs.jj hg hr, ownFrom_hb B _ _ _ _ () W W' row hs.y hg hr, ownFrom_hb B _ _ _ _ () W W' row hs.a hg hr, ownFrom_hb B _ _ _ _ () W W' row hs.x hg hr, own_relC hs.r hg hr, own_tz hs.g hg hr, fun D h => ownFrom_obj (hD D h) _ () W W' row (hs.ds D h) hg hr⟩
/-- Element number k. -/
def eAt (f : Nat → Bool) (k : Nat) : Nat := ((els f)[k]?).getD 0
theorem eAt_of {f : Nat → Bool} {k e : Nat} (h : (els f)[k]? = some e) : eAt f k = e := by unfold eAt; rw [h]; rfl
set_option maxRecDepth 100000 in
set_option maxHeartbeats 2000000 in
theorem pairs1_tells (p : Option Addr) (b0 b1 n : Nat) (m : Nat → Nat → Bool) (ok : Nat → TypeId → Prop) (Bx : Nat) (w : World) (h : RelP w p b0 b1 n m) (hx : Hb w Bx 25 1 (fun _ => .pointer p)) (hG : TzOk w)
    (k1 : ¬ ok Bx 25) (k2 : p ≠ none → ¬ ok b0 57 ∧ ¬ ok b1 55) (k3 : ∀ t, ¬ ok 0 t) (k4 : ∀ k, w.heap.size ≤ k → ¬ ok k 34 ∧ ¬ ok k 3 ∧ ¬ ok k 66) :
    Tells false Tryd.prog 42 #[.pointer (some ⟨Bx, 0, none⟩)] ((prs n m).map fun (x : Nat × Nat) => #[.int .i64 x.1, .int .i64 x.2]) ok w := fun l J Jx W hW hJ hJx hY h0 mm => by
  have hr0 := h.kc hW k2
  have hx0 := hx.kc hW k1
  have hg0 := hG.kc hW k3
  have hsz := hW.size
  have HY := hid hY
  clear hY
  refine callsIn_of_wp_marks Tryd.func42 rfl trivial ?_ rfl
  simp only [Tryd.ntmps42, List.size_toArray, List.length_cons, List.length_nil, Nat.reduceAdd, Nat.reduceSub, Array.replicate_succ, Array.replicate_zero, List.push_toArray, List.append_toArray, List.nil_append, List.cons_append]
  have c0 := (hx0.alloc (.cells #[.func (.yield l) #[] #[]] 34)).cell (i := 0) (by omega)
  have hr1 : RelP (W.alloc (.cells #[.func (.yield l) #[] #[]] 34)) p b0 b1 n m := hr0.kc ((Kc.refl ok W).alloc _) k2
  have HL := hid (len_ret hr1.v)
  gi_wp2_with ((refine ⟨trivial, (fun h => by cases h), ?_⟩; refine (callsIn_wide.2 HL.out).mono ?_; rintro e w3 ⟨rfl, rfl⟩; refine Hid.out ?_))
  refine hid ?_
  gi_wp2
  refine wpIn_loop (fun a' w' => ∃ (j : Nat) (Ds : List Nat) (u3 u4 u8 u9 u10 u11 u12 u13 u14 u15 u16 u17 u18 u19 u20 u21 u22 u23 : Value), j ≤ n ∧ PI J W l Bx p b0 b1 n m Ds (off m j) w' ∧ a' = { tmps := #[.func (.yield l) #[] #[], .pointer (some ⟨Bx, 0, none⟩), .pointer (some ⟨W.heap.size, 0, none⟩), u3, u4, .pointer p, .int .i64 n, .int .i64 j, u8, u9, u10, u11, u12, u13, u14, u15, u16, u17, u18, u19, u20, u21, u22, u23], defers := marks Ds }) (fun a' _ => n - (intOf (a'.tmps.getD 7 undef)).toNat) ?h0 ?round
  case h0 =>
    refine ⟨0, [], _, _, _, _, _, _, _, _, _, _, _, _, _, _, _, _, _, _, Nat.zero_le _, ⟨hJ.alloc _ h0, Hb.new _ _ _ (one_at _), hx0.alloc _, hr1, hg0.kc ((Kc.refl ok W).alloc _) k3, by simp, List.nodup_nil, fun D h => by cases h⟩, rfl⟩
  case round =>
    rintro a' w' ⟨j, Ds, u3, u4, u8, u9, u10, u11, u12, u13, u14, u15, u16, u17, u18, u19, u20, u21, u22, u23, hj, hP, rfl⟩
    by_cases hlt : j < n
    · obtain ⟨rfl, hc⟩ := hP.r.nz (by omega)
      have e1 := hP.x.cell (i := 0) (by omega)
      have e2 := (hc.hd.alloc (.cells #[.int .i64 j] 3)).cell (i := 8) (by omega)
      have e3 := (hP.x.alloc (.cells #[.int .i64 j] 3)).cell (i := 0) (by omega)
      have hK := Kc.alloc (Kc.refl ok w') (.cells #[.int .i64 j] 3)
      have hA2 := Hb.new w' #[.int .i64 j] 3 (one_at (.int .i64 j))
      have hsw := hP.size
      obtain ⟨k5, k6, k7⟩ := k4 w'.heap.size (by omega)
      have x2 := hP.x.kc hK k1
      have y2 := hP.y.alloc (.cells #[.int .i64 j] 3)
      have r2 := hc.kc hK (k2 (by simp)).1 (k2 (by simp)).2
      have g2 := hP.g.kc hK k3
      have j2 := hJ.alloc (.cells #[.int .i64 j] 3) hP.j
      have d2 : ∀ D, D ∈ Ds → W.heap.size < D ∧ (w'.alloc (.cells #[.int .i64 j] 3)).heap[D]? = some (.deferred (some [])) := fun D hD => ⟨(hP.ds D hD).1, hK.objs D _ (hP.ds D hD).2 rfl⟩
      have nd := hP.nd
      have s2 : (w'.alloc (.cells #[.int .i64 j] 3)).heap.size = w'.heap.size + 1 := by simp
      have HM := hid (fun w => all_make (some ⟨b1, j * 8, none⟩) w Fence.wide 0 trivial rfl)
      clear e2 e3 hK hc
      gi_wp2
      generalize w'.alloc (.cells #[.int .i64 j] 3) = w2 at hA2 x2 y2 r2 g2 j2 d2 s2 ⊢
      have hP0 := hid hP
      clear hP
      have c1 := x2.cell (i := 0) (by omega)
      have c2 := r2.rcell
      have c3 := hA2.cell (i := 0) (by simp)
      refine wpIn_mono (Q := AtE { tmps := #[.func (.yield l) #[] #[], .pointer (some ⟨Bx, 0, none⟩), .pointer (some ⟨W.heap.size, 0, none⟩), .pointer (some ⟨w'.heap.size, 0, none⟩), u4, .pointer (some ⟨b0, 0, none⟩), .int .i64 n, .int .i64 j, .bool true, .int .i64 j, .pointer (some ⟨b0, 0, none⟩), .pointer (some ⟨b0, 0, none⟩), .pointer (some ⟨b0, 8, none⟩), .slice (some ⟨b1, 0, none⟩) n n, .int .i64 j, .pointer (some ⟨b1, j * 8, none⟩), .func (.func 43) #[] #[.pointer (some ⟨w'.heap.size + 1, 0, none⟩)], u17, u18, u19, u20, u21, u22, u23], defers := marks Ds } (w2.alloc (.cells #[.pointer (some ⟨b1, j * 8, none⟩)] 66)).drew) ?reg ?cont
      case reg =>
        first | gi_region_with (refine ⟨trivial, (fun h => by cases h), ?_⟩; refine (callsIn_wide.2 (callsIn_wide.1 (HM.out _))).mono ?_; rintro e w3 ⟨rfl, rfl⟩) | fail
        all_goals exact ⟨rfl, by first | rfl | (congr 1; rw [s2]), rfl⟩
      case cont =>
        rintro _ _ _ ⟨rfl, rfl, rfl⟩
        have hsm : Kc ok w2 ((w2.alloc (.cells #[.pointer (some ⟨b1, j * 8, none⟩)] 66)).drew) := ((Kc.refl ok w2).alloc _).drew
        have B3 : Hb ((w2.alloc (.cells #[.pointer (some ⟨b1, j * 8, none⟩)] 66)).drew) (w'.heap.size + 1) 66 1 (fun _ => .pointer (some ⟨b1, j * 8, none⟩)) := by rw [← s2]; exact Hb.new w2 #[.pointer (some ⟨b1, j * 8, none⟩)] 66 (one_at _)
        have A3 : Hb ((w2.alloc (.cells #[.pointer (some ⟨b1, j * 8, none⟩)] 66)).drew) w'.heap.size 3 1 (fun _ => .int .i64 j) := hA2.alloc (.cells #[.pointer (some ⟨b1, j * 8, none⟩)] 66)
        have x3 : Hb ((w2.alloc (.cells #[.pointer (some ⟨b1, j * 8, none⟩)] 66)).drew) Bx 25 1 (fun _ => .pointer (some ⟨b0, 0, none⟩)) := x2.alloc (.cells #[.pointer (some ⟨b1, j * 8, none⟩)] 66)
        have y3 : Hb ((w2.alloc (.cells #[.pointer (some ⟨b1, j * 8, none⟩)] 66)).drew) W.heap.size 34 1 (fun _ => .func (.yield l) #[] #[]) := y2.alloc (.cells #[.pointer (some ⟨b1, j * 8, none⟩)] 66)
        have r3 := r2.kc hsm (k2 (by simp)).1 (k2 (by simp)).2
        have g3 := g2.kc hsm k3
        have j3 : J (off m j) ((w2.alloc (.cells #[.pointer (some ⟨b1, j * 8, none⟩)] 66)).drew) := ownFrom_drew hJ (hJ.alloc _ j2)
        have d3 : ∀ D, D ∈ Ds → W.heap.size < D ∧ ((w2.alloc (.cells #[.pointer (some ⟨b1, j * 8, none⟩)] 66)).drew).heap[D]? = some (.deferred (some [])) := fun D hD => ⟨(d2 D hD).1, hsm.objs D _ (d2 D hD).2 rfl⟩
        have s3 : ((w2.alloc (.cells #[.pointer (some ⟨b1, j * 8, none⟩)] 66)).drew).heap.size = w'.heap.size + 2 := by show (w2.alloc _).heap.size = _; rw [World.size_alloc, s2]
        have hk7 := (k4 (w'.heap.size + 1) (by omega)).2.2
        obtain ⟨hk0, hk1⟩ := k2 (by simp)
        have HP0 := hid hP0
        clear hsm hA2 x2 y2 r2 g2 j2 d2 s2 c1 c2 c3 hP0 HM e1
        gi_wp2
        generalize ((w2.alloc (.cells #[.pointer (some ⟨b1, j * 8, none⟩)] 66)).drew) = w3 at B3 A3 x3 y3 r3 g3 j3 d3 s3 ⊢
        refine range_outer (all1_tells false (m j) (rowsV m) ok (w'.heap.size + 1) b1 (j * 8) (n * 8) 55 w3 B3 r3.rows (r3.row hlt) (by omega) g3 hk7 hk1 k3) rfl (enters_of Tryd.func43 (by kernel_rfl) rfl)
          (fun k x hk => by obtain ⟨e, he, rfl⟩ := List.mem_map.1 (List.mem_of_getElem? hk); rfl)
          (fun k W' => PJ J W.heap.size l w'.heap.size j Bx b0 b1 n m Ds (off m j + k) W') (fun _ _ _ => False) (ownFrom_at (ownFrom_pj (ownFrom_up hJ (by omega)) (fun D hD => by have := (d3 D hD).2; have := (Array.getElem?_eq_some_iff.1 this).1; omega)) _) (fun c s A A' row hs _ _ => hs)
          ⟨j3, y3, A3, x3, r3, g3, fun D hD => (d3 D hD).2⟩ (fun k => { tmps := #[.func (.yield l) #[] #[], .pointer (some ⟨Bx, 0, none⟩), .pointer (some ⟨W.heap.size, 0, none⟩), .pointer (some ⟨w'.heap.size, 0, none⟩), .int .i64 (eAt (m j) k : Nat), .pointer (some ⟨b0, 0, none⟩), .int .i64 n, .int .i64 j, .bool true, .int .i64 j, .pointer (some ⟨b0, 0, none⟩), .pointer (some ⟨b0, 0, none⟩), .pointer (some ⟨b0, 8, none⟩), .slice (some ⟨b1, 0, none⟩) n n, .int .i64 j, .pointer (some ⟨b1, j * 8, none⟩), .func (.func 43) #[] #[.pointer (some ⟨w'.heap.size + 1, 0, none⟩)], .int .i64 (eAt (m j) k : Nat), u18, u19, u20, u21, u22, u23], defers := [] }) ?assign ?body ?done ?stop
        case assign =>
          intro l' k x m' W' K hk hK
          obtain ⟨e, he, rfl⟩ : ∃ e : Nat, (els (m j))[k]? = some e ∧ x = #[.int .i64 e] := by
            rw [List.getElem?_map] at hk
            obtain ⟨e, he, h2⟩ := Option.map_eq_some_iff.1 hk
            exact ⟨e, he, h2.symm⟩
          rw [eAt_of he] at hK
          have hsem := @Oper.semAt_some
          gi_wp2
          exact hK
        case body =>
          intro l' k x m' W' hk hl hr hi
          obtain ⟨e, he⟩ : ∃ e : Nat, (els (m j))[k]? = some e := by
            rw [List.getElem?_map] at hk
            obtain ⟨e, he, h2⟩ := Option.map_eq_some_iff.1 hk
            exact ⟨e, he⟩
          rw [eAt_of he]
          obtain ⟨fn, tmps, assign, body, hy, hR⟩ := HY.out (off m j + k) #[.int .i64 (j : Nat), .int .i64 (e : Nat)] W' (m' - 1) (by rw [List.getElem?_map, prs_at m he n hlt]; rfl) hi.jj
          have c1 := hi.y.cell (i := 0) (by omega)
          have c2 := hi.a.cell (i := 0) (by omega)
          have hi0 := hid hi
          clear hi
          have hsem := @Oper.semAt_some
          gi_wp2
          refine ⟨(fun h => by cases h), ?_⟩
          refine RoundIn.mono (F := Fence.wide.inRound l') hR ?_
          rintro e5 W5 (⟨rfl, hJ5, hk5⟩ | ⟨h, _⟩)
          · gi_wp2
            have hi := hi0.out
            exact ⟨hk5, hJ5, hi.y.kc hk5 (k4 _ hsz).1, hi.a.kc hk5 k6, hi.x.kc hk5 k1, hi.r.kc hk5 hk0 hk1, hi.g.kc hk5 k3, fun D hD => hk5.objs D _ (hi.ds D hD) rfl⟩
          · cases h
        case done =>
          intro D W' hD hi hd
          rw [List.length_map] at hi
          have hn5 := hi.r.n512
          gi_wp2
          rw [show (j : Int) + 1 = ((j + 1 : Nat) : Int) by omega]
          refine ⟨⟨j + 1, D :: Ds, _, _, _, _, _, _, _, _, _, _, _, _, _, _, _, _, _, _, by omega, ⟨hi.jj, hi.y, hi.x, .inr ⟨rfl, hi.r⟩, hi.g, by have := hi.y.lt; omega, List.nodup_cons.2 ⟨fun h => ?_, nd⟩, fun D' h => ?_⟩, rfl⟩, ?_⟩
          · have := (d3 D h).2; have := (Array.getElem?_eq_some_iff.1 this).1; omega
          · rcases List.mem_cons.1 h with rfl | h
            · exact ⟨by omega, hd⟩
            · exact ⟨(d3 D' h).1, hi.ds D' h⟩
          · simp [intOf]; omega
        case stop =>
          intro D c k W' _ _ h _
          exact h.elim
    · obtain rfl : j = n := by omega
      gi_wp2
      refine leave_marks (.tuple #[]) (fun W' => J (off m j) W') (fun W' _ => results_none rfl _ _ _) (fun W' h => ⟨⟨_, rfl⟩, .inl (by rw [List.length_map, prs_len]; exact h)⟩) Ds _ hP.nd (fun D hD => (hP.ds D hD).2) (fun D W' hD hd h => hJ.putObj _ h (Nat.le_of_lt (hP.ds D hD).1) hd rfl) hP.j
end Go.Proofs.YthmmmbfjhfocfaaDoor
