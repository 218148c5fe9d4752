/- least of package rel. -/
import Derived.Test.YthmmmbfjhfocfaaDoorPrs14
import Derived.Test.YthmmmbfjhfocfaaDoorSimOk
namespace Go.Proofs.YthmmmbfjhfocfaaDoor
open Go Go.RowKit
set_option linter.unusedVariables false
set_option linter.unusedSimpArgs false

/-- The least element. -/
def leZ (f : Nat → Bool) : Int × Bool := match els f with
  | [] => (0, false)
  | e :: _ => (e, true)
theorem load_int {w : World} {b : Nat} {x : Int} (h : w.cell? ⟨b, 0, none⟩ = some (.int .i64 x)) : (loadVar 3 ⟨b, 0, none⟩).run Tryd.prog w = .ok (.int .i64 x) w :=
  Sim.run_loadB (cs := [.int .i64 x]) (off := 0) (by kernel_rfl) w (fun i u hu => by
    match i, hu with
    | 0, hu => simp at hu; subst hu; exact h
    | i + 1, hu => simp at hu)
theorem load_bool {w : World} {b : Nat} {x : Bool} (h : w.cell? ⟨b, 0, none⟩ = some (.bool x)) : (loadVar 4 ⟨b, 0, none⟩).run Tryd.prog w = .ok (.bool x) w :=
  Sim.run_loadB (cs := [.bool x]) (off := 0) (by kernel_rfl) w (fun i u hu => by
    match i, hu with
    | 0, hu => simp at hu; subst hu; exact h
    | i + 1, hu => simp at hu)
theorem results_cells2 {fn : Func} (h : fn.results = #[.cell 2 3, .cell 3 4]) {tmps : Array Value} {b c : Nat} (h2 : tmps.getD 2 undef = .pointer (some ⟨b, 0, none⟩)) (h3 : tmps.getD 3 undef = .pointer (some ⟨c, 0, none⟩)) {w : World} {x : Int} {y : Bool} (hb : w.cell? ⟨b, 0, none⟩ = some (.int .i64 x)) (hc : w.cell? ⟨c, 0, none⟩ = some (.bool y)) : (results fn tmps).run Tryd.prog w = .ok (.tuple #[.int .i64 x, .bool y]) w := by
  have l1 := load_int hb
  have l2 := load_bool hc
  unfold results
  rw [h]
  rw [Array.getD_eq_getD_getElem?] at h2 h3
  simp [h2, h3, l1, l2, Sem.run_bind, asAddr]
theorem upd_one (v u : Value) : ∀ i, i < 1 → updF (fun _ => v) 0 u i = (fun _ => u) i := fun i hi => by
  have : i = 0 := by omega
  subst this; rfl
set_option maxRecDepth 100000 in
set_option maxHeartbeats 2000000 in
theorem least_ret {w : World} {b N o : Nat} {t : TypeId} {F : Nat → Value} {f : Nat → Bool} (h : Hb w b t N F) (hs : SetIn F o f) (ho : o + 8 ≤ N) (hG : TzOk w) :
    Calls Tryd.prog 39 #[.pointer (some ⟨b, o, none⟩)] w fun e w' => e = .returned (.tuple #[.int .i64 (leZ f).1, .bool (leZ f).2]) ∧ Below w.heap.size w w' := by
  have HM := hid (fun w => callsIn_wide.1 (all_make (some ⟨b, o, none⟩) w Fence.wide 0 trivial rfl))
  refine (callsIn_wide (n := 9)).1 ?_
  refine callsIn_of_wp_marks Tryd.func39 rfl trivial ?_ rfl
  simp only [Tryd.ntmps39, List.size_toArray, List.length_cons, List.length_nil, Nat.reduceAdd, Nat.reduceSub, Array.replicate_succ, Array.replicate_zero, List.push_toArray, List.append_toArray, List.nil_append, List.cons_append]
  gi_wp2_with (refine ⟨trivial, ?_⟩; refine (callsIn_wide.2 (HM.out _)).mono ?_; rintro e' w3 ⟨rfl, rfl⟩)
  have hB1 : Below w.heap.size w (((w.alloc (.cells #[.int .i64 0] 3)).alloc (.cells #[.bool false] 4)).alloc (.cells #[.pointer (some ⟨b, o, none⟩)] 66)) := (((Below.refl _ w).alloc (Nat.le_refl _) _).alloc (by simp) _).alloc (by simp; omega) _
  have x2 : Hb (((w.alloc (.cells #[.int .i64 0] 3)).alloc (.cells #[.bool false] 4)).alloc (.cells #[.pointer (some ⟨b, o, none⟩)] 66)) w.heap.size 3 1 (fun _ => .int .i64 0) := ((Hb.new w #[.int .i64 0] 3 (one_at _)).alloc _).alloc _
  have x3 : Hb (((w.alloc (.cells #[.int .i64 0] 3)).alloc (.cells #[.bool false] 4)).alloc (.cells #[.pointer (some ⟨b, o, none⟩)] 66)) (w.heap.size + 1) 4 1 (fun _ => .bool false) := by
    have := (Hb.new (w.alloc (.cells #[.int .i64 0] 3)) #[.bool false] 4 (one_at _)).alloc (.cells #[.pointer (some ⟨b, o, none⟩)] 66)
    rwa [World.size_alloc] at this
  have x4 : Hb (((w.alloc (.cells #[.int .i64 0] 3)).alloc (.cells #[.bool false] 4)).alloc (.cells #[.pointer (some ⟨b, o, none⟩)] 66)) (w.heap.size + 1 + 1) 66 1 (fun _ => .pointer (some ⟨b, o, none⟩)) := by
    have := Hb.new ((w.alloc (.cells #[.int .i64 0] 3)).alloc (.cells #[.bool false] 4)) #[.pointer (some ⟨b, o, none⟩)] 66 (one_at _)
    rwa [World.size_alloc, World.size_alloc] at this
  have h1 := h.below hB1 h.lt
  have g1 := hG.below hB1
  have s1 : (((w.alloc (.cells #[.int .i64 0] 3)).alloc (.cells #[.bool false] 4)).alloc (.cells #[.pointer (some ⟨b, o, none⟩)] 66)).heap.size = w.heap.size + 3 := by simp
  generalize (((w.alloc (.cells #[.int .i64 0] 3)).alloc (.cells #[.bool false] 4)).alloc (.cells #[.pointer (some ⟨b, o, none⟩)] 66)) = w1 at hB1 x2 x3 x4 h1 g1 s1 ⊢
  refine range_outer (all1_tells true f F (fun _ _ => False) (w.heap.size + 1 + 1) b o N t w1 x4 h1 hs ho g1 (fun h => h) (fun h => h) (fun t h => h))
    rfl (enters_of Tryd.func43 (by kernel_rfl) rfl) (fun k x hk => by obtain ⟨e, he, rfl⟩ := List.mem_map.1 (List.mem_of_getElem? hk); rfl)
    (fun k W => (k = 0 ∧ Hb W w.heap.size 3 1 (fun _ => .int .i64 0) ∧ Hb W (w.heap.size + 1) 4 1 (fun _ => .bool false)) ∧ Below w.heap.size w W)
    (fun c k W => (c = .ret ∧ k = 0 ∧ Hb W w.heap.size 3 1 (fun _ => .int .i64 (eAt f 0 : Nat)) ∧ Hb W (w.heap.size + 1) 4 1 (fun _ => .bool true)) ∧ Below w.heap.size w W)
    (OwnFrom.and (fun s W W' row hs hg hr => ⟨hs.1, ownFrom_hb w1.heap.size _ _ _ _ () W W' row hs.2.1 hg hr, ownFrom_hb w1.heap.size _ _ _ _ () W W' row hs.2.2 hg hr⟩) (ownFrom_below (Nat.le_refl _) (by omega)))
    (fun c => OwnFrom.and (fun s W W' row hs hg hr => ⟨hs.1, hs.2.1, ownFrom_hb w1.heap.size _ _ _ _ () W W' row hs.2.2.1 hg hr, ownFrom_hb w1.heap.size _ _ _ _ () W W' row hs.2.2.2 hg hr⟩) (ownFrom_below (Nat.le_refl _) (by omega)))
    ⟨⟨rfl, x2, x3⟩, hB1⟩ (fun k => { tmps := #[.pointer (some ⟨b, o, none⟩), undef, .pointer (some ⟨w.heap.size, 0, none⟩), .pointer (some ⟨w.heap.size + 1, 0, none⟩), .int .i64 (eAt f k : Nat), .pointer (some ⟨b, o, none⟩), .func (.func 43) #[] #[.pointer (some ⟨w.heap.size + 1 + 1, 0, none⟩)], .int .i64 (eAt f k : Nat), undef], defers := [] }) ?assign ?body ?done ?stop
  case assign =>
    intro l' k x m' W' K hk hK
    obtain ⟨e, he, rfl⟩ : ∃ e : Nat, (els f)[k]? = some e ∧ x = #[.int .i64 e] := by
      rw [List.getElem?_map] at hk
      obtain ⟨e, he, h2⟩ := Option.map_eq_some_iff.1 hk
      exact ⟨e, he, h2.symm⟩
    rw [eAt_of he] at hK
    have hsem := @Oper.semAt_some
    gi_wp2
    exact hK
  case body =>
    rintro l' k x m' W' hk hl hr ⟨⟨rfl, y2, y3⟩, hB⟩
    generalize eAt f 0 = e
    have c2 := y2.cell (i := 0) (by omega)
    have c3 := y3.cell (i := 0) (by omega)
    have f2 := y2.free 0
    have f3 := y3.free 0
    have hsem := @Oper.semAt_some
    have Y2 := hid ((y2.set (i := 0) (.int .i64 (e : Nat))).other (a := ⟨w.heap.size + 1, 0, none⟩) (by simp) (.bool true))
    have Y3 := hid ((y3.other (a := ⟨w.heap.size, 0, none⟩) (by simp) (.int .i64 (e : Nat))).set (i := 0) (.bool true))
    gi_wp2
    refine ⟨rfl, ((KeepsOthers.setCell _ _ _).trans (KeepsOthers.setCell _ _ _)).from _, ⟨rfl, rfl, Y2.out.congr (upd_one _ _), Y3.out.congr (upd_one _ _)⟩, (hB.setCell (p := ⟨w.heap.size, 0, none⟩) (Nat.le_refl _) _).setCell (p := ⟨w.heap.size + 1, 0, none⟩) (by simp) _⟩
  case done =>
    rintro D W' hD ⟨⟨h0, y2, y3⟩, hB⟩ hd
    rw [List.length_map] at h0
    have hle : leZ f = (0, false) := by unfold leZ; rw [List.length_eq_zero_iff.1 h0]
    have Hle := hid hle
    clear hle
    have c2 := y2.cell (i := 0) (by omega)
    have c3 := y3.cell (i := 0) (by omega)
    have f2 := y2.free 0
    have f3 := y3.free 0
    have Y2 := hid (((y2.set (i := 0) (.int .i64 0)).other (a := ⟨w.heap.size + 1, 0, none⟩) (by simp) (.bool false)).congr (upd_one _ _))
    have Y3 := hid (((y3.other (a := ⟨w.heap.size, 0, none⟩) (by simp) (.int .i64 0)).set (i := 0) (.bool false)).congr (upd_one _ _))
    have HB := hid ((hB.setCell (p := ⟨w.heap.size, 0, none⟩) (Nat.le_refl _) (.int .i64 0)).setCell (p := ⟨w.heap.size + 1, 0, none⟩) (by simp) (.bool false))
    have Hd := hid (setCell_obj (setCell_obj hd rfl ⟨w.heap.size, 0, none⟩ (.int .i64 0)) rfl ⟨w.heap.size + 1, 0, none⟩ (.bool false))
    gi_wp2
    refine leave_marks (.tuple #[.int .i64 0, .bool false]) (fun W => (Hb W w.heap.size 3 1 (fun _ => .int .i64 0) ∧ Hb W (w.heap.size + 1) 4 1 (fun _ => .bool false)) ∧ Below w.heap.size w W) (fun W h => results_cells2 rfl rfl rfl (h.1.1.cell (i := 0) (by omega)) (h.1.2.cell (i := 0) (by omega))) (fun W h => ⟨by rw [Hle.out], h.2⟩) [D] _ (by simp) (fun D' h => by rw [List.mem_singleton.1 h]; exact Hd.out) (fun D' W h hd' hh => ?_) ⟨⟨Y2.out, Y3.out⟩, HB.out⟩
    rw [List.mem_singleton.1 h] at hd' ⊢
    exact ⟨⟨hh.1.1.putO _ hd' rfl, hh.1.2.putO _ hd' rfl⟩, hh.2.trans (belowK_b (w := w) (Nat.le_refl _) W D _ _ (by omega) hd' rfl rfl)⟩
  case stop =>
    rintro D c k W' hD hk ⟨⟨rfl, rfl, y2, y3⟩, hB⟩ hd
    rw [List.length_map] at hk
    have hle : leZ f = (((eAt f 0 : Nat) : Int), true) := by
      unfold leZ eAt
      cases he : els f with
      | nil => rw [he] at hk; simp at hk
      | cons e l => rfl
    have Hle := hid hle
    clear hle
    gi_wp2
    refine leave_marks (.tuple #[.int .i64 (eAt f 0 : Nat), .bool true]) (fun W => (Hb W w.heap.size 3 1 (fun _ => .int .i64 (eAt f 0 : Nat)) ∧ Hb W (w.heap.size + 1) 4 1 (fun _ => .bool true)) ∧ Below w.heap.size w W) (fun W h => results_cells2 rfl rfl rfl (h.1.1.cell (i := 0) (by omega)) (h.1.2.cell (i := 0) (by omega))) (fun W h => ⟨by rw [Hle.out], h.2⟩) [D] _ (by simp) (fun D' h => by rw [List.mem_singleton.1 h]; exact hd) (fun D' W h hd' hh => ?_) ⟨⟨y2, y3⟩, hB⟩
    rw [List.mem_singleton.1 h] at hd' ⊢
    exact ⟨⟨hh.1.1.putO _ hd' rfl, hh.1.2.putO _ hd' rfl⟩, hh.2.trans (belowK_b (w := w) (Nat.le_refl _) W D _ _ (by omega) hd' rfl rfl)⟩
end Go.Proofs.YthmmmbfjhfocfaaDoor
