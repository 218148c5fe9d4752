/- The reference's relations: New. -/
import Derived.Test.YthmmmbfjhfocfaaDoorOrd14
import Derived.Deep.RegionHeld3
namespace Go.Proofs.YthmmmbfjhfocfaaDoor
open Go Go.RowKit
set_option linter.unusedVariables false
set_option linter.unusedSimpArgs false

def bitV (f : Nat → Bool) : Nat → Value := fun j => .bool (f j)
def rhoV (ρ : Nat → Nat) (n : Nat) : Nat → Value := fun i => .slice (some ⟨ρ i, 0, none⟩) n n
def slV (g n cap : Nat) : Value := .slice (some ⟨g, 0, none⟩) n cap
/-- The head of a relation of the reference's: its size, its rows. -/
def refV (n : Nat) (v : Value) : Nat → Value := fun i => if i = 0 then .int .i64 n else v
/-- The first i rows of a relation of the reference's. -/
structure RfN (w : World) (c0 n : Nat) (v : Value) (base i : Nat) (ρ : Nat → Nat) (m : Nat → Nat → Bool) : Prop where
  hd : Hb w c0 39 2 (refV n v)
  row : w.ownsRow base 40 1 v i ((List.range i).map (rhoV ρ n))
  rows : ∀ j, j < i → Hb w (ρ j) 4 n (bitV (m j)) ∧ base ≤ ρ j
  inj : ∀ j k, j < i → k < i → ρ j = ρ k → j = k
theorem hd_grown {w w' : World} {B n i : Nat} {v : Value} {ρ : Nat → Nat} {m : Nat → Nat → Bool} {o1 o2 : Obj} (h : RfN w B n v (B + 1) i ρ m) (hg : ((w.alloc o1).alloc o2).drew.grownBy w' v.ownBlock) : Hb w' B 39 2 (refV n v) := by
  have h2 := (h.hd.alloc o1).alloc o2
  exact h2.same (hg.block B h2.lt fun e => by
    obtain ⟨h3, _⟩ := row_obj h.row B e.symm
    omega)
theorem refV_1 (n : Nat) (v : Value) : refV n v 1 = v := rfl
theorem cell_one_at (w : World) (x : Value) (t : TypeId) {g : Nat} (hg : w.heap.size = g) : ∀ (j : Nat) u, [x][j]? = some u → ((w.alloc (.cells #[x] t)).drew).cell? ((⟨g, 0, none⟩ : Addr).add j) = some u := by
  subst hg
  exact cell_one_new w x t
theorem rho_snoc (ρ : Nat → Nat) (n j g : Nat) : (List.range j).map (rhoV ρ n) ++ [.slice (some ⟨g, 0, none⟩) n n] = (List.range (j + 1)).map (rhoV (updF ρ j g) n) := by
  rw [List.range_succ, List.map_append]
  congr 1
  · refine List.map_congr_left fun k hk => ?_
    have := List.mem_range.1 hk
    unfold rhoV
    rw [updF_other _ _ (by omega)]
  · show _ = [rhoV _ _ j]
    unfold rhoV
    rw [updF_same]
theorem boolInfo : (Tryd.prog.info? 4).map (fun i => (i.zero, i.size, i.bytes)) = some (some (.bool false), 1, 1) := by kernel_rfl
theorem blsInfo : (Tryd.prog.info? 40).map (fun i => (i.zero, i.size, i.bytes)) = some (some (.slice none 0 0), 1, 24) := by kernel_rfl
theorem made_bool (n : Nat) : ∀ i, i < n → (madeCells #[Value.bool false] n)[i]? = some (.bool false) := fun i hi => by
  have h := toList_madeCells_one (.bool false) n
  rw [← Array.getElem?_toList, h, List.getElem?_replicate, if_pos hi]
theorem step_append_own {P : Program} {ops : Array Oper} {o : Oper} {a : Act} {w : World} {K : Act → World → Prop} {Q : Exit → Act → World → Prop} {E : Prop} (hg : o.guard = none) (s x : Operand) (t : TypeId)
    (ho : o.op = .call { callee := .builtin .append, args := #[s, x], argTypes := #[t, t] })
    (base : Nat) (e : TypeId) (i : TypeInfo) (z : Value) (size bytes : Nat) (ht : P.underlying t = some (.slice e)) (hi : P.info? e = some i) (hz : i.zero = some z)
    (hsize : i.size = size) (hby : i.bytes = bytes) (hzs : z.cells.size = size) (hsz : 0 < size)
    (v : Value) (n : Nat) (xs : List Value) (hs : a.eval s = v) (hown : w.ownsRow base e size v n xs)
    (ad : Addr) (m c : Nat) (news : List Value) (hx : a.eval x = .slice (some ad) m c) (hl : news.length = m * size) (hnews : ∀ j u, news[j]? = some u → w.cell? (ad.add j) = some u) (h1 : ∀ u ∈ news, u.oneCell' = true)
    (h63 : n + m ≤ maxLen) (hbytes : (n + m) * bytes ≤ 140737488355328) (hbase : base ≤ w.heap.size)
    (h : ∀ v' w', w'.ownsRow base e size v' (n + m) (xs ++ news) → w.grownBy w' v.ownBlock → K (a.put o.dst v') w') :
    if Region.wanted o (yielded ops a.tmps) = true then Oper.wp P o a w K Q else E := by
  have hw : Region.wanted o (yielded ops a.tmps) = true := by simp [Region.wanted, hg]
  rw [if_pos hw]
  exact wp_append_own w s x t ho base e i z size bytes ht hi hz hsize hby hzs hsz v n xs hs hown ad m c news hx hl hnews h1 h63 hbytes hbase fun v' w' h2 h3 _ => h v' w' h2 h3
set_option maxRecDepth 100000 in
set_option maxHeartbeats 4000000 in
theorem refNew_mid (N : Nat) (hN : N ≤ 512) (w : World) : Calls Tryd.prog 18 #[.int .i64 N] w fun e w' => ∃ c0 v ρ, e = .returned (.pointer (some ⟨c0, 0, none⟩)) ∧ RfN w' c0 N v w.heap.size N ρ (fun _ _ => false) ∧ w.heap.size ≤ c0 ∧ Below w.heap.size w w' := by
  have hN5 : N ≤ 512 := by have := hN; omega
  have hmk := fun W => run_make_row' (P := Tryd.prog) 40 4 (.bool false) 1 Tryd.underlying40 boolInfo rfl .i64 .i64 N (by omega) (by omega) W
  obtain ⟨i0, hi0, hz0, hz1, hz2⟩ := info_parts blsInfo
  go_enter Tryd.func18, Tryd.ntmps18
  go_wp2
  have hh0 := Hb.new w #[.int .i64 N, .slice none 0 0] 39 (f := refV N (.slice none 0 0)) (fun i hi => by
    have hi : i < 2 := hi
    have : i = 0 ∨ i = 1 := by omega
    rcases this with rfl | rfl <;> rfl)
  have hB0 : Below w.heap.size w (w.alloc (.cells #[.int .i64 N, .slice none 0 0] 39)) := (Below.refl _ w).alloc (Nat.le_refl _) _
  have hs0 : (w.alloc (.cells #[.int .i64 N, .slice none 0 0] 39)).heap.size = w.heap.size + 1 := by simp
  generalize w.alloc (.cells #[.int .i64 N, .slice none 0 0] 39) = w1 at hh0 hB0 hs0 ⊢
  obtain ⟨B, hBd⟩ : ∃ B, B = w.heap.size := ⟨_, rfl⟩
  rw [← hBd] at hh0 hB0 hs0 ⊢
  have HBd := hid hBd
  clear hBd
  go_loopw [4] (fun k wr => ∃ (j : Nat) (v : Value) (ρ : Nat → Nat), j ≤ N ∧ k = .int .i64 j ∧ RfN wr B N v (B + 1) j ρ (fun _ _ => false) ∧ Below B w wr ∧ B < wr.heap.size) (fun k _ => N - (intOf k).toNat)
  case atStart => exact ⟨0, .slice none 0 0, fun _ => 0, Nat.zero_le _, rfl, ⟨hh0, World.ownsRow_nil _ _ _ _, (fun j h => by omega), (fun j k h => by omega)⟩, hB0, by omega⟩
  case round =>
    obtain ⟨j, v, ρ, hj, rfl, hR, hB, hsz⟩ := hrel
    by_cases hlt : j < N
    · have c1 : wr.cell? ⟨B, 1, none⟩ = some v := hR.hd.cell (i := 1) (by omega)
      have f1 := hR.hd.free 1
      have hl0 : N ≠ 0 := by omega
      have HR := hid hR
      clear hR
      go_wp2
      generalize hwd : wr = W at *
      have c2 := (HR.out.hd.alloc (.cells (madeCells #[.bool false] N) 4)).cell (i := 1) (by omega)
      have c3 := ((HR.out.hd.alloc (.cells (madeCells #[.bool false] N) 4)).alloc (.cells #[.slice (some ⟨W.heap.size, 0, none⟩) N N] 40)).cell (i := 1) (by omega)
      rw [refV_1] at c2 c3
      refine wp_mono (Q := fun e a w' => e = .normal ∧ ∃ v' w3, a = { tmps := #[.int .i64 N, undef, .pointer none, .pointer (some ⟨B, 0, none⟩), .int .i64 j, .int .i64 N, .bool (decide ((N : Int) < 0)), .int .i64 N, .bool (decide ((512 : Int) < N)), .int .i64 N, .agg #[.int .i64 N, .slice none 0 0], .pointer (some ⟨B, 0, none⟩), .int .i64 j, .int .i64 N, .bool true, u15, u16, .pointer (some ⟨B, 0, none⟩), .pointer (some ⟨B, 0, none⟩), .pointer (some ⟨B, 0, none⟩), .pointer (some ⟨B, 1, none⟩), v, .int .i64 N, .slice (some ⟨W.heap.size, 0, none⟩) N N, .slice (some ⟨W.heap.size + 1, 0, none⟩) 1 1, v', .pointer (some ⟨B, 0, none⟩), .pointer (some ⟨B, 1, none⟩), undef], defers := [] } ∧ w' = w3.setCell ⟨B, 1, none⟩ v' ∧ Hb w3 B 39 2 (refV N v) ∧ w3.ownsRow (B + 1) 40 1 v' (j + 1) ((List.range j).map (rhoV ρ N) ++ [.slice (some ⟨W.heap.size, 0, none⟩) N N]) ∧ ((W.alloc (.cells (madeCells #[.bool false] N) 4)).alloc (.cells #[.slice (some ⟨W.heap.size, 0, none⟩) N N] 40)).grownBy w3 v.ownBlock) ?reg ?cont
      case reg =>
        refine wp_region_held_drew (S := fun _ => True) (by kernel_rfl) trivial (fun hHeld => ?_)
        refine wpAnyH_take (i := 0) (v := ?_) rfl (by kernel_rfl) (by kernel_rfl) (by kernel_rfl) (fun _ _ _ h => by cases h.1) (Or.inl ⟨by rfl, ?_⟩) (by trivial) ?_
        rotate_left
        · (intro w hSw; go_simp; with_reducible rfl)
        try simp only [Act.put, List.getElem_toArray, List.getElem_cons_succ, List.getElem_cons_zero, List.setIfInBounds_toArray, List.set_cons_zero, List.set_cons_succ]
        refine wpAnyH_take (i := 1) (v := ?_) rfl (by kernel_rfl) (by kernel_rfl) (by kernel_rfl) (fun _ _ _ h => by cases h.1) (Or.inl ⟨by rfl, ?_⟩) (by trivial) ?_
        rotate_left
        · (intro w hSw; go_simp; with_reducible rfl)
        try simp only [Act.put, List.getElem_toArray, List.getElem_cons_succ, List.getElem_cons_zero, List.setIfInBounds_toArray, List.set_cons_zero, List.set_cons_succ]
        refine wpAnyH_take (i := 2) (v := ?_) rfl (by kernel_rfl) (by kernel_rfl) (by kernel_rfl) (fun _ _ _ h => by cases h.1) (Or.inl ⟨by rfl, ?_⟩) (by trivial) ?_
        rotate_left
        · (intro w hSw; go_simp; with_reducible rfl)
        try simp only [Act.put, List.getElem_toArray, List.getElem_cons_succ, List.getElem_cons_zero, List.setIfInBounds_toArray, List.set_cons_zero, List.set_cons_succ]
        refine wpAnyH_take (i := 3) (v := ?_) rfl (by kernel_rfl) (by kernel_rfl) (by kernel_rfl) (fun _ _ _ h => by cases h.1) (Or.inl ⟨by rfl, ?_⟩) (by trivial) ?_
        rotate_left
        · (intro w hSw; go_simp; with_reducible rfl)
        try simp only [Act.put, List.getElem_toArray, List.getElem_cons_succ, List.getElem_cons_zero, List.setIfInBounds_toArray, List.set_cons_zero, List.set_cons_succ]
        refine wpAnyH_take (i := 5) (v := ?_) rfl (by kernel_rfl) (by kernel_rfl) (by kernel_rfl) (fun _ _ _ h => by cases h.1) (Or.inl ⟨by rfl, ?_⟩) (by trivial) ?_
        rotate_left
        · (intro w hSw; go_simp; with_reducible rfl)
        try simp only [Act.put, List.getElem_toArray, List.getElem_cons_succ, List.getElem_cons_zero, List.setIfInBounds_toArray, List.set_cons_zero, List.set_cons_succ]
        repeat' (first
          | ((refine wpAnyH_ready (rs := [8]) (by decide +kernel) (by simp) ?_; refine AllReadyH.cons rfl (fun K hK => ?_) (AllReadyH.nil)); refine step_append_own rfl (.tmp 21) (.tmp 24) 37 rfl (B + 1) 40 i0 (.slice none 0 0) 1 24 Tryd.underlying37 hi0 hz0 hz1 hz2 rfl (by decide) v j ((List.range j).map (rhoV ρ N)) (by simp [Act.eval, Act.put]) ((HR.out.row.alloc _).alloc _) ⟨W.heap.size + 1, 0, none⟩ 1 1 [.slice (some ⟨W.heap.size, 0, none⟩) N N] (by simp [Act.eval, Act.put]) rfl (cell_one_at _ _ _ (by simp)) (by simp [Value.oneCell']) (by unfold maxLen; omega) (by omega) (by simp; omega) ?_; intro v' w' hown hgrow; have hh2 := hd_grown HR.out hgrow; have hc2 := hh2.cell (i := 1) (by omega); have hf2 := hh2.free 1; obtain ⟨g', cap', rfl⟩ := ownsRow_succ hown; (refine hK.out _ _ trivial (fun _ => ?_); clear hK K; try simp only [Act.put, List.getElem_toArray, List.getElem_cons_succ, List.getElem_cons_zero, List.setIfInBounds_toArray, List.set_cons_zero, List.set_cons_succ]))
          | ((refine wpAnyH_ready (rs := [4, 6]) (by decide +kernel) (by simp) ?_; refine AllReadyH.cons rfl (fun K hK => ?_) (AllReadyH.cons rfl (fun K hK => ?_) (AllReadyH.nil))) <;> (go_simp; (refine hK.out _ _ trivial (fun _ => ?_); clear hK K; try simp only [Act.put, List.getElem_toArray, List.getElem_cons_succ, List.getElem_cons_zero, List.setIfInBounds_toArray, List.set_cons_zero, List.set_cons_succ])))
          | ((refine wpAnyH_ready (rs := [4, 7]) (by decide +kernel) (by simp) ?_; refine AllReadyH.cons rfl (fun K hK => ?_) (AllReadyH.cons rfl (fun K hK => ?_) (AllReadyH.nil))) <;> (go_simp; (refine hK.out _ _ trivial (fun _ => ?_); clear hK K; try simp only [Act.put, List.getElem_toArray, List.getElem_cons_succ, List.getElem_cons_zero, List.setIfInBounds_toArray, List.set_cons_zero, List.set_cons_succ])))
          | ((refine wpAnyH_ready (rs := [4]) (by decide +kernel) (by simp) ?_; refine AllReadyH.cons rfl (fun K hK => ?_) (AllReadyH.nil)) <;> (go_simp; (refine hK.out _ _ trivial (fun _ => ?_); clear hK K; try simp only [Act.put, List.getElem_toArray, List.getElem_cons_succ, List.getElem_cons_zero, List.setIfInBounds_toArray, List.set_cons_zero, List.set_cons_succ])))
          | ((refine wpAnyH_ready (rs := [6]) (by decide +kernel) (by simp) ?_; refine AllReadyH.cons rfl (fun K hK => ?_) (AllReadyH.nil)) <;> (go_simp; (refine hK.out _ _ trivial (fun _ => ?_); clear hK K; try simp only [Act.put, List.getElem_toArray, List.getElem_cons_succ, List.getElem_cons_zero, List.setIfInBounds_toArray, List.set_cons_zero, List.set_cons_succ])))
          | ((refine wpAnyH_ready (rs := [7]) (by decide +kernel) (by simp) ?_; refine AllReadyH.cons rfl (fun K hK => ?_) (AllReadyH.nil)) <;> (go_simp; (refine hK.out _ _ trivial (fun _ => ?_); clear hK K; try simp only [Act.put, List.getElem_toArray, List.getElem_cons_succ, List.getElem_cons_zero, List.setIfInBounds_toArray, List.set_cons_zero, List.set_cons_succ])))
          | ((refine wpAnyH_ready (rs := [9]) (by decide +kernel) (by simp) ?_; refine AllReadyH.cons rfl (fun K hK => ?_) (AllReadyH.nil)) <;> (go_simp; (refine hK.out _ _ trivial (fun _ => ?_); clear hK K; try simp only [Act.put, List.getElem_toArray, List.getElem_cons_succ, List.getElem_cons_zero, List.setIfInBounds_toArray, List.set_cons_zero, List.set_cons_succ])))
          | ((refine wpAnyH_ready (rs := [10]) (by decide +kernel) (by simp) ?_; refine AllReadyH.cons rfl (fun K hK => ?_) (AllReadyH.nil)) <;> (go_simp; (refine hK.out _ _ trivial (fun _ => ?_); clear hK K; try simp only [Act.put, List.getElem_toArray, List.getElem_cons_succ, List.getElem_cons_zero, List.setIfInBounds_toArray, List.set_cons_zero, List.set_cons_succ])))
          | ((refine wpAnyH_ready (rs := [11]) (by decide +kernel) (by simp) ?_; refine AllReadyH.cons rfl (fun K hK => ?_) (AllReadyH.nil)) <;> (go_simp; (refine hK.out _ _ trivial (fun _ => ?_); clear hK K; try simp only [Act.put, List.getElem_toArray, List.getElem_cons_succ, List.getElem_cons_zero, List.setIfInBounds_toArray, List.set_cons_zero, List.set_cons_succ]))))
        all_goals refine wpAnyH_done (by kernel_rfl) ?_ _
        all_goals exact ⟨rfl, _, _, rfl, rfl, hh2, hown, ⟨hgrow.os, hgrow.tape, hgrow.output, hgrow.size, hgrow.block⟩⟩
        all_goals exact ⟨rfl, _, _, rfl, rfl, hh2, hown, ⟨hgrow.os, hgrow.tape, hgrow.output, hgrow.size, hgrow.block⟩⟩
      rintro _ _ _ ⟨rfl, v', w3, rfl, rfl, hh3, hown, hgrow⟩
      have hR := HR.out
      have hrowb : ∀ q, v.ownBlock = some q → ∃ cs t fz, ((W.alloc (.cells (madeCells #[.bool false] N) 4)).alloc (.cells #[.slice (some ⟨W.heap.size, 0, none⟩) N N] 40)).heap[q]? = some (.cells cs t fz) ∧ t = 40 := fun q hq => by
        obtain ⟨_, cs, fz, h2⟩ := row_obj ((hR.row.alloc _).alloc _) q hq
        exact ⟨cs, _, fz, h2, rfl⟩
      have hkc : Kc (fun _ t => t = 40) W w3 := (((Kc.refl _ W).alloc _).alloc _).trans (Kc.of_grown hgrow hrowb)
      have hnew : Hb w3 W.heap.size 4 N (bitV fun _ => false) := by
        have h1 := Hb.new W (madeCells #[.bool false] N) 4 (f := bitV fun _ => false) (fun i hi => by rw [size_madeCells] at hi; exact made_bool N i hi)
        rw [size_madeCells] at h1
        exact (h1.alloc _).kc (Kc.of_grown (ok := fun _ t => t = 40) hgrow hrowb) (by decide)
      have hgr3 := hgrow.size
      rw [World.size_alloc, World.size_alloc] at hgr3
      have hn : RfN (w3.setCell ⟨B, 1, none⟩ v') B N v' (B + 1) (j + 1) (updF ρ j W.heap.size) (fun _ _ => false) := by
        refine ⟨(hh3.set (i := 1) v').congr fun i hi => ?_, ?_, fun k hk => ?_, fun k l hk hl hkl => ?_⟩
        · have : i = 0 ∨ i = 1 := by omega
          rcases this with rfl | rfl <;> rfl
        · have h1 := own_keep (w' := w3.setCell ⟨B, 1, none⟩ v') hown (fun g hg _ => Below.heap_setCell _ _ _ _ (by show g ≠ B; omega))
          rw [rho_snoc] at h1
          exact h1
        · by_cases hkj : k = j
          · subst hkj
            rw [updF_same]
            exact ⟨hnew.other (by show W.heap.size ≠ B; omega) _, by omega⟩
          · rw [updF_other _ _ hkj]
            obtain ⟨h1, h2⟩ := hR.rows k (by omega)
            exact ⟨(h1.kc hkc (by decide)).other (by show ρ k ≠ B; omega) _, h2⟩
        · by_cases hkj : k = j
          · by_cases hlj : l = j
            · omega
            · rw [hkj, updF_same, updF_other _ _ hlj] at hkl
              have := (hR.rows l (by omega)).1.lt
              omega
          · by_cases hlj : l = j
            · rw [hlj, updF_same, updF_other _ _ hkj] at hkl
              have := (hR.rows k (by omega)).1.lt
              omega
            · rw [updF_other _ _ hkj, updF_other _ _ hlj] at hkl
              exact hR.inj k l (by omega) (by omega) hkl
      have hBn : Below B w (w3.setCell ⟨B, 1, none⟩ v') := (((hB.alloc (by omega) _).alloc (by simp; omega) _).grown hgrow (by simp; omega) (fun q hq => by
        obtain ⟨h1, _⟩ := row_obj hR.row q hq
        omega)).setCell (p := ⟨B, 1, none⟩) (Nat.le_refl _) _
      have hsn : B < (w3.setCell ⟨B, 1, none⟩ v').heap.size := by simp; omega
      have HN := hid (And.intro hn (And.intro hBn hsn))
      clear hn hBn hsn hkc hnew hrowb hR hgr3 hgrow hown hh3 c1 c2 c3 f1
      generalize w3.setCell ⟨B, 1, none⟩ v' = w4 at HN ⊢
      go_wp2
      go_roundw
      case rel => exact ⟨j + 1, v', _, by omega, by go_num, HN.out.1, HN.out.2.1, HN.out.2.2⟩
      case measure => simp [intOf]; omega
    · obtain rfl : N = j := by omega
      go_wp2
      go_ret
      obtain rfl := HBd.out
      exact ⟨_, v, ρ, rfl, ⟨hR.hd, own_base hR.row (by omega), fun k hk => ⟨(hR.rows k hk).1, by have := (hR.rows k hk).2; omega⟩, hR.inj⟩, Nat.le_refl _, hB⟩
/-- What New answers: the call makes a relation of the reference's. -/
def RNew (w : World) (N : Nat) : Ending → World → Prop := fun e w' => ∃ c0 v ρ, e = .returned (.pointer (some ⟨c0, 0, none⟩)) ∧ RfN w' c0 N v w.heap.size N ρ (fun _ _ => false) ∧ w.heap.size ≤ c0 ∧ Below w.heap.size w w'
theorem refNew_low (n : Int) (hn : n < 0) (w : World) : Calls Tryd.prog 18 #[.int .i64 n] w (RNew w 0) := by
  go_enter Tryd.func18, Tryd.ntmps18
  go_wp2
  have hh0 := Hb.new w #[.int .i64 0, .slice none 0 0] 39 (f := refV 0 (.slice none 0 0)) (fun i hi => by
    have hi : i < 2 := hi
    have : i = 0 ∨ i = 1 := by omega
    rcases this with rfl | rfl <;> rfl)
  have hB0 : Below w.heap.size w (w.alloc (.cells #[.int .i64 0, .slice none 0 0] 39)) := (Below.refl _ w).alloc (Nat.le_refl _) _
  generalize w.alloc (.cells #[.int .i64 0, .slice none 0 0] 39) = w1 at hh0 hB0 ⊢
  go_loopw [4] (fun k wr => k = .int .i64 0 ∧ wr = w1) (fun _ _ => 0)
  case atStart => exact ⟨rfl, rfl⟩
  case round =>
    obtain ⟨rfl, rfl⟩ := hrel
    go_wp2
    go_ret
    exact ⟨_, _, fun _ => 0, rfl, ⟨hh0, World.ownsRow_nil _ _ _ _, (fun j h => by omega), (fun j k h => by omega)⟩, Nat.le_refl _, hB0⟩
theorem refNew_ret (n : Int) (hn : n ≤ 512) (w : World) : Calls Tryd.prog 18 #[.int .i64 n] w (RNew w (clN n)) := by
  by_cases h1 : n < 0
  · rw [show clN n = 0 by unfold clN; omega]; exact refNew_low n h1 w
  · obtain ⟨N, rfl⟩ := Int.eq_ofNat_of_zero_le (show 0 ≤ n by omega)
    rw [clN_self N (by omega)]; exact refNew_mid N (by omega) w
end Go.Proofs.YthmmmbfjhfocfaaDoor
