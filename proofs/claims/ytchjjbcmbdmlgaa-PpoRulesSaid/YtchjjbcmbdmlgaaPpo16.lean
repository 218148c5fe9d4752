/- Layer 16: package ppo: what it asks of single events. -/
import Derived.Test.YtchjjbcmbdmlgaaIsa
import Derived.Test.YtchjjbcmbdmlgaaK09
set_option linter.unusedVariables false
set_option linter.unusedSimpArgs false
namespace Go.Proofs.Ytchjjbcmbdmlgaa
open Go Go.RowKit Sim
def EvA (w : World) (b o : Nat) (e : EvZ) (va vd vc : Value) : Prop := ∀ k, k < 23 → w.cell? ⟨b, o + k, none⟩ = some (evF e va vd vc k)
def memB (e : EvZ) : Bool := e.rd || e.wr
def hasB16 (e : EvZ) : Bool := e.rd && !e.wt
def sameB (a b : EvZ) : Bool := a.kn && (b.kn && a.addr == b.addr)
def markB (e : EvZ) : Bool := e.i.aq || e.i.rl
def rsvB (e : EvZ) : Bool := e.i.op == 77 || e.i.op == 78
section
variable {w : World} {b o : Nat} {e : EvZ} {va vd vc : Value}
theorem isMemory_w (h : EvA w b o e va vd vc) : Calls Try.prog 31 #[.pointer (some ⟨b, o, none⟩)] w fun x w' => x = .returned (.bool (memB e)) ∧ w = w' := by
  have c1 : w.cell? ⟨b, o + 12, none⟩ = some (.bool e.rd) := h 12 (by omega)
  have c2 : w.cell? ⟨b, o + 13, none⟩ = some (.bool e.wr) := h 13 (by omega)
  unfold memB
  generalize e.rd = u at c1 ⊢
  generalize e.wr = v at c2 ⊢
  clear h
  go_enter Try.func31, Try.ntmps31
  cases u <;> cases v
  all_goals
    go_wp2
    go_ret
    exact ⟨rfl, rfl⟩
theorem hasRead_w (h : EvA w b o e va vd vc) : Calls Try.prog 39 #[.pointer (some ⟨b, o, none⟩)] w fun x w' => x = .returned (.bool (hasB16 e)) ∧ w = w' := by
  have c1 : w.cell? ⟨b, o + 12, none⟩ = some (.bool e.rd) := h 12 (by omega)
  have c2 : w.cell? ⟨b, o + 19, none⟩ = some (.bool e.wt) := h 19 (by omega)
  unfold hasB16
  generalize e.rd = u at c1 ⊢
  generalize e.wt = v at c2 ⊢
  clear h
  go_enter Try.func39, Try.ntmps39
  cases u <;> cases v
  all_goals
    go_wp2
    go_ret
    exact ⟨rfl, rfl⟩
theorem isMarked_w (h : EvA w b o e va vd vc) : Calls Try.prog 43 #[.pointer (some ⟨b, o, none⟩)] w fun x w' => x = .returned (.bool (markB e)) ∧ w = w' := by
  have c1 : w.cell? ⟨b, o + 3 + 5, none⟩ = some (.bool e.i.aq) := h 8 (by omega)
  have c2 : w.cell? ⟨b, o + 3 + 6, none⟩ = some (.bool e.i.rl) := h 9 (by omega)
  unfold markB
  generalize e.i.aq = u at c1 ⊢
  generalize e.i.rl = v at c2 ⊢
  clear h
  go_enter Try.func43, Try.ntmps43
  cases u <;> cases v
  all_goals
    go_wp2
    go_ret
    exact ⟨rfl, rfl⟩
theorem isReserving_w (h : EvA w b o e va vd vc) : Calls Try.prog 49 #[.pointer (some ⟨b, o, none⟩)] w fun x w' => x = .returned (.bool (rsvB e)) ∧ w = w' := by
  have c1 : w.cell? ⟨b, o + 3, none⟩ = some (.int .i64 e.i.op) := h 3 (by omega)
  unfold rsvB
  generalize e.i.op = u at c1 ⊢
  clear h
  go_enter Try.func49, Try.ntmps49
  by_cases h1 : u = 77
  · subst h1
    go_wp2
    go_ret
    exact ⟨rfl, rfl⟩
  · by_cases h2 : u = 78
    · subst h2
      go_wp2
      go_ret
      exact ⟨rfl, rfl⟩
    · have b1 : (u == 77) = false := by simpa using h1
      have b2 : (u == 78) = false := by simpa using h2
      go_wp2
      go_ret
      exact ⟨by first | rfl | simp [b1, b2], rfl⟩
theorem haveSame_w {b' o' : Nat} {e' : EvZ} {va' vd' vc' : Value} (h : EvA w b o e va vd vc) (h' : EvA w b' o' e' va' vd' vc') : Calls Try.prog 38 #[.pointer (some ⟨b, o, none⟩), .pointer (some ⟨b', o', none⟩)] w (Qt w (.bool (sameB e e'))) := by
  have c1 : w.cell? ⟨b, o + 11, none⟩ = some (.bool e.kn) := h 11 (by omega)
  have c2 : w.cell? ⟨b', o' + 11, none⟩ = some (.bool e'.kn) := h' 11 (by omega)
  have c3 : w.cell? ⟨b, o + 10, none⟩ = some (.int .i64 e.addr) := h 10 (by omega)
  have c4 : w.cell? ⟨b', o' + 10, none⟩ = some (.int .i64 e'.addr) := h' 10 (by omega)
  unfold sameB
  generalize e.kn = u at c1 ⊢
  generalize e'.kn = v at c2 ⊢
  clear h h'
  go_enter Try.func38, Try.ntmps38
  cases u <;> cases v
  all_goals
    go_wp2
    go_quiet (fail)
    go_wp2
    go_ret
    exact ⟨rfl, _, rfl⟩
def incB (s : Nat) (e : EvZ) : Bool := (s / 2 % 2 == 1 && e.rd) || (s % 2 == 1 && e.wr)
set_option maxHeartbeats 4000000 in
theorem includes_w (h : EvA w b o e va vd vc) (s : Nat) (hs : s < 16) : Calls Try.prog 42 #[.int .i64 s, .pointer (some ⟨b, o, none⟩)] w fun x w' => x = .returned (.bool (incB s e)) ∧ w = w' := by
  have c1 : w.cell? ⟨b, o + 12, none⟩ = some (.bool e.rd) := h 12 (by omega)
  have c2 : w.cell? ⟨b, o + 13, none⟩ = some (.bool e.wr) := h 13 (by omega)
  unfold incB
  generalize e.rd = u at c1 ⊢
  generalize e.wr = v at c2 ⊢
  clear h
  have : s = 0 ∨ s = 1 ∨ s = 2 ∨ s = 3 ∨ s = 4 ∨ s = 5 ∨ s = 6 ∨ s = 7 ∨ s = 8 ∨ s = 9 ∨ s = 10 ∨ s = 11 ∨ s = 12 ∨ s = 13 ∨ s = 14 ∨ s = 15 := by omega
  rcases this with rfl | rfl | rfl | rfl | rfl | rfl | rfl | rfl | rfl | rfl | rfl | rfl | rfl | rfl | rfl | rfl
  all_goals
    cases u <;> cases v
    all_goals
      go_enter Try.func42, Try.ntmps42
      go_wp2
      go_ret
      exact ⟨rfl, rfl⟩
def rfV (e : EvZ) : Value := .agg #[.int .i64 e.ht, .int .i64 e.at']
theorem EvA.lt (h : EvA w b o e va vd vc) : b < w.heap.size := by
  have := h 0 (by omega)
  rcases Nat.lt_or_ge b w.heap.size with hlt | hge
  · exact hlt
  · simp [World.cell?, Array.getElem?_eq_none hge] at this
theorem refInfo16 : (Try.prog.info? 43).map (·.size) = some 2 := by kernel_rfl
set_option maxHeartbeats 1000000 in
set_option maxRecDepth 100000 in
theorem reference_w (h : EvA w b o e va vd vc) : Calls Try.prog 41 #[.pointer (some ⟨b, o, none⟩)] w fun x w' => x = .returned (rfV e) ∧ Below w.heap.size w w' := by
  have c1 : w.cell? ⟨b, o, none⟩ = some (.int .i64 e.ht) := h 0 (by omega)
  have c2 : w.cell? ⟨b, o + 1, none⟩ = some (.int .i64 e.at') := h 1 (by omega)
  have hlt := h.lt
  have hne : b ≠ w.heap.size := by omega
  have d1 : (w.alloc (.cells #[.int .i64 0, .int .i64 0] 43)).drew.cell? ⟨b, o, none⟩ = some (.int .i64 e.ht) := (World.cell?_alloc_lt _ _ _ hlt).trans c1
  have d2 : (w.alloc (.cells #[.int .i64 0, .int .i64 0] 43)).drew.cell? ⟨b, o + 1, none⟩ = some (.int .i64 e.at') := (World.cell?_alloc_lt _ _ _ hlt).trans c2
  have hN : Hb (w.alloc (.cells #[.int .i64 0, .int .i64 0] 43)).drew w.heap.size 43 2 (arrF #[.int .i64 0, .int .i64 0]) := Hb.arr w #[.int .i64 0, .int .i64 0] 43
  have hB : Below w.heap.size w (w.alloc (.cells #[.int .i64 0, .int .i64 0] 43)).drew := ⟨rfl, rfl, rfl, by simp [World.drew], fun k hk => Below.heap_alloc w _ k hk⟩
  have HN := hid hN
  have HB := hid hB
  clear h hN hB c1 c2
  go_enter Try.func41, Try.ntmps41
  go_wp2
  refine region_takes (fun U => U.cell? ⟨b, o, none⟩ = some (.int .i64 e.ht) ∧ U.cell? ⟨b, o + 1, none⟩ = some (.int .i64 e.at')) [0, 1, 2, 3, 4, 5, 6, 7, 8] 1 (by rfl) (by kernel_rfl) (by kernel_rfl) (by kernel_rfl) (fun c a d v w h => And.intro (put_nil h.1) h.2) ⟨d1, d2⟩ ?_
  iterate 9
    refine take_pure _ rfl (by rfl) (fun W hSW => by (obtain ⟨s0, s1⟩ := hSW; go_simp; with_reducible rfl)) ?_
    simp only [Act.put, List.getElem_toArray, List.getElem_cons_succ, List.getElem_cons_zero, List.setIfInBounds_toArray, List.set_cons_zero, List.set_cons_succ]
  refine take_done ?_
  generalize (w.alloc (.cells #[.int .i64 0, .int .i64 0] 43)).drew = W at HN HB d1 d2 ⊢
  have hr : (storeVar 43 ⟨w.heap.size, 0, none⟩ (.agg #[.int .i64 e.ht, .int .i64 e.at'])).run Try.prog W = .ok () (W.setCells w.heap.size 0 [.int .i64 e.ht, .int .i64 e.at']) := run_storeVar_mid W w.heap.size 0 43 #[.int .i64 e.ht, .int .i64 e.at'] (HN.out.there (by simp)) refInfo16 (by simp [Value.oneCell'])
  have hS2 := HN.out.sets (o := 0) (vs := [.int .i64 e.ht, .int .i64 e.at'])
  have d3 : (W.setCells w.heap.size 0 [.int .i64 e.ht, .int .i64 e.at']).cell? ⟨b, o, none⟩ = some (.int .i64 e.ht) := by
    simp only [World.setCells]
    rw [World.cell?_setCell_far _ _ _ _ (by show w.heap.size ≠ b; exact fun x => hne x.symm), World.cell?_setCell_far _ _ _ _ (by show w.heap.size ≠ b; exact fun x => hne x.symm)]; exact d1
  have d4 : (W.setCells w.heap.size 0 [.int .i64 e.ht, .int .i64 e.at']).cell? ⟨b, o + 1, none⟩ = some (.int .i64 e.at') := by
    simp only [World.setCells]
    rw [World.cell?_setCell_far _ _ _ _ (by show w.heap.size ≠ b; exact fun x => hne x.symm), World.cell?_setCell_far _ _ _ _ (by show w.heap.size ≠ b; exact fun x => hne x.symm)]; exact d2
  refine held_skip (i := 9) (w' := W.setCells w.heap.size 0 [.int .i64 e.ht, .int .i64 e.at']) _ (by kernel_rfl) rfl (by rfl) (run_store 43 _ _ rfl rfl rfl hr) ⟨d3, d4⟩ ?_
  refine wpAnyH_done (by kernel_rfl) ?_ _
  have HS2 := hid hS2
  have HB2 := hid ((Fr.sets (T := []) (.inl (Nat.le_refl _)) [.int .i64 e.ht, .int .i64 e.at'] 0 (Fr.of_below HB.out)).to_below)
  clear hr hS2 d3 d4 d1 d2 hne hlt
  generalize W.setCells w.heap.size 0 [.int .i64 e.ht, .int .i64 e.at'] = W2 at HS2 HB2 ⊢
  go_wp2
  refine bodyPost_ret (ret_cell Try.results41 (by rfl) (run_loadVar_mid W2 w.heap.size 0 _ [.int .i64 e.ht, .int .i64 e.at'] _ (HS2.out.range (fun j hj => by
    have := updR_in (F := arrF #[.int .i64 0, .int .i64 0]) (o := 0) (vs := [.int .i64 e.ht, .int .i64 e.at']) (j := j) hj
    rw [this]; simp [List.getD_eq_getElem?_getD, List.getElem?_eq_getElem hj]) (by simp)) Try.underlying43 rfl refInfo16)) rfl ⟨rfl, HB2.out⟩
end
end Go.Proofs.Ytchjjbcmbdmlgaa
