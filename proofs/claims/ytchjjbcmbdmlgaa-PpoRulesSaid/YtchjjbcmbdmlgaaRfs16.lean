/- Layer 16: the reference's small words on events. -/
import Derived.Test.YtchjjbcmbdmlgaaPpo16
set_option linter.unusedVariables false
set_option linter.unusedSimpArgs false
namespace Go.Proofs.Ytchjjbcmbdmlgaa
open Go Go.RowKit Sim
abbrev evAr (e : EvZ) (va vd vc : Value) : Array Value := #[.int .i64 e.ht, .int .i64 e.at', .int .i64 e.pc, .int .i64 e.i.op, .int .i64 e.i.rd, .int .i64 e.i.a, .int .i64 e.i.b, .int .i64 e.i.imm, .bool e.i.aq, .bool e.i.rl, .int .i64 e.addr, .bool e.kn, .bool e.rd, .bool e.wr, .int .i64 e.inn, .int .i64 e.out, .bool e.ry, .int .i64 e.sh, .int .i64 e.sa, .bool e.wt, va, vd, vc]
section
variable {w : World} {e e' : EvZ} {va vd vc va' vd' vc' : Value}
theorem refMemory_w : Calls Try.prog 15 #[.agg (evAr e va vd vc)] w fun x w' => x = .returned (.bool (memB e)) ∧ Below w.heap.size w w' := by
  obtain ⟨m, hm⟩ : ∃ m, m = memB e := ⟨_, rfl⟩
  rw [← hm]
  have Hm := hid hm
  clear hm
  have HB := hid ((Below.refl w.heap.size w).alloc (Nat.le_refl _) (.cells (evAr e va vd vc) evT))
  have hc := Hb.arr w (evAr e va vd vc) evT
  have c1 : (w.alloc (.cells (evAr e va vd vc) evT)).cell? ⟨w.heap.size, 12, none⟩ = some (.bool e.rd) := hc.cell (i := 12) (by simp)
  have c2 : (w.alloc (.cells (evAr e va vd vc) evT)).cell? ⟨w.heap.size, 13, none⟩ = some (.bool e.wr) := hc.cell (i := 13) (by simp)
  clear hc
  go_enter Try.func15, Try.ntmps15
  go_upto_region 1 with (fail)
  generalize w.alloc (.cells (evAr e va vd vc) evT) = W at HB c1 c2 ⊢
  cases hu : e.rd <;> cases hv : e.wr
  all_goals
    rw [hu] at c1
    rw [hv] at c2
    have Hu := hid hu
    have Hv := hid hv
    clear hu hv
    go_wp2
    go_ret
    exact ⟨by rw [Hm.out]; unfold memB; rw [Hu.out, Hv.out]; rfl, HB.out⟩
theorem amo_is (op : Int) : Calls Try.prog 22 #[.int .i64 op] w fun x w' => x = .returned (.bool (decide (79 ≤ op ∧ op ≤ 87))) ∧ w = w' := by
  go_enter Try.func22, Try.ntmps22
  by_cases h1 : 79 ≤ op
  · by_cases h2 : op ≤ 87
    · have hd : decide (79 ≤ op ∧ op ≤ 87) = true := by simp; omega
      rw [hd]
      clear hd
      go_wp2
      go_ret
      exact ⟨by simp [h2], rfl⟩
    · have hd : decide (79 ≤ op ∧ op ≤ 87) = false := by simp; omega
      rw [hd]
      clear hd
      go_wp2
      go_ret
      exact ⟨by first | rfl | simp [h2], rfl⟩
  · have hd : decide (79 ≤ op ∧ op ≤ 87) = false := by simp; omega
    rw [hd]
    clear hd
    go_wp2
    go_ret
    exact ⟨by simp, rfl⟩
def srcB (e e' : EvZ) : Bool := e'.rd && (!e'.wt && (e'.sh == e.ht && e'.sa == e.at'))
set_option maxHeartbeats 2000000 in
theorem refSrc_w : Calls Try.prog 23 #[.agg (evAr e va vd vc), .agg (evAr e' va' vd' vc')] w fun x w' => x = .returned (.bool (srcB e e')) ∧ Below w.heap.size w w' := by
  obtain ⟨m, hm⟩ : ∃ m, m = srcB e e' := ⟨_, rfl⟩
  rw [← hm]
  have Hm := hid hm
  clear hm
  have HB := hid (((Below.refl w.heap.size w).alloc (Nat.le_refl _) (.cells (evAr e va vd vc) evT)).alloc (by simp) (.cells (evAr e' va' vd' vc') evT))
  have h0 := (Hb.arr w (evAr e va vd vc) evT).alloc (.cells (evAr e' va' vd' vc') evT)
  have h1 := Hb.arr (w.alloc (.cells (evAr e va vd vc) evT)) (evAr e' va' vd' vc') evT
  rw [show (w.alloc (.cells (evAr e va vd vc) evT)).heap.size = w.heap.size + 1 from by simp] at h1
  have c1 : ((w.alloc (.cells (evAr e va vd vc) evT)).alloc (.cells (evAr e' va' vd' vc') evT)).cell? ⟨w.heap.size + 1, 12, none⟩ = some (.bool e'.rd) := h1.cell (i := 12) (by simp)
  have c2 : ((w.alloc (.cells (evAr e va vd vc) evT)).alloc (.cells (evAr e' va' vd' vc') evT)).cell? ⟨w.heap.size + 1, 19, none⟩ = some (.bool e'.wt) := h1.cell (i := 19) (by simp)
  have c3 : ((w.alloc (.cells (evAr e va vd vc) evT)).alloc (.cells (evAr e' va' vd' vc') evT)).cell? ⟨w.heap.size + 1, 17, none⟩ = some (.int .i64 e'.sh) := h1.cell (i := 17) (by simp)
  have c4 : ((w.alloc (.cells (evAr e va vd vc) evT)).alloc (.cells (evAr e' va' vd' vc') evT)).cell? ⟨w.heap.size + 1, 18, none⟩ = some (.int .i64 e'.sa) := h1.cell (i := 18) (by simp)
  have c5 : ((w.alloc (.cells (evAr e va vd vc) evT)).alloc (.cells (evAr e' va' vd' vc') evT)).cell? ⟨w.heap.size, 0, none⟩ = some (.int .i64 e.ht) := h0.cell (i := 0) (by simp)
  have c6 : ((w.alloc (.cells (evAr e va vd vc) evT)).alloc (.cells (evAr e' va' vd' vc') evT)).cell? ⟨w.heap.size, 1, none⟩ = some (.int .i64 e.at') := h0.cell (i := 1) (by simp)
  clear h0 h1
  go_enter Try.func23, Try.ntmps23
  go_upto_region 1 with (fail)
  generalize (w.alloc (.cells (evAr e va vd vc) evT)).alloc (.cells (evAr e' va' vd' vc') evT) = W at HB c1 c2 c3 c4 c5 c6 ⊢
  have Hs : Hid (∀ a b c d : Bool, e'.rd = a → e'.wt = b → (e'.sh == e.ht) = c → (e'.sa == e.at') = d → m = (a && (!b && (c && d)))) := hid fun a b c d h1 h2 h3 h4 => by rw [Hm.out]; unfold srcB; rw [h1, h2, h3, h4]
  clear Hm
  obtain ⟨ua, ha⟩ : ∃ u, e'.rd = u := ⟨_, rfl⟩
  obtain ⟨ub, hb⟩ : ∃ u, e'.wt = u := ⟨_, rfl⟩
  obtain ⟨uc, hc⟩ : ∃ u, (e'.sh == e.ht) = u := ⟨_, rfl⟩
  obtain ⟨ud, hd⟩ : ∃ u, (e'.sa == e.at') = u := ⟨_, rfl⟩
  have HE := hid (Hs.out ua ub uc ud ha hb hc hd)
  rw [ha] at c1
  rw [hb] at c2
  clear Hs ha hb
  generalize e'.sh = x1 at c3 hc
  generalize e.ht = x2 at c5 hc
  generalize e'.sa = x3 at c4 hd
  generalize e.at' = x4 at c6 hd
  cases ua <;> cases ub <;> cases uc <;> cases ud
  all_goals
    go_wp2
    go_ret
    exact ⟨by rw [HE.out]; first | rfl | simp [hc, hd], HB.out⟩
theorem iq2 (x : Nat) : (x / 2 % 2 == 1) = ((x : Int) / 2 % 2 == 1) := by
  by_cases h : x / 2 % 2 = 1
  · rw [show (x / 2 % 2 == 1) = true by simpa using h, show ((x : Int) / 2 % 2 == 1) = true by simp; omega]
  · rw [show (x / 2 % 2 == 1) = false by simpa using h, show ((x : Int) / 2 % 2 == 1) = false by simp; omega]
theorem iq1 (x : Nat) : (x % 2 == 1) = ((x : Int) % 2 == 1) := by
  by_cases h : x % 2 = 1
  · rw [show (x % 2 == 1) = true by simpa using h, show ((x : Int) % 2 == 1) = true by simp; omega]
  · rw [show (x % 2 == 1) = false by simpa using h, show ((x : Int) % 2 == 1) = false by simp; omega]
set_option maxHeartbeats 4000000 in
theorem refOrders_w (p q : Nat) (hp : p < 16) (hq : q < 16) : Calls Try.prog 25 #[.int .i64 ((16 * p + q : Nat) : Int), .agg (evAr e va vd vc), .agg (evAr e' va' vd' vc')] w fun x w' => x = .returned (.bool (incB p e && incB q e')) ∧ Below w.heap.size w w' := by
  obtain ⟨m, hm⟩ : ∃ m, m = (incB p e && incB q e') := ⟨_, rfl⟩
  rw [← hm]
  have Hm := hid hm
  clear hm
  obtain ⟨i, hi⟩ : ∃ i : Int, i = ((16 * p + q : Nat) : Int) := ⟨_, rfl⟩
  rw [← hi]
  have e1 : i / 16 = (p : Int) := by omega
  have e2 : i % 16 = (q : Int) := by omega
  have e3 : i.tdiv 16 = (p : Int) := by rw [Int.tdiv_eq_ediv_of_nonneg (by omega)]; omega
  have e4 : i.tmod 16 = (q : Int) := by rw [Int.tmod_eq_emod_of_nonneg (by omega)]; omega
  clear hi
  have HB := hid (((Below.refl w.heap.size w).alloc (Nat.le_refl _) (.cells (evAr e va vd vc) evT)).alloc (by simp) (.cells (evAr e' va' vd' vc') evT))
  have h0 := (Hb.arr w (evAr e va vd vc) evT).alloc (.cells (evAr e' va' vd' vc') evT)
  have h1 := Hb.arr (w.alloc (.cells (evAr e va vd vc) evT)) (evAr e' va' vd' vc') evT
  rw [show (w.alloc (.cells (evAr e va vd vc) evT)).heap.size = w.heap.size + 1 from by simp] at h1
  have c1 : ((w.alloc (.cells (evAr e va vd vc) evT)).alloc (.cells (evAr e' va' vd' vc') evT)).cell? ⟨w.heap.size, 12, none⟩ = some (.bool e.rd) := h0.cell (i := 12) (by simp)
  have c2 : ((w.alloc (.cells (evAr e va vd vc) evT)).alloc (.cells (evAr e' va' vd' vc') evT)).cell? ⟨w.heap.size, 13, none⟩ = some (.bool e.wr) := h0.cell (i := 13) (by simp)
  have c3 : ((w.alloc (.cells (evAr e va vd vc) evT)).alloc (.cells (evAr e' va' vd' vc') evT)).cell? ⟨w.heap.size + 1, 12, none⟩ = some (.bool e'.rd) := h1.cell (i := 12) (by simp)
  have c4 : ((w.alloc (.cells (evAr e va vd vc) evT)).alloc (.cells (evAr e' va' vd' vc') evT)).cell? ⟨w.heap.size + 1, 13, none⟩ = some (.bool e'.wr) := h1.cell (i := 13) (by simp)
  clear h0 h1
  go_enter Try.func25, Try.ntmps25
  go_upto_region 2 with (fail)
  generalize (w.alloc (.cells (evAr e va vd vc) evT)).alloc (.cells (evAr e' va' vd' vc') evT) = W at HB c1 c2 c3 c4 ⊢
  clear e1 e2 e3 e4
  have Hs : Hid (∀ a b c d : Bool, e.rd = a → e.wr = b → e'.rd = c → e'.wr = d → m = ((((p : Int) / 2 % 2 == 1 && a) || ((p : Int) % 2 == 1 && b)) && (((q : Int) / 2 % 2 == 1 && c) || ((q : Int) % 2 == 1 && d)))) := hid fun a b c d h1 h2 h3 h4 => by rw [Hm.out]; unfold incB; rw [h1, h2, h3, h4, iq2, iq1, iq2, iq1]
  clear Hm
  obtain ⟨ua, ha⟩ : ∃ u, e.rd = u := ⟨_, rfl⟩
  obtain ⟨ub, hb⟩ : ∃ u, e.wr = u := ⟨_, rfl⟩
  obtain ⟨uc, hc⟩ : ∃ u, e'.rd = u := ⟨_, rfl⟩
  obtain ⟨ud, hd⟩ : ∃ u, e'.wr = u := ⟨_, rfl⟩
  have HE := hid (Hs.out ua ub uc ud ha hb hc hd)
  rw [ha] at c1
  rw [hb] at c2
  rw [hc] at c3
  rw [hd] at c4
  clear Hs ha hb hc hd
  cases ua <;> cases ub <;> cases uc <;> cases ud
  all_goals
    go_wp2
    all_goals
      go_ret
      refine ⟨?_, HB.out⟩
      rw [HE.out]
      first
      | rfl
      | simp [*]
end
end Go.Proofs.Ytchjjbcmbdmlgaa
