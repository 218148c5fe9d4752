/- Layer 16: package ppo: the iterator over the events between two. -/
import Derived.Test.YtchjjbcmbdmlgaaK02
import Derived.Test.YtchjjbcmbdmlgaaK11
import Derived.Test.YtchjjbcmbdmlgaaK14
import Derived.Test.YtchjjbcmbdmlgaaInc16
import Derived.Shelf.Abstract
import Derived.Shelf.RegionOpen
import Derived.WalkKit
import Derived.OwnWalkIn
import Derived.TacticsInMore
import Derived.LoopNIn
import Derived.LoopIn
import Derived.Stop.RegionWithIn
set_option linter.unusedVariables false
set_option linter.unusedSimpArgs false
namespace Go.Proofs.Ytchjjbcmbdmlgaa
open Go Go.RowKit
def btw (p : Nat → Bool) (a c : Nat) : List Nat := (List.range c).filter fun m => decide (a < m) && p m
theorem btw_succ (p : Nat → Bool) (a c : Nat) : btw p a (c + 1) = btw p a c ++ (if (decide (a < c) && p c) = true then [c] else []) := by
  unfold btw
  rw [List.range_succ, List.filter_append]
  cases h : (decide (a < c) && p c) <;> simp [h]
theorem btw_at (p : Nat → Bool) {a c : Nat} (h1 : a < c) (h2 : p c = true) : ∀ n, c < n → (btw p a n)[(btw p a c).length]? = some c
  | 0, h => by omega
  | n + 1, h => by
    rw [btw_succ]
    by_cases e : c = n
    · subst e
      rw [List.getElem?_append_right (Nat.le_refl _), Nat.sub_self, decide_eq_true h1, h2]; rfl
    · have ih := btw_at p h1 h2 n (by omega)
      rw [List.getElem?_append_left (List.getElem?_eq_some_iff.1 ih).1]
      exact ih
theorem btw_start (p : Nat → Bool) (a : Nat) : btw p a (a + 1) = [] := by
  unfold btw
  rw [List.filter_eq_nil_iff]
  intro x hx
  rw [List.mem_range] at hx
  rw [decide_eq_false (by omega)]; simp
theorem btw_make (q : Option Addr) (n cap : Nat) (a c : Int) (w : World) (F : Fence) (m : Nat) (hF : F.fn 28) (hro : F.round = none) : CallsIn F m Try.prog 28 #[.slice q n cap, .int .i64 a, .int .i64 c] w fun e w' => e = .returned (.func (.func 47) #[] #[.pointer (some ⟨w.heap.size + 1, 0, none⟩), .pointer (some ⟨w.heap.size + 2, 0, none⟩), .pointer (some ⟨w.heap.size, 0, none⟩)]) ∧ w' = ((w.alloc (.cells #[.slice q n cap] 30)).alloc (.cells #[.int .i64 a] 3)).alloc (.cells #[.int .i64 c] 3) := by
  refine callsIn_of_wp Try.func28 rfl hF ?_ hro
  simp only [Try.ntmps28, List.size_toArray, List.length_cons, List.length_nil, Nat.reduceAdd, Nat.reduceSub, Array.replicate_succ, Array.replicate_zero, List.push_toArray, List.append_toArray, List.nil_append, List.cons_append]
  gi_wp2
  go_ret
  exact ⟨rfl, rfl⟩
def sameH (E : EvsZ) (a : Nat) (m : Nat) : Bool := (E.e m).ht == (E.e a).ht
set_option maxRecDepth 100000 in
set_option maxHeartbeats 2000000 in
theorem btw1_tells (E : EvsZ) (a c n cap : Nat) (q : Addr) (b0 o0 : Nat) (hq : q = ⟨b0, o0, none⟩) (hac : a < c) (hcn : c ≤ n) (hn : n ≤ 100000) (ok : Nat → TypeId → Prop) (Ba Bc Bl : Nat) (w : World)
    (hA : Hb w Ba 3 1 (fun _ => .int .i64 a)) (hC : Hb w Bc 3 1 (fun _ => .int .i64 c)) (hL : Hb w Bl 30 1 (fun _ => .slice (some q) n cap)) (k1 : ∀ b, ¬ ok b 3) (k2 : ∀ b, ¬ ok b 30)
    (hE : ∀ W, Kc ok w W → ∀ i, i < n → W.cell? ⟨b0, o0 + i * 23, none⟩ = some (.int .i64 (E.e i).ht)) :
    Tells false Try.prog 47 #[.pointer (some ⟨Ba, 0, none⟩), .pointer (some ⟨Bc, 0, none⟩), .pointer (some ⟨Bl, 0, none⟩)] ((btw (sameH E a) a c).map fun (x : Nat) => #[.int .i64 x, .pointer (some ⟨b0, o0 + x * 23, none⟩)]) ok w := fun l J Jx W hW hJ hJx hY h0 m => by
  subst hq
  have hA1 := hA.kc hW (k1 _)
  have hC1 := hC.kc hW (k1 _)
  have hL1 := hL.kc hW (k2 _)
  have HE := hid hE
  have HY := hid hY
  have HJ := hid hJ
  clear hE hY hA hC hL
  refine callsIn_of_wp Try.func47 rfl trivial ?_ rfl
  simp only [Try.ntmps47, List.size_toArray, List.length_cons, List.length_nil, Nat.reduceAdd, Nat.reduceSub, Array.replicate_succ, Array.replicate_zero, List.push_toArray, List.append_toArray, List.nil_append, List.cons_append]
  have ca := hA1.cell (i := 0) (by omega)
  gi_wp2
  gi_loopw [5] (fun i wr => ∃ j : Nat, a + 1 ≤ j ∧ j ≤ c ∧ i = .int .i64 j ∧ Hb wr Ba 3 1 (fun _ => .int .i64 a) ∧ Hb wr Bc 3 1 (fun _ => .int .i64 c) ∧ Hb wr Bl 30 1 (fun _ => .slice (some ⟨b0, o0, none⟩) n cap) ∧ Kc ok w wr ∧ J (btw (sameH E a) a j).length wr) (fun i _ => c - (intOf i).toNat)
  case atStart => exact ⟨a + 1, Nat.le_refl _, by omega, by go_num, hA1, hC1, hL1, hW, by rw [btw_start]; exact h0⟩
  case round =>
    obtain ⟨j, hj1, hj2, rfl, hA2, hC2, hL2, hW2, hJ2⟩ := hrel
    have c2 := hC2.cell (i := 0) (by omega)
    by_cases hlt : j < c
    · have c1 := hA2.cell (i := 0) (by omega)
      have c3 := hL2.cell (i := 0) (by omega)
      have e1 := HE.out wr hW2 j (by omega)
      have e2 := HE.out wr hW2 a (by omega)
      have hjn : j < n := by omega
      have han : a < n := by omega
      have HJ2 := hid hJ2
      have HW2 := hid hW2
      have HA2 := hid hA2
      have HC2 := hid hC2
      have HL2 := hid hL2
      clear hJ2 hW2 hA2 hC2 hL2
      obtain ⟨x1, hx1⟩ : ∃ x, (E.e j).ht = x := ⟨_, rfl⟩
      obtain ⟨x2, hx2⟩ : ∃ x, (E.e a).ht = x := ⟨_, rfl⟩
      rw [hx1] at e1
      rw [hx2] at e2
      have hsame : Hid (sameH E a j = (x1 == x2)) := hid (by unfold sameH; rw [hx1, hx2])
      have Hx1 := hid hx1
      have Hx2 := hid hx2
      clear hx1 hx2
      by_cases hx : x1 = x2
      · subst hx
        have hp : sameH E a j = true := by rw [hsame.out]; simp
        have hb := btw_at (sameH E a) (show a < j by omega) hp c hlt
        have hxs : ((btw (sameH E a) a c).map fun (x : Nat) => #[Value.int .i64 x, .pointer (some ⟨b0, o0 + x * 23, none⟩)])[(btw (sameH E a) a j).length]? = some #[Value.int .i64 j, .pointer (some ⟨b0, o0 + j * 23, none⟩)] := by
          rw [List.getElem?_map, hb]; rfl
        have hlen : (btw (sameH E a) a (j + 1)).length = (btw (sameH E a) a j).length + 1 := by rw [btw_succ, decide_eq_true (show a < j by omega), hp]; simp
        have Hlen := hid hlen
        have hJd := ownFrom_drew HJ.out HJ2.out
        obtain ⟨fn, tmps, assign, body, hy, hR⟩ := HY.out _ _ wr.drew (m - 1) hxs hJd
        clear hp hb hxs hlen hJd hsame
        gi_wp2
        have d1 : wr.drew.cell? ⟨Ba, 0, none⟩ = some (.int .i64 a) := c1
        have d3 : wr.drew.cell? ⟨Bl, 0, none⟩ = some (.slice (some ⟨b0, o0, none⟩) n cap) := c3
        have f1 : wr.drew.cell? ⟨b0, o0 + j * 23, none⟩ = some (.int .i64 x1) := e1
        have f2 : wr.drew.cell? ⟨b0, o0 + a * 23, none⟩ = some (.int .i64 x1) := e2
        refine regionI_calm (fun U => U.cell? ⟨Ba, 0, none⟩ = some (.int .i64 a) ∧ U.cell? ⟨Bl, 0, none⟩ = some (.slice (some ⟨b0, o0, none⟩) n cap) ∧ U.cell? ⟨b0, o0 + j * 23, none⟩ = some (.int .i64 x1) ∧ U.cell? ⟨b0, o0 + a * 23, none⟩ = some (.int .i64 x1)) 17 [0, 1, 2, 3, 4, 5, 6, 7, 8, 9, 10, 11, 12, 13, 14, 15, 16] 3 (by rfl) (by kernel_rfl) (by kernel_rfl) (by kernel_rfl) (by kernel_rfl) ⟨d1, d3, f1, f2⟩ ?_
        iterate 17
          refine take_pure _ rfl (by rfl) (fun W hSW => by (obtain ⟨s0, s1, s2, s3⟩ := hSW; go_simp; try with_reducible rfl)) ?_
          simp only [Act.put, List.getElem_toArray, List.getElem_cons_succ, List.getElem_cons_zero, List.setIfInBounds_toArray, List.set_cons_zero, List.set_cons_succ]
        refine take_done ?_
        refine lastI_wp (i := 17) _ (by kernel_rfl) rfl (by rfl) fun K' hK => ?_
        unfold Oper.wpIn
        refine ⟨fun f _ => trivial, ?_⟩
        rw [show Fence.wide.round = none from rfl, Oper.semAt_none]
        have HK := hid hK
        clear hK
        go_simp
        refine ⟨(fun h => by cases h), hR.mono ?_⟩
        rintro e W5 (⟨rfl, hJ5, hk5⟩ | ⟨h, _⟩)
        · have hW5 : Kc ok w W5 := HW2.out.drew.trans hk5
          have hA5 := (show Hb wr.drew Ba 3 1 (fun _ => .int .i64 a) from HA2.out).kc hk5 (k1 _)
          have hC5 := (show Hb wr.drew Bc 3 1 (fun _ => .int .i64 c) from HC2.out).kc hk5 (k1 _)
          have hL5 := (show Hb wr.drew Bl 30 1 (fun _ => .slice (some ⟨b0, o0, none⟩) n cap) from HL2.out).kc hk5 (k2 _)
          have S5 : W5.cell? ⟨Ba, 0, none⟩ = some (.int .i64 a) ∧ W5.cell? ⟨Bl, 0, none⟩ = some (.slice (some ⟨b0, o0, none⟩) n cap) ∧ W5.cell? ⟨b0, o0 + j * 23, none⟩ = some (.int .i64 x1) ∧ W5.cell? ⟨b0, o0 + a * 23, none⟩ = some (.int .i64 x1) := ⟨hA5.cell (i := 0) (by omega), hL5.cell (i := 0) (by omega), (by rw [HE.out W5 hW5 j (by omega), Hx1.out]), (by rw [HE.out W5 hW5 a (by omega), Hx2.out])⟩
          refine HK.out _ _ ⟨.inl rfl, ?_⟩
          refine lastI_op (i := 18) (w' := W5) _ (by kernel_rfl) rfl (by rfl) (by go_simp; try with_reducible rfl) (.inr S5) ?_
          simp only [Act.put, List.getElem_toArray, List.getElem_cons_succ, List.getElem_cons_zero, List.setIfInBounds_toArray, List.set_cons_zero, List.set_cons_succ]
          refine lastI_op (i := 19) (w' := W5) _ (by kernel_rfl) rfl (by rfl) (by go_simp; try with_reducible rfl) (.inr S5) ?_
          simp only [Act.put, List.getElem_toArray, List.getElem_cons_succ, List.getElem_cons_zero, List.setIfInBounds_toArray, List.set_cons_zero, List.set_cons_succ]
          refine lastI_done (by kernel_rfl) ?_
          have HA5 := hid hA5
          have HC5 := hid hC5
          have HL5 := hid hL5
          have HW5 := hid hW5
          have HJ5 := hid hJ5
          clear hA5 hC5 hL5 hW5 hJ5 S5 hk5 d1 d3 f1 f2 hy hR HK
          gi_wp2
          go_roundw
          case rel => exact ⟨j + 1, by omega, by omega, by go_num, HA5.out, HC5.out, HL5.out, HW5.out, by rw [Hlen.out]; exact HJ5.out⟩
          case measure => simp [intOf]; omega
        · cases h
      · have hg : (x1 == x2) = false := by simpa using hx
        have hlen : (btw (sameH E a) a (j + 1)).length = (btw (sameH E a) a j).length := by rw [btw_succ, hsame.out, hg]; simp
        have Hlen := hid hlen
        clear hx hlen hsame
        gi_wp2
        have d1 : wr.drew.cell? ⟨Ba, 0, none⟩ = some (.int .i64 a) := c1
        have d3 : wr.drew.cell? ⟨Bl, 0, none⟩ = some (.slice (some ⟨b0, o0, none⟩) n cap) := c3
        have f1 : wr.drew.cell? ⟨b0, o0 + j * 23, none⟩ = some (.int .i64 x1) := e1
        have f2 : wr.drew.cell? ⟨b0, o0 + a * 23, none⟩ = some (.int .i64 x2) := e2
        refine regionI_calm (fun U => U = wr.drew) 19 [0, 1, 2, 3, 4, 5, 6, 7, 8, 9, 10, 11, 12, 13, 14, 15, 16, 17, 18] 1 (by rfl) (by kernel_rfl) (by kernel_rfl) (by kernel_rfl) (by kernel_rfl) rfl ?_
        iterate 19
          first
          | refine take_off _ rfl (by rfl) ?_
          | refine take_pure _ rfl (by rfl) (fun W hSW => by (subst hSW; go_simp; try with_reducible rfl)) ?_
          simp only [Act.put, List.getElem_toArray, List.getElem_cons_succ, List.getElem_cons_zero, List.setIfInBounds_toArray, List.set_cons_zero, List.set_cons_succ]
        refine take_done ?_
        refine lastI_op (i := 19) (w' := wr.drew) _ (by kernel_rfl) rfl (by rfl) (by go_simp; try with_reducible rfl) (.inl rfl) ?_
        simp only [Act.put, List.getElem_toArray, List.getElem_cons_succ, List.getElem_cons_zero, List.setIfInBounds_toArray, List.set_cons_zero, List.set_cons_succ]
        refine lastI_done (by kernel_rfl) ?_
        gi_wp2
        go_roundw
        case rel => exact ⟨j + 1, by omega, by omega, by go_num, HA2.out, HC2.out, HL2.out, HW2.out.drew, by rw [Hlen.out]; exact ownFrom_drew HJ.out HJ2.out⟩
        case measure => simp [intOf]; omega
    · obtain rfl : j = c := by omega
      gi_wp2
      go_end0
      exact ⟨⟨_, rfl⟩, .inl (by rw [List.length_map]; exact hJ2)⟩
end Go.Proofs.Ytchjjbcmbdmlgaa
