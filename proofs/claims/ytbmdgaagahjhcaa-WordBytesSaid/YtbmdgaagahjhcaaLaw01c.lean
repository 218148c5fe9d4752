/- The walks of WordBytes and WordPlaces. -/
import Derived.Test.YtbmdgaagahjhcaaLaw01
import Derived.Test.YtbmdgaagahjhcaaOpen
import Derived.Deep.RegionHeld3
namespace Go.Proofs.Ytbmdgaagahjhcaa
open Go.RowKit

theorem wordBytes_walk (x : Nat) (v : Int) (w : World) (hx : x < 4294967296) (h0 : -9223372036854775808 ≤ v) (h1 : v ≤ 9223372036854775807) :
    Calls Try.prog 6 #[.int .u32 x, .int .i64 v] w (Holds w) := by
  have ha := hid awake_any
  go_enter Try.func6, Try.ntmps6
  go_wp2_with fail
  refine (bytes_any x _ hx).mono ?_
  rintro e w1 ⟨u1, rfl, hu1, hb1⟩
  go_wp2_with fail
  refine (long_any v _).mono ?_
  rintro e w2 ⟨u2, rfl, hu2, hb2⟩
  have hu1 := hu1.below hb2
  go_wp2_with fail
  refine (word_back hu1 hx).mono ?_
  rintro e w' ⟨rfl, rfl⟩
  go_wp2_with fail
  refine (number_back hu2 (u64N_lt v)).mono ?_
  rintro e w' ⟨rfl, rfl⟩
  have hi := i64N_u64N v h0 h1
  have hq := u64N_eq v
  go_wp2_with fail
  refine (refBytes_any x 4 _ (by omega) (by omega)).mono ?_
  rintro e w3 ⟨u3, rfl, hu3, hb3⟩
  go_wp2_with fail
  refine (refSame_yes (by rw [bytesN_len]; omega) ((hu1.more hb2.size).below hb3) hu3).mono ?_
  rintro e w' ⟨rfl, m1, rfl⟩
  go_wp2_with fail
  refine (refBytes_any (u64N v) 8 _ (u64N_lt v) (by omega)).mono ?_
  rintro e w4 ⟨u4, rfl, hu4, hb4⟩
  go_wp2_with fail
  refine (refSame_yes (by rw [bytesN_len]; omega) ((((hu2.below hb3).more hb3.size).draws m1).below hb4) hu4).mono ?_
  rintro e w' ⟨rfl, m2, rfl⟩
  go_wp2_with fail
  refine (ha.out _).mono ?_
  rintro e w5 ⟨rfl, hb5⟩
  go_wp2
  go_ret
  have c2 := hb1.trans (hb2.mono hb1.size)
  have c3 := below_draws (c2.trans (hb3.mono c2.size)) m1
  have c4 := below_draws (c3.trans (hb4.mono c3.size)) m2
  exact Holds.mk (c4.trans (hb5.mono c4.size))
theorem wordBytes_law (x v : Int) (w : World) (hx : (Lit.int .u32 x).wf = true) (hv : (Lit.int .i64 v).wf = true) :
    Calls Try.prog 6 #[.int .u32 x, .int .i64 v] w (Holds w) := by
  have hx := bounds_u32 hx
  have hv := bounds_i64 hv
  obtain ⟨x, rfl⟩ : ∃ m : Nat, x = m := ⟨x.toNat, by omega⟩
  exact wordBytes_walk x v w (by omega) hv.1 hv.2
theorem sub_und : Try.prog.underlying 37 = some (.slice (Try.prog.elem 37)) := by kernel_rfl
theorem sub_one (W : World) : (sizeOf (Try.prog.elem 37)).run Try.prog W = .ok 1 W := by kernel_rfl
/-- A part of a row of bytes, as a slice. -/
theorem part_rd {w : World} {b off cap : Nat} {f : Nat → Nat} (p n c : Nat) (hb : b < w.heap.size) (hf : ∀ i, i < cap → w.cell? ⟨b, off + i, none⟩ = some (.int .u8 (f i : Nat))) (h : p + n ≤ cap) :
    RdB w w.heap.size (.slice (some ⟨b, off + p, none⟩) n c) ((List.range n).map fun i => f (p + i)) := by
  refine ⟨_, c, by simp, fun _ => ⟨b, off + p, rfl, hb, fun i hi => ?_⟩⟩
  simp at hi
  rw [Nat.add_assoc, hf (p + i) (by omega)]
  simp [hi]
theorem wordPlaces_none (a : Option Addr) (len cap : Nat) (p : Int) (w : World) (hl : len ≤ 9223372036854775807) (hp0 : -9223372036854775808 ≤ p) (hp1 : p ≤ 9223372036854775807) (h : p < 0 ∨ len < p ∨ len - p < 4) :
    Calls Try.prog 7 #[.slice a len cap, .int .i64 p] w (Holds w) := by
  have ha := hid awake_any
  have hw := hid (fun W => word_no W a len cap p hl (by omega))
  have hn := hid (fun W => number_no W a len cap p hl (by omega))
  by_cases c1 : p < 0
  · clear h
    go_enter Try.func7, Try.ntmps7
    go_wp2_with (first | (go_at_call 18; (with_reducible refine (hw.out _).mono ?_); rintro e w' ⟨rfl, rfl⟩) | (go_at_call 19; (with_reducible refine (hn.out _).mono ?_); rintro e w' ⟨rfl, rfl⟩) | (go_at_call 10; refine (ha.out _).mono ?_; rintro e w' ⟨rfl, hb⟩))
    go_ret
    exact Holds.mk hb
  by_cases c2 : len < p
  · clear h
    go_enter Try.func7, Try.ntmps7
    go_wp2_with (first | (go_at_call 18; (with_reducible refine (hw.out _).mono ?_); rintro e w' ⟨rfl, rfl⟩) | (go_at_call 19; (with_reducible refine (hn.out _).mono ?_); rintro e w' ⟨rfl, rfl⟩) | (go_at_call 10; refine (ha.out _).mono ?_; rintro e w' ⟨rfl, hb⟩))
    go_ret
    exact Holds.mk hb
  have c3 : len - p < 4 := by omega
  clear h
  go_enter Try.func7, Try.ntmps7
  go_wp2_with (first | (go_at_call 18; (with_reducible refine (hw.out _).mono ?_); rintro e w' ⟨rfl, rfl⟩) | (go_at_call 19; (with_reducible refine (hn.out _).mono ?_); rintro e w' ⟨rfl, rfl⟩) | (go_at_call 10; refine (ha.out _).mono ?_; rintro e w' ⟨rfl, hb⟩))
  go_ret
  exact Holds.mk hb
theorem wordPlaces_four (b off len cap p : Nat) (f : Nat → Nat) (w : World) (hl : len ≤ 9223372036854775807) (hc : len ≤ cap) (h4 : p + 4 ≤ len) (h8 : len < p + 8) (hb : b < w.heap.size)
    (hf : ∀ i, i < cap → w.cell? ⟨b, off + i, none⟩ = some (.int .u8 (f i : Nat))) (hu : ∀ i, f i < 256) :
    Calls Try.prog 7 #[.slice (some ⟨b, off, none⟩) len cap, .int .i64 p] w (Holds w) := by
  have ha := hid awake_any
  have hw := hid (word_yes w b off len cap p (fun i => f (p + i)) hl h4 (fun i hi => hf (p + i) (by omega)) (fun i => hu (p + i)))
  have hn := hid (fun W => number_no W (some ⟨b, off, none⟩) len cap p hl (by omega))
  have hr := hid (part_rd (w := w) p 4 (cap - p) hb hf (by omega))
  have hj : joinN (fun i => f (p + i)) 4 < 4294967296 := joinN_lt _ 4 (fun i => hu (p + i))
  have hbs := bytes_join (fun i => f (p + i)) (fun i => hu (p + i)) 4
  rw [← hbs] at hr
  have hrd : RdB w.drew w.drew.heap.size _ _ := hr.out
  have hrb0 : ∀ W, Calls Try.prog 21 #[.int .u64 (joinN (fun i => f (p + i)) 4 : Nat), .int .i64 4] W (MkB W (bytesN (joinN (fun i => f (p + i)) 4) 4)) := fun W => refBytes_any (joinN (fun i => f (p + i)) 4) 4 W (by omega) (by omega)
  have hrb := hid hrb0
  clear hrb0
  clear hf hu hbs
  generalize joinN (fun i => f (p + i)) 4 = x at *
  have hwx : IntKind.u64.wrap (x : Int) = x := by rw [IntKind.wrap_u64]; omega
  have hs1 : IntKind.i64.wrap ((p : Int) + 4) = (p : Int) + 4 := IntWalk.i64_in _ (by omega)
  have hsl := run_sub (P := Try.prog) sub_und sub_one b off len cap p 4 (by omega) (by omega) ((p : Int) + 4) rfl
  go_enter Try.func7, Try.ntmps7
  go_wp2_with (first | (go_at_call 18; (with_reducible refine hw.out.mono ?_); rintro e w' ⟨rfl, rfl⟩) | (go_at_call 19; (with_reducible refine (hn.out _).mono ?_); rintro e w' ⟨rfl, rfl⟩) | fail)
  go_region_held3 (fun _ => True) (trivial) (first | (go_at_call 21; (with_reducible refine (hrb.out _).mono ?_); rintro e w3 ⟨u3, rfl, hu3, hb3⟩) | (go_at_call 20; (with_reducible refine (refSame_yes ?_ hu3 (hrd.below hb3)).mono ?_); (rw [bytesN_len]; omega); rintro e w' ⟨rfl, m, rfl⟩))
  go_wp2_with (go_at_call 10; refine (ha.out _).mono ?_; rintro e w4 ⟨rfl, hb4⟩)
  go_ret
  have c3 := below_draws (below_draws (Below.refl w.heap.size w) 1 |>.trans hb3) m
  exact Holds.mk (c3.trans (hb4.mono c3.size))
theorem wordPlaces_eight (b off len cap p : Nat) (f : Nat → Nat) (w : World) (hl : len ≤ 9223372036854775807) (hc : len ≤ cap) (h8 : p + 8 ≤ len) (hb : b < w.heap.size)
    (hf : ∀ i, i < cap → w.cell? ⟨b, off + i, none⟩ = some (.int .u8 (f i : Nat))) (hu : ∀ i, f i < 256) :
    Calls Try.prog 7 #[.slice (some ⟨b, off, none⟩) len cap, .int .i64 p] w (Holds w) := by
  have ha := hid awake_any
  have hw := hid (word_yes w b off len cap p (fun i => f (p + i)) hl (by omega) (fun i hi => hf (p + i) (by omega)) (fun i => hu (p + i)))
  have hn := hid (number_yes w b off len cap p (fun i => f (p + i)) hl h8 (fun i hi => hf (p + i) (by omega)) (fun i => hu (p + i)))
  have hr := hid (part_rd (w := w) p 4 (cap - p) hb hf (by omega))
  have hr8 := hid (part_rd (w := w) p 8 (cap - p) hb hf (by omega))
  have hj : joinN (fun i => f (p + i)) 4 < 4294967296 := joinN_lt _ 4 (fun i => hu (p + i))
  have hj8 : joinN (fun i => f (p + i)) 8 < 18446744073709551616 := joinN_lt _ 8 (fun i => hu (p + i))
  rw [← bytes_join (fun i => f (p + i)) (fun i => hu (p + i)) 4] at hr
  rw [← bytes_join (fun i => f (p + i)) (fun i => hu (p + i)) 8] at hr8
  clear hf hu
  generalize joinN (fun i => f (p + i)) 4 = x at *
  generalize joinN (fun i => f (p + i)) 8 = y at *
  have hrd : RdB w.drew w.drew.heap.size _ _ := hr.out
  have hrb0 : ∀ W, Calls Try.prog 21 #[.int .u64 (x : Nat), .int .i64 4] W (MkB W (bytesN x 4)) := fun W => refBytes_any x 4 W (by omega) (by omega)
  have hrb := hid hrb0
  have hrb1 : ∀ W, Calls Try.prog 21 #[.int .u64 (y : Nat), .int .i64 8] W (MkB W (bytesN y 8)) := fun W => refBytes_any y 8 W (by omega) (by omega)
  have hrb8 := hid hrb1
  clear hrb0 hrb1
  have hwx : IntKind.u64.wrap (x : Int) = x := by rw [IntKind.wrap_u64]; omega
  have hwy := u64_i64N y hj8
  have hs1 : IntKind.i64.wrap ((p : Int) + 4) = (p : Int) + 4 := IntWalk.i64_in _ (by omega)
  have hs8 : IntKind.i64.wrap ((p : Int) + 8) = (p : Int) + 8 := IntWalk.i64_in _ (by omega)
  have hsl := run_sub (P := Try.prog) sub_und sub_one b off len cap p 4 (by omega) (by omega) ((p : Int) + 4) rfl
  have hsl8 := run_sub (P := Try.prog) sub_und sub_one b off len cap p 8 (by omega) (by omega) ((p : Int) + 8) rfl
  go_enter Try.func7, Try.ntmps7
  go_wp2_with (first | (go_at_call 18; (with_reducible refine hw.out.mono ?_); rintro e w' ⟨rfl, rfl⟩) | (go_at_call 19; (with_reducible refine hn.out.mono ?_); rintro e w' ⟨rfl, rfl⟩) | fail)
  go_region_held3 (fun _ => True) (trivial) (first | (go_at_call 21; (with_reducible refine (hrb.out _).mono ?_); rintro e w3 ⟨u3, rfl, hu3, hb3⟩) | (go_at_call 20; (with_reducible refine (refSame_yes ?_ hu3 (hrd.below hb3)).mono ?_); (rw [bytesN_len]; omega); rintro e w' ⟨rfl, m, rfl⟩))
  go_wp2_with fail
  have hrd0 : RdB w.drew w.drew.heap.size _ _ := hr8.out
  have hrd8 : RdB (w3.drewN (m + 1)) (w3.drewN (m + 1)).heap.size _ _ := (hrd0.below hb3).more hb3.size
  clear hrd0
  go_region_held3 (fun _ => True) (trivial) (first | (go_at_call 21; (with_reducible refine (hrb8.out _).mono ?_); rintro e w4 ⟨u4, rfl, hu4, hb4⟩) | (go_at_call 20; (with_reducible refine (refSame_yes ?_ hu4 (hrd8.below hb4)).mono ?_); (rw [bytesN_len]; omega); rintro e w' ⟨rfl, k, rfl⟩) | (go_at_call 10; refine (ha.out _).mono ?_; rintro e w5 ⟨rfl, hb5⟩))
  go_wp2
  go_ret
  have c3 := below_draws (below_draws (Below.refl w.heap.size w) 1 |>.trans hb3) (m + 1)
  have c4 := below_draws (c3.trans (hb4.mono c3.size)) k
  exact Holds.mk (c4.trans (hb5.mono c4.size))
theorem wordPlaces_law (a : Option Addr) (len cap : Nat) (zs : List Int) (p : Int) (w : World) (hs : SliceIn .u8 w a len cap zs) (hp : (Lit.int .i64 p).wf = true) :
    Calls Try.prog 7 #[.slice a len cap, .int .i64 p] w (Holds w) := by
  have hp := bounds_i64 hp
  obtain ⟨hl, hm, hz, hwz, hc⟩ := hs
  unfold maxLen at hm
  by_cases h : p < 0 ∨ len < p ∨ len - p < 4
  · exact wordPlaces_none a len cap p w (by omega) hp.1 hp.2 h
  · obtain ⟨p, rfl⟩ : ∃ m : Nat, p = m := ⟨p.toNat, by omega⟩
    obtain ⟨b, off, rfl, hb, hc⟩ := hc (by omega)
    have hr := range_u8 hwz
    obtain ⟨f, hfe⟩ : ∃ f : Nat → Nat, ∀ i, f i = (zs[i]?.getD 0 : Int).toNat := ⟨_, fun _ => rfl⟩
    have hf : ∀ i, i < cap → w.cell? ⟨b, off + i, none⟩ = some (.int .u8 (f i : Nat)) := fun i hi => by
      have := hr i
      rw [hc i hi, List.getD_eq_getElem?_getD, hfe, Int.toNat_of_nonneg (by omega)]
    have hu : ∀ i, f i < 256 := fun i => by have := hr i; rw [hfe]; omega
    by_cases h8 : p + 8 ≤ len
    · exact wordPlaces_eight b off len cap p _ w (by omega) hl h8 hb hf hu
    · exact wordPlaces_four b off len cap p _ w (by omega) hl (by omega) (by omega) hb hf hu
end Go.Proofs.Ytbmdgaagahjhcaa