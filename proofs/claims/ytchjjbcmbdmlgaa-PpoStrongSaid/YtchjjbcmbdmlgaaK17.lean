/- Evx16, Lwr16. -/
import Derived.Test.YtchjjbcmbdmlgaaK13
import Derived.Test.YtchjjbcmbdmlgaaK15
import Derived.Test.YtchjjbcmbdmlgaaEvn16
set_option linter.unusedVariables false
set_option linter.unusedSimpArgs false
namespace Go.Proofs.Ytchjjbcmbdmlgaa
open Go Go.RowKit
def LsR (w : World) (v : Value) (N k : Nat) (F : Nat → Int) : Prop := Rise N k F ∧ k ≤ N ∧ ∀ W, Below w.heap.size w W → RdL W v k F
theorem lsr_of {w : World} {N : Nat} {v : Value} (h : LsW w [] N v) : ∃ k F, LsR w v N k F := by
  obtain ⟨q, k, c, F, rfl, hr, hx⟩ := h
  refine ⟨k, F, hr, hr.len, fun W hW => ⟨q, c, rfl, fun hp => ?_⟩⟩
  obtain ⟨b, o, rfl, hb, _, hc⟩ := hx hp
  exact ⟨b, o, rfl, fun i hi => (hW.cell (p := ⟨b, _, none⟩) hb).trans (hc i hi)⟩
theorem pick_ls {w : World} {N n : Nat} {f : Nat → Value} (h : ∀ i, i < n → LsW w [] N (f i)) : ∃ (nA : Nat → Nat) (FA : Nat → Nat → Int), ∀ i, i < n → LsR w (f i) N (nA i) (FA i) := by
  have h2 : ∀ i, ∃ p : Nat × (Nat → Int), i < n → LsR w (f i) N p.1 p.2 := fun i => by
    by_cases hi : i < n
    · obtain ⟨k, F, hk⟩ := lsr_of (h i hi)
      exact ⟨(k, F), fun _ => hk⟩
    · exact ⟨(0, fun _ => 0), fun h => absurd h hi⟩
  exact ⟨fun i => (Classical.choose (h2 i)).1, fun i => (Classical.choose (h2 i)).2, fun i hi => Classical.choose_spec (h2 i) hi⟩
theorem evsX_of {w : World} {v : Value} {n : Nat} {E : EvsZ} (h : EvsOk w v n E) (hn : n ≤ 1000) (hp : 0 < n) :
    ∃ b0 o0 cap nA nD nC FA FD FC, v = .slice (some ⟨b0, o0, none⟩) n cap ∧ EvsX w b0 o0 n E nA nD nC FA FD FC ∧ (∀ i, i < n → ((E.e i).rd || (E.e i).wr) = true → (E.e i).kn = true) ∧ ∀ i, i < n → Rise n (nA i) (FA i) ∧ Rise n (nD i) (FD i) ∧ Rise n (nC i) (FC i) := by
  obtain ⟨⟨q, cap, rfl, hx⟩, up, kn, fe, ls⟩ := h
  obtain ⟨b0, o0, rfl, hc⟩ := hx hp
  have hb : b0 < w.heap.size := by
    have h0 := hc 0 hp 0 (by omega)
    unfold World.cell? at h0
    cases hk : w.heap[b0]? with
    | none => rw [hk] at h0; cases h0
    | some x => exact (Array.getElem?_eq_some_iff.1 hk).1
  obtain ⟨nA, FA, hA⟩ := pick_ls fun i hi => (ls i hi).1
  obtain ⟨nD, FD, hD⟩ := pick_ls fun i hi => (ls i hi).2.1
  obtain ⟨nC, FC, hC⟩ := pick_ls fun i hi => (ls i hi).2.2
  refine ⟨b0, o0, cap, nA, nD, nC, FA, FD, FC, rfl, ⟨fun W hW i hi k hk => (hW.cell (p := ⟨b0, _, none⟩) hb).trans (hc i hi k hk), fun W hW i hi => (hA i hi).2.2 W hW, fun W hW i hi => (hD i hi).2.2 W hW, fun W hW i hi => (hC i hi).2.2 W hW, fun i hi => ?_, up, fe, hn⟩, kn, fun i hi => ⟨(hA i hi).1, (hD i hi).1, (hC i hi).1⟩⟩
  have := (hA i hi).2.1
  have := (hD i hi).2.1
  have := (hC i hi).2.1
  omega
end Go.Proofs.Ytchjjbcmbdmlgaa
namespace Go.Proofs.Ytchjjbcmbdmlgaa
open Go Go.RowKit Sim
def BQ (w : World) (v : Value) : Ending → World → Prop := fun x w' => x = .returned v ∧ Below w.heap.size w w'
structure RuleOk (w : World) (v : Value) (R : Int → Int → Int) (G : Int → Int → Int → Bool) : Prop where
  pr : ∀ W, Below w.heap.size w W → ∀ a c, Calls Try.prog 7 #[v, .int .i64 a, .int .i64 c] W (BQ W (.int .i64 (R a c)))
  rr : ∀ W, Below w.heap.size w W → ∀ a c, Calls Try.prog 8 #[v, .int .i64 a, .int .i64 c] W (BQ W (.int .i64 (R a c)))
  ph : ∀ W, Below w.heap.size w W → ∀ k a c, Calls Try.prog 9 #[v, .int .i64 k, .int .i64 a, .int .i64 c] W (BQ W (.bool (G k a c)))
  rh : ∀ W, Below w.heap.size w W → ∀ k a c, Calls Try.prog 10 #[v, .int .i64 k, .int .i64 a, .int .i64 c] W (BQ W (.bool (G k a c)))
def EvP (w : World) : Ending → World → Prop := fun x w' => ∃ q n cap E, x = .returned (.slice q n cap) ∧ EvsOk w' (.slice q n cap) n E ∧ n ≤ 120 ∧ Below w.heap.size w w'
set_option maxHeartbeats 4000000 in
set_option maxRecDepth 100000 in
theorem events_p (qc qd qe qh qr : Option Addr) (nc cc nd cd ne ce nh ch nr cr : Nat) (L : Nat → Nat) (hn : nc ≤ maxLen) (hnd : nd ≤ maxLen) (w : World) (hcode : RdW w w.heap.size .u32 qc nc) (hent : RdW w w.heap.size .i64 qe ne) (hc : CdW w w.heap.size qh nh qr nr) (hN : CdN w w.heap.size qh nh L) (W0 : World) (hB : Below w.heap.size w W0) :
    Calls Try.prog 6 #[.agg #[.slice qc nc cc, .slice qd nd cd, .slice qe ne ce], .agg #[.slice qh nh ch, .slice qr nr cr]] W0 (EvP W0) := by
  have up : ∀ {k : IntKind} {q : Option Addr} {n : Nat}, RdW w w.heap.size k q n → RdW W0 W0.heap.size k q n := fun h hp => by
    obtain ⟨b, o, e1, h1, h2⟩ := (h.below hB) hp
    exact ⟨b, o, e1, Nat.lt_of_lt_of_le h1 hB.size, h2⟩
  have hN2 : CdN W0 W0.heap.size qh nh L := fun hp => by
    obtain ⟨b, o, e1, h1, h2⟩ := (hN.below hB) hp
    refine ⟨b, o, e1, Nat.lt_of_lt_of_le h1 hB.size, fun j hj => ?_⟩
    obtain ⟨q, c, a1, a2, a3⟩ := h2 j hj
    refine ⟨q, c, a1, a2, fun hp => ?_⟩
    obtain ⟨b', o', b1, b2, b3⟩ := a3 hp
    exact ⟨b', o', b1, Nat.lt_of_lt_of_le b2 hB.size, b3⟩
  refine (events_w qc qd qe qh qr nc cc nd cd ne ce nh ch nr cr L hn hnd W0 (up hcode) (up hent) ((hc.below hB).grow hB.size) hN2).mono ?_
  rintro x w' ⟨v, n, E, rfl, hE, h1, h2⟩
  obtain ⟨q, cap, rfl, _⟩ := hE.lies
  exact ⟨q, n, cap, E, rfl, hE, h1, h2⟩
set_option maxHeartbeats 4000000 in
set_option maxRecDepth 100000 in
theorem ppoRules_of (qc qd qe qh qr : Option Addr) (nc cc nd cd ne ce nh ch nr cr : Nat) (rule : Int) (w : World)
    (hev : ∀ W, Below w.heap.size w W → Calls Try.prog 6 #[.agg #[.slice qc nc cc, .slice qd nd cd, .slice qe ne ce], .agg #[.slice qh nh ch, .slice qr nr cr]] W (EvP W))
    (hok : ∀ w q n cap E, n ≤ 120 → EvsOk w (.slice q n cap) n E → ∃ R G, RuleOk w (.slice q n cap) R G)
    (haw : ∀ w, Calls Try.prog 11 #[] w (BQ w (.bool true))) :
    Calls Try.prog 3 #[.agg #[.slice qc nc cc, .slice qd nd cd, .slice qe ne ce], .agg #[.slice qh nh ch, .slice qr nr cr], .int .i64 rule] w (BQ w (.bool true)) := by
  have HB0 := hid (((Below.refl w.heap.size w).alloc (Nat.le_refl _) (.cells #[.slice qc nc cc, .slice qd nd cd, .slice qe ne ce] 25)).alloc (by simp) (.cells #[.slice qh nh ch, .slice qr nr cr] 29))
  have H2 := hid ((Hb.arr w #[.slice qc nc cc, .slice qd nd cd, .slice qe ne ce] 25).alloc (.cells #[.slice qh nh ch, .slice qr nr cr] 29))
  have h3 := Hb.arr (w.alloc (.cells #[.slice qc nc cc, .slice qd nd cd, .slice qe ne ce] 25)) #[.slice qh nh ch, .slice qr nr cr] 29
  rw [World.size_alloc] at h3
  have H3 := hid h3
  have HE := hid hev
  have HO := hid hok
  have HA := hid haw
  clear h3 hev hok haw
  go_enter Try.func3, Try.ntmps3
  go_upto_region 1 with (fail)
  generalize (w.alloc _).alloc _ = W0 at HB0 H2 H3 ⊢
  have i0 := load_image H2.out
  have j0 := load_cand H3.out
  have HR := hid (HE.out W0 HB0.out)
  go_upto_region 2 with (first
    | (go_at_call 6; refine HR.out.mono ?_; rintro x' W1 ⟨q, n, cap, E, rfl, hE, hn, hB1⟩; have HB1 := hid (HB0.out.trans (hB1.mono HB0.out.size)); have HEv := hid hE; have Hn := hid hn; clear hB1 hE hn)
    | (refine wp_ld_of rfl _ _ rfl rfl i0 ?_)
    | (refine wp_ld_of rfl _ _ rfl rfl j0 ?_))
  obtain ⟨R, G, hRG⟩ := HO.out W1 q n cap E Hn.out HEv.out
  have HRG := hid hRG
  clear i0 j0 HR hRG H2 H3 HO HE HB0
  go_wp2
  go_loopw [8] (fun v wr => ∃ k : Nat, k ≤ n + 2 ∧ v = .int .i64 ((k : Int) - 1) ∧ Below W1.heap.size W1 wr) (fun v _ => (n + 2 - (intOf v + 1)).toNat)
  case atStart => exact ⟨0, by omega, rfl, Below.refl _ _⟩
  case round =>
    obtain ⟨k, hk, rfl, hB⟩ := hrel
    have HB := hid hB
    have hn := Hn.out
    clear hB
    by_cases hlt : (k : Int) - 1 ≤ n
    · go_wp2
      go_loopw [9] (fun v wq => ∃ m : Nat, (k : Int) - 2 + m ≤ n + 1 ∧ v = .int .i64 ((k : Int) - 2 + m) ∧ Below W1.heap.size W1 wq) (fun v _ => ((n : Int) + 1 - intOf v).toNat)
      case atStart => exact ⟨0, by omega, by go_num, HB.out⟩
      case round =>
        obtain ⟨m, hm, rfl, hB⟩ := hrel
        have HC := hid hB
        clear hB
        have hn := Hn.out
        by_cases hlm : (k : Int) - 2 + m ≤ n
        · have X1 := hid (fun W hW => HRG.out.pr W hW ((k : Int) - 1) ((k : Int) - 2 + m))
          have X2 := hid (fun W hW => HRG.out.rr W hW ((k : Int) - 1) ((k : Int) - 2 + m))
          have X3 := hid (fun W hW => HRG.out.ph W hW rule ((k : Int) - 1) ((k : Int) - 2 + m))
          have X4 := hid (fun W hW => HRG.out.rh W hW rule ((k : Int) - 1) ((k : Int) - 2 + m))
          go_wp2_with (go_at_call 7; refine (X1.out _ HC.out).mono ?_; rintro x w5 ⟨rfl, hB5⟩; have HC5 := hid (HC.out.trans (hB5.mono HC.out.size)); clear hB5; refine Hid.out ?_)
          generalize R ((k : Int) - 1) ((k : Int) - 2 + m) = r at X2 ⊢
          refine hid ?_
          go_wp2_with (go_at_call 8; refine (X2.out _ HC5.out).mono ?_; rintro x w6 ⟨rfl, hB6⟩; have HC6 := hid (HC5.out.trans (hB6.mono HC5.out.size)); clear hB6; refine Hid.out ?_)
          refine hid ?_
          have e1 : (r != r) = false := by simp
          go_wp2_with (go_at_call 9; refine (X3.out _ HC6.out).mono ?_; rintro x w7 ⟨rfl, hB7⟩; have HC7 := hid (HC6.out.trans (hB7.mono HC6.out.size)); clear hB7; refine Hid.out ?_)
          generalize G rule ((k : Int) - 1) ((k : Int) - 2 + m) = z at X4 ⊢
          refine hid ?_
          go_wp2_with (go_at_call 10; refine (X4.out _ HC7.out).mono ?_; rintro x w8 ⟨rfl, hB8⟩; have HC8 := hid (HC7.out.trans (hB8.mono HC7.out.size)); clear hB8; refine Hid.out ?_)
          refine hid ?_
          have e2 : (z != z) = false := by simp
          go_wp2
          go_roundw
          case rel => exact ⟨m + 1, by omega, by go_num, HC8.out⟩
          case measure => simp [intOf]; omega
        · have : (k : Int) - 2 + m = n + 1 := by omega
          go_wp2
          go_roundw
          case rel => exact ⟨k + 1, by omega, by go_num, HC.out⟩
          case measure => simp [intOf]; omega
    · obtain rfl : k = n + 2 := by omega
      have HAw := hid (HA.out wr)
      go_wp2_with (go_at_call 11; refine HAw.out.mono ?_; rintro x w5 ⟨rfl, hB5⟩; have HB5 := hid (HB1.out.trans (HB.out.trans (hB5.mono HB.out.size) |>.mono HB1.out.size)); clear hB5)
      go_ret
      exact ⟨rfl, HB5.out⟩
end Go.Proofs.Ytchjjbcmbdmlgaa
