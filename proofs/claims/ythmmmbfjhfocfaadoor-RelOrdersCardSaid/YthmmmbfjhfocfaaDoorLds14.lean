/- The reference's Leads of layer 14. -/
import Derived.Test.YthmmmbfjhfocfaaDoorQue14
namespace Go.Proofs.YthmmmbfjhfocfaaDoor
open Go Go.RowKit
set_option linter.unusedVariables false
set_option linter.unusedSimpArgs false

theorem RfC.rds {W : World} {c0 c1 cap N : Nat} {ρ : Nat → Nat} {m : Nat → Nat → Bool} (h : RfC W c0 N (.slice (some ⟨c1, 0, none⟩) N cap) ρ m) {a b : Nat} (ha : a < N) (hb : b < N) : W.cell? ⟨c1, a, none⟩ = some (.slice (some ⟨ρ a, 0, none⟩) N N) ∧ W.cell? ⟨ρ a, b, none⟩ = some (.bool (m a b)) := by
  refine ⟨?_, (h.rows a ha).cell hb⟩
  rcases h.sl with ⟨h1, _⟩ | ⟨c1', cap', h1, h2, h3⟩
  · cases h1
  · cases h1
    exact h3.cell ha
structure LS (w W : World) (d0 N : Nat) (v' : Value) (ρ' : Nat → Nat) (mo : Nat → Nat → Bool) : Prop where
  bel : Below w.heap.size w W
  o : RfC W d0 N v' ρ' mo
  ge : ∀ j, j < N → w.heap.size ≤ ρ' j
section
variable {w W : World} {d0 N : Nat} {v' : Value} {ρ' : Nat → Nat} {mo : Nat → Nat → Bool}
theorem LS.alloc (h : LS w W d0 N v' ρ' mo) (o : Obj) : LS w (W.alloc o) d0 N v' ρ' mo := ⟨Fr.below h.bel ((Fr.refl [] W).alloc o) h.bel.size (by simp), h.o.below (Fr.to_below ((Fr.refl [] W).alloc o)), h.ge⟩
theorem LS.put (h : LS w W d0 N v' ρ' mo) {a b : Nat} (ha : a < N) (hb : b < N) : LS w (W.setCell ⟨ρ' a, b, none⟩ (.bool true)) d0 N v' ρ' (addP mo a b) :=
  ⟨Fr.below h.bel (Fr.set (Fr.refl [ρ' a] W) (.inr (by simp)) _) h.bel.size (by have := h.ge a ha; simp; omega), h.o.put ha hb, h.ge⟩
theorem LS.kc {W' : World} {T : List Nat} (h : LS w W d0 N v' ρ' mo) (hk : Kc (fun _ t => t = 3) W W') (hf : Fr T W W') (hT : ∀ i, i ∈ T → w.heap.size ≤ i) : LS w W' d0 N v' ρ' mo :=
  ⟨Fr.below h.bel hf h.bel.size hT, h.o.kc hk (by decide) (fun _ => by decide) (fun _ => by decide), h.ge⟩
def isT : Option Value → Bool
  | some (.bool b) => b
  | _ => false
def unW (W : World) (r N : Nat) : Nat := (List.range N).countP (fun y => !isT (W.cell? ⟨r, y, none⟩))
theorem LS.un {m : Nat → Nat → Bool} {a : Nat} {V : Nat → Bool} (h : LS w W d0 N v' ρ' (pcs m a V)) (ha : a < N) : unW W (ρ' a) N = unP V N := by
  unfold unW unP
  refine List.countP_congr fun y hy => ?_
  have hy := List.mem_range.1 hy
  rw [(h.o.rows a ha).cell hy]
  simp [isT, bitV, pcs]
end
theorem Hb.less {w : World} {b N N' : Nat} {t : TypeId} {f : Nat → Value} (h : Hb w b t N f) (hN : N' ≤ N) : Hb w b t N' f := by
  obtain ⟨cs, h1, h2, h3⟩ := h
  exact ⟨cs, h1, by omega, fun i hi => h3 i (by omega)⟩
theorem QI.cons {W : World} {base : Nat} {v : Value} {x : Nat} {l : List Nat} (h : QI W base v (x :: l)) : ∃ g o cap, v = .slice (some ⟨g, o, none⟩) (l.length + 1) cap ∧ l.length + 1 ≤ cap ∧ cap ≤ maxLen ∧ W.cell? ⟨g, o, none⟩ = some (.int .i64 (x : Nat)) ∧ QI W base (if cap = 1 then .slice (some ⟨g, o, none⟩) l.length 0 else .slice (some ⟨g, o + 1, none⟩) l.length (cap - 1)) l := by
  obtain ⟨g, o, cap, f, h1, h2, h3, h4, h5, h6⟩ := h
  rw [List.length_cons] at h1 h3
  refine ⟨g, o, cap, h1, h3, h4, ?_, ?_⟩
  · have := h6 0 x rfl
    rw [h5.cell (by omega)]
    rw [Nat.add_zero] at this
    rw [this]
  · by_cases hc : cap = 1
    · rw [if_pos hc]
      refine ⟨g, o, 0, f, rfl, h2, by omega, by unfold maxLen; omega, h5.less (by omega), fun i z hz => ?_⟩
      have := (List.getElem?_eq_some_iff.1 hz).1
      omega
    · rw [if_neg hc]
      refine ⟨g, o + 1, cap - 1, f, rfl, h2, by omega, by omega, ?_, fun i z hz => ?_⟩
      · rw [show o + 1 + (cap - 1) = o + cap by omega]; exact h5
      · have := h6 (i + 1) z (by simpa using hz)
        rw [← this]; congr 1; omega
theorem cell_int_new (W : World) (b : Nat) : (W.alloc (.cells #[.int .i64 (b : Nat)] 3)).cell? ⟨W.heap.size, 0, none⟩ = some (.int .i64 (b : Nat)) := (Hb.new W #[.int .i64 (b : Nat)] 3 (one_at _)).cell (i := 0) (by simp)
theorem cell_int_at (W : World) (b : Nat) {g : Nat} (h : W.heap.size = g) : (W.alloc (.cells #[.int .i64 (b : Nat)] 3)).cell? ⟨g, 0, none⟩ = some (.int .i64 (b : Nat)) := by subst h; exact cell_int_new W b
theorem QI.nil {W : World} {base : Nat} {v : Value} (h : QI W base v []) : ∃ g o cap, v = .slice (some ⟨g, o, none⟩) 0 cap := by
  obtain ⟨g, o, cap, f, h1, _⟩ := h
  exact ⟨g, o, cap, h1⟩
set_option maxRecDepth 100000 in
set_option maxHeartbeats 8000000 in
theorem leads_ret {w : World} {c0 N : Nat} {v : Value} {ρ : Nat → Nat} {m : Nat → Nat → Bool} (h : RfC w c0 N v ρ m) : Calls Tryd.prog 24 #[.pointer (some ⟨c0, 0, none⟩)] w fun e w' => ∃ d0 v' ρ', e = .returned (.pointer (some ⟨d0, 0, none⟩)) ∧ RfC w' d0 N v' ρ' (tcB m) ∧ Below w.heap.size w w' := by
  have h5 := h.n512
  have hm := h.inn
  have hcn := h.ncell
  have HN : ∀ w, Calls Tryd.prog 18 #[.int .i64 N] w (RNew w N) := fun w => by
    have := refNew_ret (N : Int) (by omega) w
    rw [clN_self N h5] at this
    exact this
  have HN := hid HN
  have HR := hid h
  clear h
  go_enter Tryd.func24, Tryd.ntmps24
  go_wp2_with (go_at_call 18; refine (HN.out _).mono ?_; clear HN; rintro e' w1 ⟨d0, v', ρ', rfl, hf, hd, hb⟩; refine Hid.out ?_)
  have hL : LS w w1 d0 N v' ρ' (pcs m 0 (fun _ => false)) := ⟨hb, by rw [pcs_0]; exact hf.c h5 (by simp), fun j hj => (hf.rows j hj).2⟩
  have HL := hid hL
  clear hL hf hd hb hcn
  refine hid ?_
  go_wp2
  go_loopw [4, 5, 6, 7] (fun v4 v5 v6 v7 wr => ∃ a : Nat, a ≤ N ∧ v4 = .int .i64 a ∧ LS w wr d0 N v' ρ' (pcs m a (fun _ => false))) (fun v4 _ _ _ _ => N - (intOf v4).toNat)
  case atStart => exact ⟨0, Nat.zero_le _, rfl, HL.out⟩
  case round =>
    obtain ⟨a, ha, rfl, hl1⟩ := hrel
    clear HL
    have hcn := (HR.out.below hl1.bel).ncell
    have HL1 := hid hl1
    clear hl1
    by_cases hla : a < N
    · go_wp2
      go_loopw [5, 6, 7] (fun v5 v6 v7 wr => ∃ (V : Nat → Bool) (l : List Nat), QI wr w.heap.size v5 l ∧ LS w wr d0 N v' ρ' (pcs m a V) ∧ BI m a N V l) (fun v5 _ _ wr => unW wr (ρ' a) N + slLen v5)
      case atStart => exact ⟨fun _ => false, [a], QI.one _ _ _ HL1.out.bel.size, HL1.out.alloc _, BI.start hla⟩
      case round =>
        obtain ⟨V, l, hq, hl2, hbi⟩ := hrel
        clear HL1
        cases l with
        | nil =>
          obtain ⟨g, o, cap, rfl⟩ := hq.nil
          rw [pcs_next hbi.fin] at hl2
          have HL2 := hid hl2
          clear hl2 hq hbi hcn
          go_wp2
          go_roundw
          case rel => exact ⟨a + 1, by omega, by go_num, HL2.out⟩
          case measure => simp [intOf]; omega
        | cons x l =>
          obtain ⟨g, o, cap, rfl, hlc, hcm, hcx, hq2⟩ := hq.cons
          have hK := hl2.un hla
          have hbd := hbi.bound
          have HBI := hid hbi.pop
          have HQ := hid hq2
          have HL2 := hid hl2
          have HK := hid (And.intro hK hbd)
          clear hK hbd hbi hq2 hl2 hq hcn
          --INNER
          have hxn : x < N := HBI.out.xin.1
          by_cases hc1 : cap = 1
          · rw [if_pos hc1] at HQ
            subst hc1; have hl0 : l.length = 0 := (by omega); rw [hl0] at HQ
            go_wp2
            go_loopw [5, 7] (fun v5 v7 wr3 => ∃ (b : Nat) (V2 : Nat → Bool) (l2 : List Nat), b ≤ N ∧ v7 = .int .i64 b ∧ QI wr3 w.heap.size v5 l2 ∧ LS w wr3 d0 N v' ρ' (pcs m a V2) ∧ BJ m a N V2 l2 x b (l.length + unP V N)) (fun _ v7 _ => N - (intOf v7).toNat)
            case atStart => exact ⟨0, V, l, Nat.zero_le _, rfl, HQ.out, HL2.out, HBI.out⟩
            case round =>
              obtain ⟨b, V2, l2, hb, rfl, hq3, hl3, hbj⟩ := hrel
              clear HQ HL2 HBI hcx hlc hl0
              have hR := HR.out.below hl3.bel
              have hcn := hR.ncell
              by_cases hlb : b < N
              · obtain ⟨c1, cap1, rfl, _, _⟩ := hR.at1 (by omega)
                obtain ⟨d1, cap2, rfl, _, _⟩ := hl3.o.at1 (by omega)
                have hv1 := hR.vcell
                have hv2 := hl3.o.vcell
                obtain ⟨r1, r2⟩ := hR.rds hxn hlb
                obtain ⟨s1, s2⟩ := hl3.o.rds hla hlb
                have hpv : pcs m a V2 a b = V2 b := by simp [pcs]
                rw [hpv] at s2
                have hx' : ((x : Int)).toNat = x := by omega
                have hb' : ((b : Int)).toNat = b := by omega
                have ha' : ((a : Int)).toNat = a := by omega
                cases hmx : m x b
                · rw [hmx] at r2
                  have HJ := hid (hbj.skip fun h => by rw [hmx] at h; cases h)
                  have HQ3 := hid hq3
                  have HL3 := hid hl3
                  clear hbj hq3 hl3 hmx hR
                  go_wp2
                  go_roundw
                  case rel => exact ⟨b + 1, V2, l2, by omega, by go_num, HQ3.out, HL3.out, HJ.out⟩
                  case measure => simp [intOf]; omega
                · rw [hmx] at r2
                  cases hV : V2 b
                  · rw [hV] at s2
                    have hfz := (hl3.o.rows a hla).free b
                    have hlen : l2.length ≤ 1000 := by have := hbj.bound; have := HK.out.2; rw [List.length_cons] at this; omega
                    have HJ := hid (hbj.push hlb hmx hV)
                    have hrow := hl3.o.rows a hla
                    have hq4 := hq3.set (b := b) hrow (by decide) (.bool true)
                    have hl4 := hl3.put hla hlb
                    rw [pcs_put] at hl4
                    have HQ4 := hid hq4
                    have HL4 := hid hl4
                    clear hbj hq3 hl3 hmx hR hrow hq4 hl4
                    go_wp2_with (at_builtin; refine wpList_append_q _ rfl _ _ 46 rfl rfl w.heap.size _ l2 rfl (HQ4.out.kc (Kc.alloc (ok := fun _ _ => False) (Kc.refl _ _) _) (fun _ h => h)) _ b 1 rfl (cell_int_at _ _ (by simp)) (by have := HL4.out.bel.size; simp at this ⊢; omega) hlen ?_; intro v5 w5 T hq5 hk5 hf5 hT5; refine Hid.out ?_)
                    have HL5 := hid ((HL4.out.alloc _).kc hk5 hf5 hT5)
                    have HQ5 := hid hq5
                    clear hq5 hk5 hf5 hT5 hcn hv1 hv2 r1 r2 s1 s2 hfz
                    refine hid ?_
                    go_wp2
                    go_roundw
                    case rel => exact ⟨b + 1, _, _, by omega, by go_num, HQ5.out, HL5.out, HJ.out⟩
                    case measure => simp [intOf]; omega
                  · rw [hV] at s2
                    have HJ := hid (hbj.skip fun _ => hV)
                    have HQ3 := hid hq3
                    have HL3 := hid hl3
                    clear hbj hq3 hl3 hmx hR hV
                    go_wp2
                    go_roundw
                    case rel => exact ⟨b + 1, V2, l2, by omega, by go_num, HQ3.out, HL3.out, HJ.out⟩
                    case measure => simp [intOf]; omega
              · obtain rfl : b = N := by omega
                have hb2 := hbj.bound
                have hun := hl3.un hla
                have hlen := hq3.len
                have hKK := HK.out
                rw [List.length_cons] at hKK
                have HB2 := hid (hbj.done HR.out.inn (by omega))
                have HQ3 := hid hq3
                have HL3 := hid hl3
                have HM := hid (And.intro hb2 (And.intro hun (And.intro hlen hKK)))
                clear hbj hq3 hl3 hb2 hun hlen hKK hR HK
                go_wp2
                go_roundw
                case rel => exact ⟨V2, l2, HQ3.out, HL3.out, HB2.out⟩
                case measure =>
                  obtain ⟨hb2, hun, hlen, hK1, hK2⟩ := HM.out
                  simp only [hun, hlen]
                  show _ < unW _ _ _ + (l.length + 1)
                  omega
          · rw [if_neg hc1] at HQ
            have hc2 : 1 < cap := by omega
            go_wp2
            go_loopw [5, 7] (fun v5 v7 wr3 => ∃ (b : Nat) (V2 : Nat → Bool) (l2 : List Nat), b ≤ N ∧ v7 = .int .i64 b ∧ QI wr3 w.heap.size v5 l2 ∧ LS w wr3 d0 N v' ρ' (pcs m a V2) ∧ BJ m a N V2 l2 x b (l.length + unP V N)) (fun _ v7 _ => N - (intOf v7).toNat)
            case atStart => exact ⟨0, V, l, Nat.zero_le _, rfl, HQ.out, HL2.out, HBI.out⟩
            case round =>
              obtain ⟨b, V2, l2, hb, rfl, hq3, hl3, hbj⟩ := hrel
              clear HQ HL2 HBI hcx hlc
              have hR := HR.out.below hl3.bel
              have hcn := hR.ncell
              by_cases hlb : b < N
              · obtain ⟨c1, cap1, rfl, _, _⟩ := hR.at1 (by omega)
                obtain ⟨d1, cap2, rfl, _, _⟩ := hl3.o.at1 (by omega)
                have hv1 := hR.vcell
                have hv2 := hl3.o.vcell
                obtain ⟨r1, r2⟩ := hR.rds hxn hlb
                obtain ⟨s1, s2⟩ := hl3.o.rds hla hlb
                have hpv : pcs m a V2 a b = V2 b := by simp [pcs]
                rw [hpv] at s2
                have hx' : ((x : Int)).toNat = x := by omega
                have hb' : ((b : Int)).toNat = b := by omega
                have ha' : ((a : Int)).toNat = a := by omega
                cases hmx : m x b
                · rw [hmx] at r2
                  have HJ := hid (hbj.skip fun h => by rw [hmx] at h; cases h)
                  have HQ3 := hid hq3
                  have HL3 := hid hl3
                  clear hbj hq3 hl3 hmx hR
                  go_wp2
                  go_roundw
                  case rel => exact ⟨b + 1, V2, l2, by omega, by go_num, HQ3.out, HL3.out, HJ.out⟩
                  case measure => simp [intOf]; omega
                · rw [hmx] at r2
                  cases hV : V2 b
                  · rw [hV] at s2
                    have hfz := (hl3.o.rows a hla).free b
                    have hlen : l2.length ≤ 1000 := by have := hbj.bound; have := HK.out.2; rw [List.length_cons] at this; omega
                    have HJ := hid (hbj.push hlb hmx hV)
                    have hrow := hl3.o.rows a hla
                    have hq4 := hq3.set (b := b) hrow (by decide) (.bool true)
                    have hl4 := hl3.put hla hlb
                    rw [pcs_put] at hl4
                    have HQ4 := hid hq4
                    have HL4 := hid hl4
                    clear hbj hq3 hl3 hmx hR hrow hq4 hl4
                    go_wp2_with (at_builtin; refine wpList_append_q _ rfl _ _ 46 rfl rfl w.heap.size _ l2 rfl (HQ4.out.kc (Kc.alloc (ok := fun _ _ => False) (Kc.refl _ _) _) (fun _ h => h)) _ b 1 rfl (cell_int_at _ _ (by simp)) (by have := HL4.out.bel.size; simp at this ⊢; omega) hlen ?_; intro v5 w5 T hq5 hk5 hf5 hT5; refine Hid.out ?_)
                    have HL5 := hid ((HL4.out.alloc _).kc hk5 hf5 hT5)
                    have HQ5 := hid hq5
                    clear hq5 hk5 hf5 hT5 hcn hv1 hv2 r1 r2 s1 s2 hfz
                    refine hid ?_
                    go_wp2
                    go_roundw
                    case rel => exact ⟨b + 1, _, _, by omega, by go_num, HQ5.out, HL5.out, HJ.out⟩
                    case measure => simp [intOf]; omega
                  · rw [hV] at s2
                    have HJ := hid (hbj.skip fun _ => hV)
                    have HQ3 := hid hq3
                    have HL3 := hid hl3
                    clear hbj hq3 hl3 hmx hR hV
                    go_wp2
                    go_roundw
                    case rel => exact ⟨b + 1, V2, l2, by omega, by go_num, HQ3.out, HL3.out, HJ.out⟩
                    case measure => simp [intOf]; omega
              · obtain rfl : b = N := by omega
                have hb2 := hbj.bound
                have hun := hl3.un hla
                have hlen := hq3.len
                have hKK := HK.out
                rw [List.length_cons] at hKK
                have HB2 := hid (hbj.done HR.out.inn (by omega))
                have HQ3 := hid hq3
                have HL3 := hid hl3
                have HM := hid (And.intro hb2 (And.intro hun (And.intro hlen hKK)))
                clear hbj hq3 hl3 hb2 hun hlen hKK hR HK
                go_wp2
                go_roundw
                case rel => exact ⟨V2, l2, HQ3.out, HL3.out, HB2.out⟩
                case measure =>
                  obtain ⟨hb2, hun, hlen, hK1, hK2⟩ := HM.out
                  simp only [hun, hlen]
                  show _ < unW _ _ _ + (l.length + 1)
                  omega
    · obtain rfl : a = N := by omega
      rw [pcs_end HR.out.inn] at HL1
      go_wp2
      go_ret
      exact ⟨d0, v', ρ', rfl, HL1.out.o, HL1.out.bel⟩
end Go.Proofs.YthmmmbfjhfocfaaDoor
