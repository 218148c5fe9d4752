/- The reference's Order of layer 14. -/
import Derived.Test.YthmmmbfjhfocfaaDoorRnd14
import Derived.Test.YthmmmbfjhfocfaaDoorRefP14
namespace Go.Proofs.YthmmmbfjhfocfaaDoor
open Go Go.RowKit
set_option linter.unusedVariables false
set_option linter.unusedSimpArgs false

def frB (m : Nat → Nat → Bool) (L : List Nat) (i : Nat) : Nat → Bool
  | 0 => !inL L i
  | a + 1 => frB m L i a && (inL L a || !m a i)
theorem frB_iff (m : Nat → Nat → Bool) (L : List Nat) (i : Nat) : ∀ n, frB m L i n = true ↔ (i ∉ L ∧ ∀ a, a < n → m a i = true → a ∈ L)
  | 0 => by simp [frB, inL]
  | n + 1 => by
    unfold frB
    rw [Bool.and_eq_true, frB_iff m L i n, Bool.or_eq_true, inL_iff]
    constructor
    · rintro ⟨⟨h1, h2⟩, h3⟩
      refine ⟨h1, fun a ha hm => ?_⟩
      by_cases han : a = n
      · subst han
        rcases h3 with h3 | h3
        · exact h3
        · rw [hm] at h3; cases h3
      · exact h2 a (by omega) hm
    · rintro ⟨h1, h2⟩
      refine ⟨⟨h1, fun a ha => h2 a (by omega)⟩, ?_⟩
      cases hm : m n i
      · exact .inr rfl
      · exact .inl (h2 n (by omega) hm)
theorem frB_rd {n : Nat} {m : Nat → Nat → Bool} {L : List Nat} {i : Nat} (hi : i < n) : frB m L i n = rdF n m L i := by
  rw [Bool.eq_iff_iff, frB_iff, rdF_iff, deg_zero]
  exact ⟨fun h => ⟨hi, h.1, h.2⟩, fun h => h.2⟩
theorem nx_least {f : Nat → Bool} {i : Nat} (h : f i = true) (hi : i < 512) (hl : ∀ j, j < i → f j = false) : nx f = some i := by
  unfold nx nxL els
  rw [List.head?_filter, List.find?_range_eq_some]
  exact ⟨h, List.mem_range.2 hi, fun j hj => by rw [hl j hj]; rfl⟩
structure OS (w W : World) (N T : Nat) (v : Value) (L : List Nat) : Prop where
  bel : Below w.heap.size w W
  told : Hb W T 4 N (bitV (inL L))
  tge : w.heap.size ≤ T
  row : W.ownsRow w.heap.size 3 1 v L.length (intsV L)
theorem own_set {W : World} {base size n T K i : Nat} {v : Value} {xs : List Value} {f : Nat → Value} (h : W.ownsRow base 3 size v n xs) (ht : Hb W T 4 K f) (x : Value) : (W.setCell ⟨T, i, none⟩ x).ownsRow base 3 size v n xs := by
  refine ⟨h.1, h.2.imp_right fun ⟨g, cap, cur, hv, hb, hg, h1, h2, h3, h4⟩ => ⟨g, cap, cur, hv, hb, ?_, h1, h2, h3, h4⟩⟩
  obtain ⟨cs, ht1, _⟩ := ht
  have hne : g ≠ T := fun e => by
    subst e
    rw [ht1] at hg
    have := Option.some.inj hg
    injection this with _ h5
    exact absurd h5 (by decide)
  rw [Below.heap_setCell W ⟨T, i, none⟩ x g hne]; exact hg
theorem OS.put {w W : World} {N T i : Nat} {v : Value} {L : List Nat} (h : OS w W N T v L) : Below w.heap.size w (W.setCell ⟨T, i, none⟩ (.bool true)) ∧ Hb (W.setCell ⟨T, i, none⟩ (.bool true)) T 4 N (bitV (inL (L ++ [i]))) ∧ (W.setCell ⟨T, i, none⟩ (.bool true)).ownsRow w.heap.size 3 1 v L.length (intsV L) := by
  refine ⟨Fr.below h.bel (Fr.set (Fr.refl [T] W) (.inr (by simp)) _) h.bel.size (by have := h.tge; simp; omega), ?_, own_set h.row h.told _⟩
  have h1 := h.told.set (i := i) (.bool true)
  rw [bitV_set] at h1
  rw [show inL (L ++ [i]) = fun x => x == i || inL L x by funext x; rw [inL_snoc, Bool.or_comm]]
  exact h1
theorem told_new (N : Nat) (W : World) : Hb (W.alloc (.cells (madeCells #[.bool false] N) 4)) W.heap.size 4 N (bitV (inL [])) :=
  ⟨madeCells #[.bool false] N, heap_alloc_new W _, by
    rcases Nat.eq_zero_or_pos N with h0 | h0
    · omega
    · have := (Array.getElem?_eq_some_iff.1 (made_bool N (N - 1) (by omega))).1
      omega, fun i hi => made_bool N i hi⟩
theorem own_int0 (w W : World) : W.ownsRow w.heap.size 3 1 (.slice none 0 0) 0 (intsV []) := World.ownsRow_nil _ _ _ _
set_option maxRecDepth 100000 in
set_option maxHeartbeats 8000000 in
theorem refOrder_ret {w : World} {c0 N : Nat} {v : Value} {ρ : Nat → Nat} {m : Nat → Nat → Bool} (h : RfC w c0 N v ρ m) (hno : ∀ x, ¬ TG m x x) : Calls Tryd.prog 29 #[.pointer (some ⟨c0, 0, none⟩)] w fun e w' => ∃ u, e = .returned u ∧ w'.ownsRow w.heap.size 3 1 u (gr N m N).length (intsV (gr N m N)) ∧ Below w.heap.size w w' := by
  obtain ⟨i0, hi0, hz0, hz1, hz2⟩ := info_parts intInfo
  have h5 := h.n512
  have hcn := h.ncell
  have HR := hid h
  have HNO := hid hno
  have hmk := fun W => run_make_row' (P := Tryd.prog) 40 4 (.bool false) 1 Tryd.underlying40 boolInfo rfl .i64 .i64 N (by omega) (by omega) W
  have hos : OS w (w.alloc (.cells (madeCells #[.bool false] N) 4)) N w.heap.size (.slice none 0 0) (gr N m 0) := ⟨Fr.to_below ((Fr.refl [] w).alloc _), told_new N w, Nat.le_refl _, own_int0 w _⟩
  have HOS := hid hos
  clear h hno hos
  go_enter Tryd.func29, Tryd.ntmps29
  go_wp2
  clear hmk
  obtain ⟨T, hT⟩ : ∃ T, T = w.heap.size := ⟨_, rfl⟩
  have HT := hid hT
  rw [← hT] at HOS ⊢
  clear hT
  go_loopw [3, 5, 6, 7, 8] (fun v3 v5 v6 v7 v8 wr => ∃ k : Nat, k ≤ N ∧ OS w wr N T v3 (gr N m k)) (fun v3 _ _ _ _ _ => N - slLen v3)
  case atStart => exact ⟨0, Nat.zero_le _, HOS.out⟩
  case round =>
    obtain ⟨k, hk, hos⟩ := hrel
    clear HOS
    have hcn := (HR.out.below hos.bel).ncell
    have hlen := gr_len h5 HR.out.inn HNO.out k hk
    have hrow := hos.row
    rw [hlen] at hrow
    obtain ⟨oa, ocap, rfl⟩ := own_form hrow
    have HL := hid hlen
    have HO1 := hid hos
    clear hos hrow hlen
    by_cases hlk : k < N
    · go_wp2
      go_loopw [3, 5, 6, 7, 8] (fun v3 v5 v6 v7 v8 wr2 => ∃ i : Nat, i ≤ N ∧ v6 = .int .i64 i ∧ ((v5 = .bool false ∧ v3 = .slice oa k ocap ∧ OS w wr2 N T v3 (gr N m k) ∧ ∀ j, j < i → rdF N m (gr N m k) j = false) ∨ (v5 = .bool true ∧ OS w wr2 N T v3 (gr N m (k + 1))))) (fun _ _ v6 _ _ _ => N - (intOf v6).toNat)
      case atStart => exact ⟨0, Nat.zero_le _, rfl, .inl ⟨rfl, rfl, HO1.out, fun j hj => by omega⟩⟩
      case round =>
        obtain ⟨i, hi, rfl, hst⟩ := hrel
        clear HO1 hcn
        rcases hst with ⟨rfl, rfl, hos, hno⟩ | ⟨rfl, hos⟩
        · have hcn := (HR.out.below hos.bel).ncell
          have HN2 := hid hno
          have HO2 := hid hos
          clear hno hos
          by_cases hlt : i < N
          · have ti := HO2.out.told.cell hlt
            rw [show bitV (inL (gr N m k)) i = .bool (inL (gr N m k) i) from rfl] at ti
            have hi' : ((i : Int)).toNat = i := by omega
            go_wp2
            go_loopw [7, 8] (fun v7 v8 wr3 => ∃ a : Nat, a ≤ N ∧ v8 = .int .i64 a ∧ v7 = .bool (frB m (gr N m k) i a) ∧ wr3 = wr) (fun _ v8 _ => N - (intOf v8).toNat)
            case atStart => exact ⟨0, Nat.zero_le _, rfl, rfl, by first | rfl | trivial⟩
            case round =>
              obtain ⟨a, ha, rfl, rfl, rfl⟩ := hrel
              by_cases hla : a < N
              · have ta := HO2.out.told.cell hla
                have hR := HR.out.below HO2.out.bel
                obtain ⟨c1, cap1, rfl, _, _⟩ := hR.at1 (by omega)
                have hv1 := hR.vcell
                obtain ⟨r1, r2⟩ := hR.rds hla hlt
                have ha' : ((a : Int)).toNat = a := by omega
                clear hR
                have hfr : frB m (gr N m k) i (a + 1) = (frB m (gr N m k) i a && (inL (gr N m k) a || !m a i)) := rfl
                have ta2 : bitV (inL (gr N m k)) a = .bool (inL (gr N m k) a) := rfl
                rw [ta2] at ta
                clear ta2
                cases h1 : frB m (gr N m k) i a
                · rw [h1, Bool.false_and] at hfr
                  have HF := hid hfr
                  clear hfr
                  go_wp2
                  go_roundw
                  case rel => exact ⟨a + 1, by omega, by go_num, by rw [HF.out], by first | rfl | trivial⟩
                  case measure => simp [intOf]; omega
                · rw [h1, Bool.true_and] at hfr
                  cases h2 : inL (gr N m k) a
                  · rw [h2] at ta hfr
                    cases h3 : m a i
                    · rw [h3] at r2 hfr
                      have HF := hid hfr
                      clear hfr
                      go_wp2
                      go_roundw
                      case rel => exact ⟨a + 1, by omega, by go_num, by rw [HF.out]; rfl, by first | rfl | trivial⟩
                      case measure => simp [intOf]; omega
                    · rw [h3] at r2 hfr
                      have HF := hid hfr
                      clear hfr
                      go_wp2
                      go_roundw
                      case rel => exact ⟨a + 1, by omega, by go_num, by rw [HF.out]; rfl, by first | rfl | trivial⟩
                      case measure => simp [intOf]; omega
                  · rw [h2] at ta hfr
                    have HF := hid hfr
                    clear hfr
                    go_wp2
                    go_roundw
                    case rel => exact ⟨a + 1, by omega, by go_num, by rw [HF.out]; rfl, by first | rfl | trivial⟩
                    case measure => simp [intOf]; omega
              · obtain rfl : a = N := by omega
                have hfr := frB_rd (m := m) (L := gr a m k) hlt
                cases hrd : rdF a m (gr a m k) i
                · rw [hrd] at hfr
                  rw [hfr]
                  have HN3 := hid (fun j (hj : j < i + 1) => show rdF a m (gr a m k) j = false by
                    by_cases hji : j = i
                    · rw [hji]; exact hrd
                    · exact HN2.out j (by omega))
                  clear hfr hrd
                  go_wp2
                  go_roundw
                  case rel => exact ⟨i + 1, by omega, by go_num, .inl ⟨rfl, rfl, HO2.out, HN3.out⟩⟩
                  case measure => simp [intOf]; omega
                · rw [hrd] at hfr
                  rw [hfr]
                  have hnx := nx_least hrd (by omega) HN2.out
                  have hgs := gr_some hnx
                  have hfz := HO2.out.told.free i
                  obtain ⟨q1, q2, q3⟩ := HO2.out.put (i := i)
                  have hlk2 := HL.out
                  have HQ := hid (And.intro q1 (And.intro q2 q3))
                  have HGS := hid hgs
                  have hrowl : (gr a m k).length ≤ 512 := by omega
                  clear hfr hrd hnx hgs q1 q2 q3 hlk2
                  go_wp2_with (at_builtin; go_loud (refine wpList_append_own _ rfl _ _ 46 rfl w.heap.size 3 i0 (.int .i64 0) 1 8 Tryd.underlying46 hi0 hz0 hz1 hz2 rfl (by decide) _ _ (intsV (gr a m k)) rfl (HL.out ▸ HQ.out.2.2.alloc _) ⟨_, 0, none⟩ 1 1 [.int .i64 i] rfl rfl (fun j u hu => by cases j with | zero => (simp at hu; subst hu; exact cell_int_at _ _ (by simp)) | succ j => simp at hu) (by simp [Value.oneCell']) (by unfold maxLen; omega) (by omega) (by have := HQ.out.1.size; simp at this ⊢; omega) ?_); intro v' w1' hown' hgrow _; refine Hid.out ?_)
                  have hb2 : w.heap.size ≤ (wr.setCell ⟨T, i, none⟩ (.bool true)).heap.size := HQ.out.1.size
                  have hfin : OS w w1' a T v' (gr a m (k + 1)) := by
                    have hl := HL.out
                    have hr0 := HQ.out.2.2
                    have hro : ∀ q, Value.ownBlock (.slice oa k ocap) = some q → w.heap.size ≤ q ∧ ∃ cs fz, ((wr.setCell ⟨T, i, none⟩ (.bool true)).alloc (.cells #[.int .i64 (i : Nat)] 3)).heap[q]? = some (.cells cs 3 fz) := fun q hq => row_obj (hr0.alloc _) q hq
                    have hkc : Kc (fun _ t => t = 3) ((wr.setCell ⟨T, i, none⟩ (.bool true)).alloc (.cells #[.int .i64 (i : Nat)] 3)) w1' := Kc.of_grown hgrow fun q hq => by
                      obtain ⟨_, cs, fz, h⟩ := hro q hq
                      exact ⟨cs, _, fz, h, rfl⟩
                    have htd := (HQ.out.2.1.alloc (.cells #[.int .i64 (i : Nat)] 3)).kc hkc (by decide)
                    rw [← HGS.out] at htd
                    refine ⟨(HQ.out.1.alloc hb2 _).grown hgrow (by simp at hb2 ⊢; omega) (fun q hq => (hro q hq).1), htd, HO2.out.tge, ?_⟩
                    rw [HGS.out, List.length_append, hl, show intsV (gr a m k ++ [i]) = intsV (gr a m k) ++ [.int .i64 (i : Nat)] by unfold intsV; rw [List.map_append]; rfl]
                    exact hown'
                  have HFIN := hid hfin
                  clear hown' hgrow hfin
                  refine hid ?_
                  go_wp2
                  go_roundw
                  case rel => exact ⟨i + 1, by omega, by go_num, .inr ⟨rfl, HFIN.out⟩⟩
                  case measure => simp [intOf]; omega
          · obtain rfl : i = N := by omega
            exfalso
            have h1 := gr_len h5 HR.out.inn HNO.out (k + 1) (by omega)
            have h2 := HL.out
            cases hx : nx (rdF i m (gr i m k)) with
            | none => rw [gr_none hx 1] at h1; omega
            | some e =>
              have h3 := (nx_some hx).1
              rw [HN2.out e (rdF_iff.1 h3).1] at h3
              cases h3
        · have hcn := (HR.out.below hos.bel).ncell
          have HO2 := hid hos
          have hl2 := gr_len h5 HR.out.inn HNO.out (k + 1) (by omega)
          have hrow := hos.row
          rw [hl2] at hrow
          obtain ⟨oa2, ocap2, rfl⟩ := own_form hrow
          clear hos hrow hl2
          by_cases hlt : i < N
          · go_wp2
            go_roundw
            case rel => exact ⟨k + 1, by omega, HO2.out⟩
            case measure => simp [slLen]; omega
          · go_wp2
            go_roundw
            case rel => exact ⟨k + 1, by omega, HO2.out⟩
            case measure => simp [slLen]; omega
    · obtain rfl : k = N := by omega
      go_wp2
      go_ret
      exact ⟨_, rfl, by have := HO1.out.row; exact this, HO1.out.bel⟩
  end Go.Proofs.YthmmmbfjhfocfaaDoor
