/- Layer 16: awake. -/
import Derived.Test.YtchjjbcmbdmlgaaK15
set_option linter.unusedVariables false
set_option linter.unusedSimpArgs false
namespace Go.Proofs.Ytchjjbcmbdmlgaa
open Go Go.RowKit
def awA : EvZ := ⟨0, 0, 0, ⟨21, 0, 0, 0, 0, false, false⟩, 0, false, false, true, 0, 0, false, 0, 0, false⟩
def awF : EvZ := ⟨0, 0, 0, ⟨63, 0, 0, 0, 51, false, false⟩, 0, false, false, false, 0, 0, false, 0, 0, false⟩
def awB : EvZ := ⟨0, 0, 0, ⟨14, 0, 0, 0, 0, false, false⟩, 8, false, true, false, 0, 0, false, 0, 0, false⟩
def aw3 : EvsZ := ⟨fun i => if i = 0 then awA else if i = 1 then awF else awB, fun _ => nilV, fun _ => nilV, fun _ => nilV⟩
def aw2 : EvsZ := ⟨fun i => if i = 0 then awA else awB, fun _ => nilV, fun _ => nilV, fun _ => nilV⟩
def no0 : Nat → Nat := fun _ => 0
def noF : Nat → Nat → Int := fun _ _ => 0
theorem inF_0 (F : Nat → Int) (x : Int) : inF F 0 x = false := by unfold inF; simp
theorem btw_02 : btw (sameH aw3 0) 0 2 = [1] := by decide
theorem btw_01 : btw (sameH aw2 0) 0 1 = [] := by decide
theorem aw3_rule : ruleX aw3 3 no0 no0 no0 noF noF noF 0 2 = 4 := by
  have hx : ∀ k, holdsX aw3 3 no0 no0 no0 noF noF noF 0 2 k = (decide (0 ≤ k) && ordR (spnV aw3 no0 noF 0 2) (psZ aw3 no0 no0 noF noF 0 [1]) awA awB false false false k.toNat) := fun k => by
    unfold holdsX ordX ordZ
    rw [show (0 : Int).toNat = 0 from rfl, show (2 : Int).toNat = 2 from rfl, btw_02, show no0 2 = 0 from rfl, inF_0]; rfl
  have h4 : incB (spnV aw3 no0 noF 0 2).fen awB = true := by unfold spnV; rw [btw_02]; decide
  unfold ruleX leastR leastR leastR leastR
  rw [hx, hx, hx, hx]
  simp only [show ((1 : Nat) : Int).toNat = 1 from rfl, show ((1 + 1 : Nat) : Int).toNat = 2 from rfl, show ((1 + 1 + 1 : Nat) : Int).toNat = 3 from rfl, show ((1 + 1 + 1 + 1 : Nat) : Int).toNat = 4 from rfl]
  unfold ordR
  simp only [h4]
  decide
theorem aw2_rule : ruleX aw2 2 no0 no0 no0 noF noF noF 0 1 = 0 := by
  unfold ruleX
  refine leastR_no (fun k => ?_) 13 1
  unfold holdsX ordX ordZ
  rw [show (0 : Int).toNat = 0 from rfl, show (1 : Int).toNat = 1 from rfl, btw_01, show no0 1 = 0 from rfl, inF_0]
  have : ∀ m, ordR (spnV aw2 no0 noF 0 1) (psZ aw2 no0 no0 noF noF 0 []) (aw2.e 0) (aw2.e 1) false false false m = false := fun m => by
    have hf : (spnV aw2 no0 noF 0 1).fen = 0 := by unfold spnV; rw [btw_01]; rfl
    unfold ordR
    split <;> first | rfl | (rw [hf]; rfl) | decide
  rw [this]
  simp
theorem lit_evsX {W : World} {b n : Nat} {E : EvsZ} (hb : b < W.heap.size) (hn : n ≤ 1000) (h : ∀ i, i < n → EvA W b (0 + i * 23) (E.e i) nilV nilV nilV) (ha : ∀ i, E.a i = nilV ∧ E.d i = nilV ∧ E.c i = nilV) (hh : ∀ i, (E.e i).ht = 0) (hf : ∀ i, (E.e i).i.op = 63 → (E.e i).i.imm = 51) : EvsX W b 0 n E no0 no0 no0 noF noF noF := by
  have hl : ∀ (W : World) (i : Nat), RdL W nilV (no0 i) (noF i) := fun W i => ⟨none, 0, rfl, fun h => by exact absurd h (Nat.lt_irrefl 0)⟩
  refine ⟨fun W' hW i hi k hk => ?_, fun W' hW i hi => ?_, fun W' hW i hi => ?_, fun W' hW i hi => ?_, fun i hi => ⟨Nat.zero_le _, Nat.zero_le _, Nat.zero_le _⟩, fun i j _ _ => by rw [hh, hh]; exact Int.le_refl _, fun i hi ho => by rw [hf i ho]; decide, hn⟩
  · rw [(ha i).1, (ha i).2.1, (ha i).2.2]
    exact (hW.cell (p := ⟨b, _, none⟩) hb).trans (h i hi k hk)
  · rw [(ha i).1]; exact hl _ _
  · rw [(ha i).2.1]; exact hl _ _
  · rw [(ha i).2.2]; exact hl _ _
noncomputable def lit3 : Array Value := (evL awA nilV nilV nilV ++ (evL awF nilV nilV nilV ++ evL awB nilV nilV nilV)).toArray
noncomputable def lit2 : Array Value := (evL awA nilV nilV nilV ++ evL awB nilV nilV nilV).toArray
theorem aw3_at (i : Nat) : aw3.e i = awA ∨ aw3.e i = awF ∨ aw3.e i = awB := by
  unfold aw3
  simp only
  split
  · exact .inl rfl
  · split
    · exact .inr (.inl rfl)
    · exact .inr (.inr rfl)
theorem aw2_at (i : Nat) : aw2.e i = awA ∨ aw2.e i = awB := by
  unfold aw2
  simp only
  split
  · exact .inl rfl
  · exact .inr rfl
theorem lit3_x (w : World) : EvsX (w.alloc (.cells lit3 evT)) w.heap.size 0 3 aw3 no0 no0 no0 noF noF noF := by
  refine lit_evsX (n := 3) (E := aw3) (by simp) (by decide) (fun i hi k hk => ?_) (fun i => ⟨rfl, rfl, rfl⟩) (fun i => ?_) (fun i => ?_)
  · have h := (Hb.arr w lit3 evT).cell (i := i * 23 + k) (by show i * 23 + k < 69; omega)
    rw [Nat.zero_add, h]
    have : i = 0 ∨ i = 1 ∨ i = 2 := by omega
    congr 1
    rcases this with rfl | rfl | rfl
    · exact lt23 (P := fun k => arrF lit3 (0 * 23 + k) = evF (aw3.e 0) nilV nilV nilV k) ⟨rfl, rfl, rfl, rfl, rfl, rfl, rfl, rfl, rfl, rfl, rfl, rfl, rfl, rfl, rfl, rfl, rfl, rfl, rfl, rfl, rfl, rfl, rfl⟩ k hk
    · exact lt23 (P := fun k => arrF lit3 (1 * 23 + k) = evF (aw3.e 1) nilV nilV nilV k) ⟨rfl, rfl, rfl, rfl, rfl, rfl, rfl, rfl, rfl, rfl, rfl, rfl, rfl, rfl, rfl, rfl, rfl, rfl, rfl, rfl, rfl, rfl, rfl⟩ k hk
    · exact lt23 (P := fun k => arrF lit3 (2 * 23 + k) = evF (aw3.e 2) nilV nilV nilV k) ⟨rfl, rfl, rfl, rfl, rfl, rfl, rfl, rfl, rfl, rfl, rfl, rfl, rfl, rfl, rfl, rfl, rfl, rfl, rfl, rfl, rfl, rfl, rfl⟩ k hk
  · rcases aw3_at i with h | h | h <;> rw [h] <;> rfl
  · rcases aw3_at i with h | h | h <;> rw [h] <;> decide
theorem lit2_x (w : World) : EvsX (w.alloc (.cells lit2 evT)) w.heap.size 0 2 aw2 no0 no0 no0 noF noF noF := by
  refine lit_evsX (n := 2) (E := aw2) (by simp) (by decide) (fun i hi k hk => ?_) (fun i => ⟨rfl, rfl, rfl⟩) (fun i => ?_) (fun i => ?_)
  · have h := (Hb.arr w lit2 evT).cell (i := i * 23 + k) (by show i * 23 + k < 46; omega)
    rw [Nat.zero_add, h]
    have : i = 0 ∨ i = 1 := by omega
    congr 1
    rcases this with rfl | rfl
    · exact lt23 (P := fun k => arrF lit2 (0 * 23 + k) = evF (aw2.e 0) nilV nilV nilV k) ⟨rfl, rfl, rfl, rfl, rfl, rfl, rfl, rfl, rfl, rfl, rfl, rfl, rfl, rfl, rfl, rfl, rfl, rfl, rfl, rfl, rfl, rfl, rfl⟩ k hk
    · exact lt23 (P := fun k => arrF lit2 (1 * 23 + k) = evF (aw2.e 1) nilV nilV nilV k) ⟨rfl, rfl, rfl, rfl, rfl, rfl, rfl, rfl, rfl, rfl, rfl, rfl, rfl, rfl, rfl, rfl, rfl, rfl, rfl, rfl, rfl, rfl, rfl⟩ k hk
  · rcases aw2_at i with h | h <;> rw [h] <;> rfl
  · rcases aw2_at i with h | h <;> rw [h] <;> decide
theorem aw3_call (w : World) (a : Array Value) (ha : a = lit3) : Calls Try.prog 7 #[.slice (some ⟨w.heap.size, 0, none⟩) 3 3, .int .i64 0, .int .i64 2] (w.alloc (.cells a evT)) (fun x w' => x = .returned (.int .i64 4) ∧ Below w.heap.size w w') := by
  subst ha
  refine (ppoRule_w (lit3_x w) 3 0 2 _ (Below.refl _ _)).mono ?_
  rintro x w' ⟨rfl, hB⟩
  exact ⟨by rw [aw3_rule], ((Below.refl w.heap.size w).alloc (Nat.le_refl _) _).trans (hB.mono (by simp))⟩
theorem aw2_call (w : World) (a : Array Value) (ha : a = lit2) : Calls Try.prog 7 #[.slice (some ⟨w.heap.size, 0, none⟩) 2 2, .int .i64 0, .int .i64 1] (w.alloc (.cells a evT)) (fun x w' => x = .returned (.int .i64 0) ∧ Below w.heap.size w w') := by
  subst ha
  refine (ppoRule_w (lit2_x w) 2 0 1 _ (Below.refl _ _)).mono ?_
  rintro x w' ⟨rfl, hB⟩
  exact ⟨by rw [aw2_rule], ((Below.refl w.heap.size w).alloc (Nat.le_refl _) _).trans (hB.mono (by simp))⟩
def BxE (W : World) (b : Nat) (e : EvZ) : Prop := Hb W b evT 23 (evF e nilV nilV nilV)
set_option maxHeartbeats 4000000 in
set_option maxRecDepth 100000 in
theorem awake16 (w : World) : Calls Try.prog 11 #[] w (fun x w' => x = .returned (.bool true) ∧ Below w.heap.size w w') := by
  go_enter Try.func11, Try.ntmps11
  have HG1 := hid (Hb.arr w (evAr (ev0 0 0 0 0 0 false) nilV nilV nilV) evT)
  go_upto_region 2 with (refine wp_st_of rfl _ _ _ rfl rfl rfl (st_ev (HG1.out.less (by simp)) awA none 0 0 none 0 0 none 0 0) ?_)
  have hB1 : Below w.heap.size w ((w.alloc (.cells (evAr (ev0 0 0 0 0 0 false) nilV nilV nilV) evT)).setCells w.heap.size 0 (evAr awA nilV nilV nilV).toList) := (Fr.sets (T := []) (.inl (Nat.le_refl _)) _ _ ((Fr.refl [] w).alloc _)).to_below
  have hX1 : BxE ((w.alloc (.cells (evAr (ev0 0 0 0 0 0 false) nilV nilV nilV) evT)).setCells w.heap.size 0 (evAr awA nilV nilV nilV).toList) w.heap.size awA := (((HG1.out.less (N' := 23) (by simp)).storeA (evAr awA nilV nilV nilV) (by simp)).congr (g := evF awA nilV nilV nilV) (evAr_F _ _ _ _))
  simp only [Act.put]
  clear HG1
  have hs1 : w.heap.size < ((w.alloc (.cells (evAr (ev0 0 0 0 0 0 false) nilV nilV nilV) evT)).setCells w.heap.size 0 (evAr awA nilV nilV nilV).toList).heap.size := hX1.lt
  generalize (w.alloc (.cells (evAr (ev0 0 0 0 0 0 false) nilV nilV nilV) evT)).setCells w.heap.size 0 (evAr awA nilV nilV nilV).toList = w1 at hB1 hX1 hs1 ⊢
  obtain ⟨g1, hg1⟩ : ∃ g, g = w.heap.size := ⟨_, rfl⟩
  rw [← hg1] at hX1 hs1 ⊢
  have HG2 := hid (Hb.arr w1 (evAr (ev0 0 0 0 0 0 false) nilV nilV nilV) evT)
  go_upto_region 3 with (refine wp_st_of rfl _ _ _ rfl rfl rfl (st_ev (HG2.out.less (by simp)) awF none 0 0 none 0 0 none 0 0) ?_)
  have hB2 : Below w1.heap.size w1 ((w1.alloc (.cells (evAr (ev0 0 0 0 0 0 false) nilV nilV nilV) evT)).setCells w1.heap.size 0 (evAr awF nilV nilV nilV).toList) := (Fr.sets (T := []) (.inl (Nat.le_refl _)) _ _ ((Fr.refl [] w1).alloc _)).to_below
  have hX2 : BxE ((w1.alloc (.cells (evAr (ev0 0 0 0 0 0 false) nilV nilV nilV) evT)).setCells w1.heap.size 0 (evAr awF nilV nilV nilV).toList) w1.heap.size awF := (((HG2.out.less (N' := 23) (by simp)).storeA (evAr awF nilV nilV nilV) (by simp)).congr (g := evF awF nilV nilV nilV) (evAr_F _ _ _ _))
  simp only [Act.put]
  clear HG2
  have hs2 : w1.heap.size < ((w1.alloc (.cells (evAr (ev0 0 0 0 0 0 false) nilV nilV nilV) evT)).setCells w1.heap.size 0 (evAr awF nilV nilV nilV).toList).heap.size := hX2.lt
  generalize (w1.alloc (.cells (evAr (ev0 0 0 0 0 0 false) nilV nilV nilV) evT)).setCells w1.heap.size 0 (evAr awF nilV nilV nilV).toList = w2 at hB2 hX2 hs2 ⊢
  obtain ⟨g2, hg2⟩ : ∃ g, g = w1.heap.size := ⟨_, rfl⟩
  rw [← hg2] at hX2 hs2 ⊢
  have HG3 := hid (Hb.arr w2 (evAr (ev0 0 0 0 0 0 false) nilV nilV nilV) evT)
  go_upto_region 4 with (refine wp_st_of rfl _ _ _ rfl rfl rfl (st_ev (HG3.out.less (by simp)) awB none 0 0 none 0 0 none 0 0) ?_)
  have hB3 : Below w2.heap.size w2 ((w2.alloc (.cells (evAr (ev0 0 0 0 0 0 false) nilV nilV nilV) evT)).setCells w2.heap.size 0 (evAr awB nilV nilV nilV).toList) := (Fr.sets (T := []) (.inl (Nat.le_refl _)) _ _ ((Fr.refl [] w2).alloc _)).to_below
  have hX3 : BxE ((w2.alloc (.cells (evAr (ev0 0 0 0 0 0 false) nilV nilV nilV) evT)).setCells w2.heap.size 0 (evAr awB nilV nilV nilV).toList) w2.heap.size awB := (((HG3.out.less (N' := 23) (by simp)).storeA (evAr awB nilV nilV nilV) (by simp)).congr (g := evF awB nilV nilV nilV) (evAr_F _ _ _ _))
  simp only [Act.put]
  clear HG3
  have hs3 : w2.heap.size < ((w2.alloc (.cells (evAr (ev0 0 0 0 0 0 false) nilV nilV nilV) evT)).setCells w2.heap.size 0 (evAr awB nilV nilV nilV).toList).heap.size := hX3.lt
  generalize (w2.alloc (.cells (evAr (ev0 0 0 0 0 0 false) nilV nilV nilV) evT)).setCells w2.heap.size 0 (evAr awB nilV nilV nilV).toList = w3 at hB3 hX3 hs3 ⊢
  obtain ⟨g3, hg3⟩ : ∃ g, g = w2.heap.size := ⟨_, rfl⟩
  rw [← hg3] at hX3 hs3 ⊢
  have X1 : BxE w3 g1 awA := (hX1.below hB2 (by omega)).below hB3 (by omega)
  have HB3 := hid (hB1.trans ((hB2.trans (hB3.mono hB2.size)).mono hB1.size))
  have X2 : BxE w3 g2 awF := hX2.below hB3 (by omega)
  have X3 := hid hX3
  have X1 := hid X1
  have X2 := hid X2
  clear hB1 hB2 hB3 hX1 hX2 hX3 hs1 hs2 hs3 hg1 hg2 hg3
  have l1 := load_ev X1.out
  have l2 := load_ev X2.out
  have l3 := load_ev X3.out
  have HC := hid (aw3_call w3)
  go_wp2_with (first
    | (go_at_call 7; refine (HC.out _ rfl).mono ?_; rintro x w5 ⟨rfl, hB5⟩; have HB5 := hid (HB3.out.trans (hB5.mono HB3.out.size)); have l1 := load_ev (X1.out.below hB5 X1.out.lt); have l3 := load_ev (X3.out.below hB5 X3.out.lt); clear hB5 HC l2; have HC := hid (aw2_call w5))
    | (go_at_call 7; refine (HC.out _ rfl).mono ?_; rintro x w6 ⟨rfl, hB6⟩; have HB6 := hid (HB5.out.trans (hB6.mono HB5.out.size)); clear hB6)
    | (refine wp_ld_g (by rfl) _ _ rfl rfl l1 ?_)
    | (refine wp_ld_g (by rfl) _ _ rfl rfl l2 ?_)
    | (refine wp_ld_g (by rfl) _ _ rfl rfl l3 ?_))
  go_ret
  exact ⟨rfl, HB6.out⟩
end Go.Proofs.Ytchjjbcmbdmlgaa
