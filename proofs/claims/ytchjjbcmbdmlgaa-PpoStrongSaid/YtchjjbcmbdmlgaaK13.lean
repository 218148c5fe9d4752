/- Pme16, Rnw16, Inw16. -/
import Derived.Test.YtchjjbcmbdmlgaaK08
import Derived.Test.YtchjjbcmbdmlgaaK09
import Derived.Test.YtchjjbcmbdmlgaaK10
import Derived.Test.YtchjjbcmbdmlgaaK11
import Derived.Test.YtchjjbcmbdmlgaaK12
import Derived.Test.YtchjjbcmbdmlgaaRfs16
set_option linter.unusedVariables false
set_option linter.unusedSimpArgs false
namespace Go.Proofs.Ytchjjbcmbdmlgaa
open Go Go.RowKit Sim
theorem evA_box (w : World) (e : EvZ) (va vd vc : Value) : EvA (w.alloc (.cells (evAr e va vd vc) evT)) w.heap.size 0 e va vd vc := fun k hk => by
  have h := (Hb.arr w (evAr e va vd vc) evT).cell (i := k) (by simpa using hk)
  rw [Nat.zero_add, h]
  have : ∀ k, k < 23 → arrF (evAr e va vd vc) k = evF e va vd vc k := lt23 ⟨rfl, rfl, rfl, rfl, rfl, rfl, rfl, rfl, rfl, rfl, rfl, rfl, rfl, rfl, rfl, rfl, rfl, rfl, rfl, rfl, rfl, rfl, rfl⟩
  rw [this k hk]
theorem ppoMemory_w {w : World} {e : EvZ} {va vd vc : Value} : Calls Try.prog 14 #[.agg (evAr e va vd vc)] w fun x w' => x = .returned (.bool (memB e)) ∧ Below w.heap.size w w' := by
  have HB := hid ((Below.refl w.heap.size w).alloc (Nat.le_refl _) (.cells (evAr e va vd vc) evT))
  have HM := hid (isMemory_w (evA_box w e va vd vc))
  go_enter Try.func14, Try.ntmps14
  go_wp2_with (go_at_call 31; refine HM.out.mono ?_; rintro x w' ⟨rfl, rfl⟩)
  go_ret
  exact ⟨rfl, HB.out⟩
theorem stoB_eq (op : Int) : (wideB op && formZ op == 11) = (decide (79 ≤ op ∧ op ≤ 87) || op == 78) := by
  rcases op_cases op with ⟨n, h1, h2, rfl⟩ | h
  · have hall : (List.range 88).all (fun n => (wideB (n : Nat) && formZ (n : Nat) == 11) == (decide (79 ≤ ((n : Nat) : Int) ∧ ((n : Nat) : Int) ≤ 87) || ((n : Nat) : Int) == 78)) = true := by kernel_rfl
    exact eq_of_beq (List.all_eq_true.mp hall n (List.mem_range.mpr h2))
  · rw [formZ_out h, decide_eq_false (by omega)]
    have : (op == 78) = false := by simp; omega
    rw [this]
    cases wideB op <;> rfl
end Go.Proofs.Ytchjjbcmbdmlgaa
namespace Go.Proofs.Ytchjjbcmbdmlgaa
open Go Go.RowKit Sim
def RecN (w : World) (b o : Nat) : Prop := ∃ r : RkA, isN r.val ∧ ∀ k, k < 6 → w.cell? ⟨b, o + k, none⟩ = some (arrF (rkA r) k)
def CdN (w : World) (B : Nat) (qh : Option Addr) (nh : Nat) (L : Nat → Nat) : Prop := 0 < nh → ∃ b o, qh = some ⟨b, o, none⟩ ∧ b < B ∧ ∀ j, j < nh → ∃ q c, w.cell? ⟨b, o + j, none⟩ = some (.slice q (L j) c) ∧ L j ≤ maxLen ∧ (0 < L j → ∃ b' o', q = some ⟨b', o', none⟩ ∧ b' < B ∧ ∀ i, i < L j → RecN w b' (o' + i * 6))
theorem CdN.below {w w' : World} {B : Nat} {qh : Option Addr} {nh : Nat} {L : Nat → Nat} (h : CdN w B qh nh L) (hb : Below B w w') : CdN w' B qh nh L := fun hp => by
  obtain ⟨b, o, rfl, hl, hx⟩ := h hp
  refine ⟨b, o, rfl, hl, fun j hj => ?_⟩
  obtain ⟨q, c, e, hm, hr⟩ := hx j hj
  refine ⟨q, c, (hb.cell (p := ⟨b, _, none⟩) hl).trans e, hm, fun hp => ?_⟩
  obtain ⟨b', o', rfl, hl', hx'⟩ := hr hp
  refine ⟨b', o', rfl, hl', fun i hi => ?_⟩
  obtain ⟨r, hv, hc⟩ := hx' i hi
  exact ⟨r, hv, fun k hk => (hb.cell (p := ⟨b', _, none⟩) hl').trans (hc k hk)⟩
theorem RowW.grow {B B' : Nat} {E : Nat → Nat → Prop} {S : Nat} {q : Option Addr} {n : Nat} (h : RowW B E S q n) (hB : B ≤ B') : RowW B' E S q n := fun hp => by
  obtain ⟨b, o, e, hb, hx⟩ := h hp
  exact ⟨b, o, e, Nat.lt_of_lt_of_le hb hB, hx⟩
theorem CdW.grow {w : World} {B B' : Nat} {qh qr : Option Addr} {nh nr : Nat} (h : CdW w B qh nh qr nr) (hB : B ≤ B') : CdW w B' qh nh qr nr :=
  ⟨h.lh, h.lr, (h.hs.grow hB).mono fun _ _ _ ⟨q, n, c, e, hn, hr⟩ => ⟨q, n, c, e, hn, hr.grow hB⟩, (h.rs.grow hB).mono fun _ _ _ ⟨x, q, n, c, e, e2, hn, hr⟩ => ⟨x, q, n, c, e, e2, hn, hr.grow hB⟩⟩
def sumN16 (L : Nat → Nat) : Nat → Nat
  | 0 => 0
  | n + 1 => sumN16 L n + L n
theorem sumN16_le (L : Nat → Nat) (K : Nat) : ∀ n, (∀ j, j < n → L j ≤ K) → sumN16 L n ≤ n * K
  | 0, _ => Nat.zero_le _
  | n + 1, h => by
    have := sumN16_le L K n fun j hj => h j (by omega)
    have := h n (by omega)
    show sumN16 L n + L n ≤ _
    rw [Nat.succ_mul]; omega
def EvsZ.push (E : EvsZ) (m : Nat) (e : EvZ) (va vd vc : Value) : EvsZ := ⟨updF E.e m e, updF E.a m va, updF E.d m vd, updF E.c m vc⟩
def evRow (E : EvsZ) : Nat → List Value
  | 0 => []
  | m + 1 => evRow E m ++ evL (E.e m) (E.a m) (E.d m) (E.c m)
theorem evL_len (e : EvZ) (va vd vc : Value) : (evL e va vd vc).length = 23 := rfl
theorem evRow_len (E : EvsZ) : ∀ m, (evRow E m).length = m * 23
  | 0 => rfl
  | m + 1 => by rw [evRow, List.length_append, evRow_len E m, evL_len]; omega
theorem evRow_congr {E E' : EvsZ} : ∀ m, (∀ i, i < m → E.e i = E'.e i ∧ E.a i = E'.a i ∧ E.d i = E'.d i ∧ E.c i = E'.c i) → evRow E m = evRow E' m
  | 0, _ => rfl
  | m + 1, h => by
    obtain ⟨h1, h2, h3, h4⟩ := h m (by omega)
    rw [evRow, evRow, evRow_congr m fun i hi => h i (by omega), h1, h2, h3, h4]
theorem evRow_push (E : EvsZ) (m : Nat) (e : EvZ) (va vd vc : Value) : evRow (E.push m e va vd vc) (m + 1) = evRow E m ++ evL e va vd vc := by
  rw [evRow, evRow_congr (E' := E) m fun i hi => ⟨updF_other _ _ (by omega), updF_other _ _ (by omega), updF_other _ _ (by omega), updF_other _ _ (by omega)⟩]
  simp [EvsZ.push, updF_same]
theorem evRow_get (E : EvsZ) {m i k : Nat} (hi : i < m) (hk : k < 23) : (evRow E m)[i * 23 + k]? = some (evF (E.e i) (E.a i) (E.d i) (E.c i) k) := by
  induction m with
  | zero => omega
  | succ m ih =>
    rw [evRow]
    by_cases e : i = m
    · subst e
      rw [List.getElem?_append_right (by rw [evRow_len]; omega), evRow_len, Nat.add_sub_cancel_left]
      unfold evF
      rw [List.getD_eq_getElem?_getD, List.getElem?_eq_getElem (by rw [evL_len]; exact hk)]; rfl
    · rw [List.getElem?_append_left (by rw [evRow_len]; omega)]
      exact ih (by omega)
theorem evsL_of {w : World} {B m : Nat} {v : Value} {E : EvsZ} (h : w.ownsRow B evT 23 v m (evRow E m)) : EvsL w v m E := by
  rcases h.2 with ⟨rfl, h0⟩ | ⟨g, cap, cur, rfl, hg, hh, _⟩
  · subst h0; exact ⟨none, 0, rfl, fun hp => by omega⟩
  · refine ⟨_, cap, rfl, fun _ => ⟨g, 0, rfl, fun i hi k hk => ?_⟩⟩
    rw [Nat.zero_add, World.ownsRow.cellAt h (i * 23 + k) (by omega), evRow_get E hi hk]
theorem info_three {i : Option TypeInfo} {s n b : Nat} (h : i.map (fun i => (i.zero.map (·.cells.size), i.size, i.bytes)) = some (some s, n, b)) : ∃ i0 z, i = some i0 ∧ i0.zero = some z ∧ i0.size = n ∧ i0.bytes = b ∧ z.cells.size = s := by
  cases i with
  | none => cases h
  | some i0 =>
    simp only [Option.map_some, Option.some.injEq, Prod.mk.injEq] at h
    obtain ⟨h1, h2, h3⟩ := h
    cases hz : i0.zero with
    | none => rw [hz] at h1; cases h1
    | some z => rw [hz] at h1; simp at h1; exact ⟨i0, z, rfl, hz, h2, h3, h1⟩
theorem evInfo16 : (Try.prog.info? 45).map (fun i => (i.zero.map (·.cells.size), i.size, i.bytes)) = some (some 23, 23, 208) := by kernel_rfl
theorem liInfo16 : (Try.prog.info? 23).map (fun i => (i.zero.map (·.cells.size), i.size, i.bytes)) = some (some 1, 1, 24) := by kernel_rfl
structure EvG (w : World) (M : List Nat) (N : Nat) (e : EvZ) (va vd vc : Value) : Prop where
  kn : (e.rd || e.wr) = true → e.kn = true
  fe : e.i.op = 63 → 0 ≤ e.i.imm ∧ e.i.imm ≤ 255
  la : LsW w M N va
  ld : LsW w M N vd
  lc : LsW w M N vc
theorem EvG.fr {w w' : World} {M M' T : List Nat} {N : Nat} {e : EvZ} {va vd vc : Value} (h : EvG w M N e va vd vc) (hf : Fr T w w') (hT : ∀ k, k ∈ T → k ∈ M ∨ w.heap.size ≤ k) (hM : ∀ k, k ∈ M' → k ∈ M ∨ w.heap.size ≤ k) : EvG w' M' N e va vd vc :=
  ⟨h.kn, h.fe, h.la.fr hf hT hM, h.ld.fr hf hT hM, h.lc.fr hf hT hM⟩
theorem EvG.mono {w : World} {M : List Nat} {N N' : Nat} {e : EvZ} {va vd vc : Value} (h : EvG w M N e va vd vc) (hN : N ≤ N') : EvG w M N' e va vd vc := ⟨h.kn, h.fe, h.la.mono hN, h.ld.mono hN, h.lc.mono hN⟩
structure RnJ (w wr : World) (im cd : Array Value) (M : List Nat) (E : EvsZ) (vo vt : Value) (m t : Nat) (no : Nat) : Prop where
  bel : Below w.heap.size w wr
  b2 : Hb wr w.heap.size 25 3 (arrF im)
  b3 : Hb wr (w.heap.size + 1) 29 2 (arrF cd)
  own : wr.ownsRow w.heap.size evT 23 vo m (evRow E m)
  tap : ∃ ys, wr.ownsRow w.heap.size 23 1 vt t ys
  oin : ∀ b, vo.ownBlock = some b → b ∈ M
  tin : ∀ b, vt.ownBlock = some b → b ∈ M
  lt : ∀ x, x ∈ M → x < wr.heap.size
  ge : ∀ x, x ∈ M → w.heap.size + 2 ≤ x
  ev : ∀ i, i < m → EvG wr M m (E.e i) (E.a i) (E.d i) (E.c i)
  up : ∀ i j, i < j → j < m → (E.e i).ht ≤ (E.e j).ht
  top : ∀ i, i < m → (E.e i).ht ≤ (no : Int)
  sz : w.heap.size + 2 ≤ wr.heap.size
section
variable {w wr w' : World} {im cd : Array Value} {M : List Nat} {E : EvsZ} {vo vt : Value} {m t no : Nat}
theorem RnJ.fr (H : RnJ w wr im cd M E vo vt m t no) {T M' : List Nat} (hf : Fr T wr w') (hT : ∀ k, k ∈ T → k ∈ M ∨ wr.heap.size ≤ k) (ho : ∀ b, vo.ownBlock = some b → b ∉ T) (ht : ∀ b, vt.ownBlock = some b → b ∉ T) (hM1 : ∀ k, k ∈ M → k ∈ M') (hM : ∀ k, k ∈ M' → k ∈ M ∨ wr.heap.size ≤ k) (hl : ∀ x, x ∈ M' → x < w'.heap.size) : RnJ w w' im cd M' E vo vt m t no := by
  obtain ⟨ys, hy⟩ := H.tap
  have hsz := H.sz
  have hnT : ∀ k, k < w.heap.size + 2 → k ∉ T := fun k hk hm => by
    rcases hT k hm with h | h
    · have := H.ge k h; omega
    · omega
  exact ⟨H.bel.trans ⟨hf.os, hf.tape, hf.output, hf.size, fun k hk => hf.block k (by omega) (hnT k (by omega))⟩, H.b2.fr hf (hnT _ (by omega)), H.b3.fr hf (hnT _ (by omega)), owns_fr H.own hf ho, ⟨ys, owns_fr hy hf ht⟩, fun b hb => hM1 _ (H.oin b hb), fun b hb => hM1 _ (H.tin b hb), hl,
    fun x hx => (hM x hx).elim (H.ge x) (fun h => by omega), fun i hi => (H.ev i hi).fr hf hT hM, H.up, H.top, Nat.le_trans H.sz hf.size⟩
theorem RnJ.same (H : RnJ w wr im cd M E vo vt m t no) (hB : Below wr.heap.size wr w') : RnJ w w' im cd M E vo vt m t no :=
  H.fr (T := []) (Fr.of_below hB) (by simp) (by simp) (by simp) (fun _ h => h) (fun _ h => .inl h) fun x hx => Nat.lt_of_lt_of_le (H.lt x hx) hB.size
theorem RnJ.push (H : RnJ w wr im cd M E vo vt m t no) {vo' : Value} {e : EvZ} {va vd vc : Value} (ho : w'.ownsRow w.heap.size evT 23 vo' (m + 1) (evRow E m ++ evL e va vd vc)) (hg : wr.grownBy w' vo.ownBlock) (hn : ∀ g, vo'.ownBlock = some g → vo.ownBlock = some g ∨ wr.heap.size ≤ g)
    (he : EvG wr M (m + 1) e va vd vc) (hh : e.ht = no) (hne : ∀ b, vt.ownBlock = some b → vo.ownBlock ≠ some b) : RnJ w w' im cd (M ++ ownL vo') (E.push m e va vd vc) vo' vt (m + 1) t no := by
  obtain ⟨ys, hy⟩ := H.tap
  have hsz := H.sz
  have hf : Fr (ownL vo) wr w' := ⟨hg.os, hg.tape, hg.output, hg.size, fun k hk hn => hg.block k hk fun e => hn (by unfold ownL; rw [← e]; simp)⟩
  have hin : ∀ k, k ∈ ownL vo → k ∈ M := fun k hk => by
    unfold ownL at hk
    split at hk
    · rename_i b hb; simp at hk; subst hk; exact H.oin _ hb
    · simp at hk
  have hT : ∀ k, k ∈ ownL vo → k ∈ M ∨ wr.heap.size ≤ k := fun k hk => .inl (hin k hk)
  have hown : ∀ g, g ∈ ownL vo' → vo'.ownBlock = some g := fun g hg => by
    unfold ownL at hg
    split at hg
    · rename_i b hb; simp at hg; subst hg; exact hb
    · simp at hg
  have hM : ∀ k, k ∈ M ++ ownL vo' → k ∈ M ∨ wr.heap.size ≤ k := fun k hk => by
    rcases List.mem_append.1 hk with h | h
    · exact .inl h
    · rcases hn k (hown k h) with h | h
      · exact .inl (H.oin k h)
      · exact .inr h
  have hnT : ∀ k, k < w.heap.size + 2 → k ∉ ownL vo := fun k hk hm => by have := H.ge k (hin k hm); omega
  refine ⟨H.bel.trans ⟨hf.os, hf.tape, hf.output, hf.size, fun k hk => hf.block k (by omega) (hnT k (by omega))⟩, H.b2.fr hf (hnT _ (by omega)), H.b3.fr hf (hnT _ (by omega)), by rw [evRow_push]; exact ho,
    ⟨ys, owns_fr hy hf fun b hb hm => ?_⟩, fun b hb => ?_, fun b hb => List.mem_append_left _ (H.tin b hb), fun x hx => ?_, fun x hx => ?_, fun i hi => ?_, fun i j hij hj => ?_, fun i hi => ?_, Nat.le_trans H.sz hf.size⟩
  · unfold ownL at hm
    split at hm
    · rename_i b' hb'; simp at hm; subst hm; exact hne _ hb hb'
    · simp at hm
  · exact List.mem_append_right _ (by unfold ownL; rw [hb]; simp)
  · rcases hM x hx with h | h
    · exact Nat.lt_of_lt_of_le (H.lt x h) hf.size
    · rcases List.mem_append.1 hx with h2 | h2
      · exact Nat.lt_of_lt_of_le (H.lt x h2) hf.size
      · exact (ho.lt x (hown x h2)).2
  · rcases hM x hx with h | h
    · exact H.ge x h
    · omega
  · by_cases e1 : i = m
    · subst e1
      simp only [EvsZ.push, updF_same]
      exact he.fr hf hT hM
    · simp only [EvsZ.push, updF_other _ _ e1]
      exact ((H.ev i (by omega)).mono (by omega)).fr hf hT hM
  · by_cases e1 : j = m
    · subst e1
      simp only [EvsZ.push, updF_same, updF_other _ _ (show i ≠ j by omega)]
      rw [hh]; exact H.top i hij
    · simp only [EvsZ.push, updF_other _ _ e1, updF_other _ _ (show i ≠ m by omega)]
      exact H.up i j hij (by omega)
  · by_cases e1 : i = m
    · subst e1
      simp only [EvsZ.push, updF_same]
      rw [hh]; exact Int.le_refl _
    · simp only [EvsZ.push, updF_other _ _ e1]
      exact H.top i (by omega)
theorem RnJ.tape (H : RnJ w wr im cd M E vo vt m t no) {vt' : Value} {ys : List Value} (ho : w'.ownsRow w.heap.size 23 1 vt' (t + 1) ys) (hg : wr.grownBy w' vt.ownBlock) (hn : ∀ g, vt'.ownBlock = some g → vt.ownBlock = some g ∨ wr.heap.size ≤ g) (hne : ∀ b, vo.ownBlock = some b → vt.ownBlock ≠ some b) :
    RnJ w w' im cd (M ++ ownL vt') E vo vt' m (t + 1) no := by
  have hsz := H.sz
  have hf : Fr (ownL vt) wr w' := ⟨hg.os, hg.tape, hg.output, hg.size, fun k hk hn => hg.block k hk fun e => hn (by unfold ownL; rw [← e]; simp)⟩
  have hin : ∀ k, k ∈ ownL vt → k ∈ M := fun k hk => by
    unfold ownL at hk
    split at hk
    · rename_i b hb; simp at hk; subst hk; exact H.tin _ hb
    · simp at hk
  have hT : ∀ k, k ∈ ownL vt → k ∈ M ∨ wr.heap.size ≤ k := fun k hk => .inl (hin k hk)
  have hown : ∀ g, g ∈ ownL vt' → vt'.ownBlock = some g := fun g hg => by
    unfold ownL at hg
    split at hg
    · rename_i b hb; simp at hg; subst hg; exact hb
    · simp at hg
  have hM : ∀ k, k ∈ M ++ ownL vt' → k ∈ M ∨ wr.heap.size ≤ k := fun k hk => by
    rcases List.mem_append.1 hk with h | h
    · exact .inl h
    · rcases hn k (hown k h) with h | h
      · exact .inl (H.tin k h)
      · exact .inr h
  have hnT : ∀ k, k < w.heap.size + 2 → k ∉ ownL vt := fun k hk hm => by have := H.ge k (hin k hm); omega
  refine ⟨H.bel.trans ⟨hf.os, hf.tape, hf.output, hf.size, fun k hk => hf.block k (by omega) (hnT k (by omega))⟩, H.b2.fr hf (hnT _ (by omega)), H.b3.fr hf (hnT _ (by omega)), owns_fr H.own hf fun b hb hm => ?_,
    ⟨ys, ho⟩, fun b hb => List.mem_append_left _ (H.oin b hb), fun b hb => ?_, fun x hx => ?_, fun x hx => ?_, fun i hi => (H.ev i hi).fr hf hT hM, H.up, H.top, Nat.le_trans H.sz hf.size⟩
  · unfold ownL at hm
    split at hm
    · rename_i b' hb'; simp at hm; subst hm; exact hne _ hb hb'
    · simp at hm
  · exact List.mem_append_right _ (by unfold ownL; rw [hb]; simp)
  · rcases hM x hx with h | h
    · exact Nat.lt_of_lt_of_le (H.lt x h) hf.size
    · rcases List.mem_append.1 hx with h2 | h2
      · exact Nat.lt_of_lt_of_le (H.lt x h2) hf.size
      · exact (ho.lt x (hown x h2)).2
  · rcases hM x hx with h | h
    · exact H.ge x h
    · omega
theorem RnJ.next (H : RnJ w wr im cd M E vo vt m t no) {no' : Nat} (h : no ≤ no') : RnJ w wr im cd M E vo vt m t no' := ⟨H.bel, H.b2, H.b3, H.own, H.tap, H.oin, H.tin, H.lt, H.ge, H.ev, H.up, fun i hi => by have := H.top i hi; omega, H.sz⟩
theorem RnJ.apart (H : RnJ w wr im cd M E vo vt m t no) : ∀ b, vt.ownBlock = some b → vo.ownBlock ≠ some b := fun b hb hb2 => by
  obtain ⟨ys, hy⟩ := H.tap
  rcases H.own.2 with ⟨rfl, _⟩ | ⟨g, cap, cur, rfl, _, hg, _⟩
  · cases hb2
  · rcases hy.2 with ⟨rfl, _⟩ | ⟨g', cap', cur', rfl, _, hg', _⟩
    · cases hb
    · simp [Value.ownBlock] at hb hb2
      subst hb hb2
      rw [hg] at hg'
      simp at hg'
      exact absurd hg'.2 (by decide)
end
theorem mem_ownL {v : Value} {g : Nat} : g ∈ ownL v ↔ v.ownBlock = some g := by
  unfold ownL
  split
  · rename_i b hb; rw [hb]; simp [eq_comm]
  · rename_i hb; simp [hb]
theorem owns_ne2 {w : World} {B B' n n' s s' : Nat} {t t' : TypeId} {v v' : Value} {xs xs' : List Value} (h : w.ownsRow B t s v n xs) (h' : w.ownsRow B' t' s' v' n' xs') (hne : t ≠ t') : ∀ b, v.ownBlock = some b → v'.ownBlock ≠ some b := fun b hb hb2 => by
  rcases h.2 with ⟨rfl, _⟩ | ⟨g, cap, cur, rfl, _, hg, _⟩
  · cases hb
  · rcases h'.2 with ⟨rfl, _⟩ | ⟨g', cap', cur', rfl, _, hg', _⟩
    · cases hb2
    · simp [Value.ownBlock] at hb hb2
      subst hb hb2
      rw [hg] at hg'
      simp at hg'
      exact hne hg'.2
section
variable {w w' : World} {h eb N B n : Nat} {M M' T : List Nat} {no : Int} {S : HZ}
theorem HtT.frM (H : HtT w h M N B n S) (hf : Fr T w w') (hh : h ∉ T) (hT : ∀ k, k ∈ T → k ∈ M ∨ w.heap.size ≤ k) (ht : ∀ b, S.tp.ownBlock = some b → b ∉ T) (hM1 : ∀ k, k ∈ M → k ∈ M') (hM : ∀ k, k ∈ M' → k ∈ M ∨ w.heap.size ≤ k) (hl : ∀ x, x ∈ M' → x < w'.heap.size) : HtT w' h M' N B n S := by
  obtain ⟨xs, ho⟩ := H.own
  exact ⟨H.ok.fr hf hh hT hM (hM1 _ H.ok.inn), ⟨xs, owns_fr ho hf ht⟩, Nat.le_trans H.base hf.size, H.len, fun b hb => hM1 _ (H.inn b hb), hl, H.nn⟩
theorem HtT.mono (H : HtT w h M N B n S) {N' : Nat} (h1 : N ≤ N') (h2 : N' ≤ 100000) : HtT w h M N' B n S := ⟨H.ok.mono h1, H.own, H.base, H.len, H.inn, H.lt, h2⟩
theorem StP.take (H : StP w w' h eb M N B n no S) (hh : h ∈ M) (he : eb ∈ M) (hl : ∀ x, x ∈ M → x < w.heap.size) (hB : B ≤ w.heap.size) (hn : n + 1 ≤ 10000) (hN : N ≤ 100000) :
    ∃ S' n' e' va vd vc, HtT w' h (M ++ ownL S'.tp) N B n' S' ∧ EvQ w' eb (M ++ ownL S'.tp) N no e' va vd vc ∧ n' ≤ n + 1 ∧ Fr (h :: eb :: ownL S.tp) w w' ∧ (∀ x, x ∈ M ++ ownL S'.tp → x ∈ M ∨ w.heap.size ≤ x) := by
  obtain ⟨S', M', n', xs, e', va, vd, vc, h1, h2, h3, h4, h5, h6, h7, h8⟩ := H
  have hsub : ∀ x, x ∈ M ++ ownL S'.tp → x ∈ M' := fun x hx => by
    rcases List.mem_append.1 hx with h | h
    · exact h3 x h
    · exact h7 x (mem_ownL.1 h)
  have hlt : ∀ x, x ∈ M ++ ownL S'.tp → x < w'.heap.size := fun x hx => by
    rcases List.mem_append.1 hx with h | h
    · exact Nat.lt_of_lt_of_le (hl x h) h8.size
    · exact (h5.lt x (mem_ownL.1 h)).2
  have hin : h ∈ M ++ ownL S'.tp := List.mem_append_left _ hh
  exact ⟨S', n', e', va, vd, vc, ⟨h1.fr (T := []) (Fr.refl _ _) (by simp) (by simp) (fun k hk => .inl (hsub k hk)) hin, ⟨xs, h5⟩, Nat.le_trans hB h8.size, by omega, fun b hb => List.mem_append_right _ (mem_ownL.2 hb), hlt, hN⟩,
    h2.frM (T := []) (Fr.refl _ _) (by simp) (by simp) (fun k hk => .inl (hsub k hk)) (List.mem_append_left _ he), h6, h8, fun x hx => h4 x (hsub x hx)⟩
end
structure EvsOk (w : World) (v : Value) (n : Nat) (E : EvsZ) : Prop where
  lies : EvsL w v n E
  up : ∀ i j, i < j → j < n → (E.e i).ht ≤ (E.e j).ht
  kn : ∀ i, i < n → ((E.e i).rd || (E.e i).wr) = true → (E.e i).kn = true
  fe : ∀ i, i < n → (E.e i).i.op = 63 → 0 ≤ (E.e i).i.imm ∧ (E.e i).i.imm ≤ 255
  ls : ∀ i, i < n → LsW w [] n (E.a i) ∧ LsW w [] n (E.d i) ∧ LsW w [] n (E.c i)
theorem RnJ.evs {w wr : World} {im cd : Array Value} {M : List Nat} {E : EvsZ} {vo vt : Value} {m t no : Nat} (H : RnJ w wr im cd M E vo vt m t no) : EvsOk wr vo m E :=
  have hm : ∀ {v}, LsW wr M m v → LsW wr [] m v := fun h => h.fr (T := []) (Fr.refl _ _) (by simp) (by simp)
  ⟨evsL_of H.own, H.up, fun i hi => (H.ev i hi).kn, fun i hi => (H.ev i hi).fe, fun i hi => ⟨hm (H.ev i hi).la, hm (H.ev i hi).ld, hm (H.ev i hi).lc⟩⟩
theorem EvsOk.empty (w : World) (E : EvsZ) : EvsOk w (.slice none 0 0) 0 E := ⟨⟨none, 0, rfl, fun h => by omega⟩, fun _ _ _ h => by omega, fun _ h => by omega, fun _ h => by omega, fun _ h => by omega⟩
end Go.Proofs.Ytchjjbcmbdmlgaa
namespace Go.Proofs.Ytchjjbcmbdmlgaa
open Go Go.RowKit Sim
section
variable {P : Program} {ops : Array Oper} {Q : Exit → Act → World → Prop} {S : World → Prop} {l : Nat}
theorem last_wp {n i : Nat} {listed : Array Bool} {a : Act} {w : World} (o : Oper) (hr : Region.ready .any ops listed = [i]) (ho : ops[i]? = some o) (hw : Region.wanted o (yielded ops a.tmps) = true)
    (h : o.wp P a w (fun a' w' => (i = l ∨ S w') ∧ wpL P ops Q S l n (listed.setIfInBounds i true) a' w') Q) : wpL P ops Q S l (n + 1) listed a w :=
  ⟨(fun h0 => by (rw [hr] at h0; cases h0)), fun j hj => by
    rw [hr] at hj
    have hj : j = i := by simpa using hj
    subst hj
    unfold wpOp
    rw [ho]
    show if Region.wanted o (yielded ops a.tmps) = true then _ else _
    rw [if_pos hw]
    exact .inl h⟩
theorem wp_skp {o : Oper} {a : Act} {w w' : World} {K : Act → World → Prop} (hv : (execOp a.eval o).run P w = .ok .skip w') (h : K (a.put o.dst undef) w') : o.wp P a w K Q := by
  unfold Oper.wp
  rw [hv]
  exact h
theorem last_op {n i : Nat} {listed : Array Bool} {a : Act} {w w' : World} (o : Oper) {v : Value} (hr : Region.ready .any ops listed = [i]) (ho : ops[i]? = some o) (hw : Region.wanted o (yielded ops a.tmps) = true) (hv : (execOp a.eval o).run P w = .ok (.value v) w') (hS : i = l ∨ S w')
    (h : wpL P ops Q S l n (listed.setIfInBounds i true) (a.put o.dst v) w') : wpL P ops Q S l (n + 1) listed a w := last_wp o hr ho hw (wp_val hv ⟨hS, h⟩)
theorem last_skip {n i : Nat} {listed : Array Bool} {a : Act} {w w' : World} (o : Oper) (hr : Region.ready .any ops listed = [i]) (ho : ops[i]? = some o) (hw : Region.wanted o (yielded ops a.tmps) = true) (hv : (execOp a.eval o).run P w = .ok .skip w') (hS : i = l ∨ S w')
    (h : wpL P ops Q S l n (listed.setIfInBounds i true) (a.put o.dst undef) w') : wpL P ops Q S l (n + 1) listed a w := last_wp o hr ho hw (wp_skp hv ⟨hS, h⟩)
end
def refsV : List (Int × Int) → List Value
  | [] => []
  | p :: r => .int .i64 p.1 :: .int .i64 p.2 :: refsV r
theorem refsV_snoc (p : Int × Int) : ∀ l, refsV (l ++ [p]) = refsV l ++ [.int .i64 p.1, .int .i64 p.2]
  | [] => rfl
  | q :: r => by simp [refsV, refsV_snoc p r]
theorem refsV_get : ∀ (l : List (Int × Int)) (i : Nat) (h : i < l.length), (refsV l)[i * 2]? = some (.int .i64 l[i].1) ∧ (refsV l)[i * 2 + 1]? = some (.int .i64 l[i].2)
  | [], i, h => by simp at h
  | p :: r, 0, _ => ⟨rfl, rfl⟩
  | p :: r, i + 1, h => by
    have := refsV_get r i (by simpa using h)
    simp only [refsV, show (i + 1) * 2 = i * 2 + 1 + 1 by omega, List.getElem?_cons_succ, List.getElem_cons_succ]
    exact this
structure SpI (w : World) (B sb : Nat) (s : SpZ) (ps : List (Int × Int)) : Prop where
  row : Hb w sb 90 7 (spF s)
  own : w.ownsRow B 43 2 s.ps ps.length (refsV ps)
  sb : B ≤ sb
  base : B ≤ w.heap.size
theorem refInfoB : (Try.prog.info? 43).map (fun i => (i.zero.map (·.cells.size), i.size, i.bytes)) = some (some 2, 2, 16) := by kernel_rfl
section
variable {w w' : World} {B sb : Nat} {s : SpZ} {ps : List (Int × Int)}
theorem SpI.put (H : SpI w B sb s ps) (k : Nat) (v : Value) {s' : SpZ} (he : ∀ j, j < 7 → updF (spF s) k v j = spF s' j) (hp : s'.ps = s.ps) : SpI (w.setCell ⟨sb, k, none⟩ v) B sb s' ps := by
  have hf : Fr [sb] w (w.setCell ⟨sb, k, none⟩ v) := (Fr.refl [sb] w).set (.inr (List.mem_cons_self (a := sb) (l := []))) v
  exact ⟨(H.row.set v).congr he, by rw [hp]; exact owns_fr H.own hf (fun b hb hm => by simp at hm; subst hm; exact own_ne H.own H.row (by decide) hb), H.sb, by simpa [World.setCell] using H.base⟩
theorem SpI.same (H : SpI w B sb s ps) (hb : Below w.heap.size w w') : SpI w' B sb s ps := ⟨H.row.below hb H.row.lt, ownsRow_below H.own hb, H.sb, Nat.le_trans H.base hb.size⟩
theorem lt7' {P : Nat → Prop} (h : P 0 ∧ P 1 ∧ P 2 ∧ P 3 ∧ P 4 ∧ P 5 ∧ P 6) : ∀ k, k < 7 → P k := fun k hk => by
  obtain ⟨h0, h1, h2, h3, h4, h5, h6⟩ := h
  have : k = 0 ∨ k = 1 ∨ k = 2 ∨ k = 3 ∨ k = 4 ∨ k = 5 ∨ k = 6 := by omega
  rcases this with rfl | rfl | rfl | rfl | rfl | rfl | rfl <;> assumption
theorem SpI.setFen (H : SpI w B sb s ps) (x : Nat) : SpI (w.setCell ⟨sb, 2, none⟩ (.int .i64 x)) B sb { s with fen := x } ps := H.put 2 _ (lt7' (by simp [updF, spF])) rfl
theorem SpI.setRew (H : SpI w B sb s ps) (x : Bool) : SpI (w.setCell ⟨sb, 4, none⟩ (.bool x)) B sb { s with rew := x } ps := H.put 4 _ (lt7' (by simp [updF, spF])) rfl
theorem SpI.setRsv (H : SpI w B sb s ps) (x : Bool) : SpI (w.setCell ⟨sb, 5, none⟩ (.bool x)) B sb { s with rsv := x } ps := H.put 5 _ (lt7' (by simp [updF, spF])) rfl
theorem SpI.setAdr (H : SpI w B sb s ps) (x : Bool) : SpI (w.setCell ⟨sb, 6, none⟩ (.bool x)) B sb { s with adr := x } ps := H.put 6 _ (lt7' (by simp [updF, spF])) rfl
theorem SpI.setPs (H : SpI w B sb s ps) {v : Value} {p : Int × Int} (ho : w'.ownsRow B 43 2 v (ps.length + 1) (refsV ps ++ [.int .i64 p.1, .int .i64 p.2])) (hg : w.grownBy w' s.ps.ownBlock) : SpI (w'.setCell ⟨sb, 3, none⟩ v) B sb { s with ps := v } (ps ++ [p]) := by
  have hf : Fr (ownL s.ps) w w' := ⟨hg.os, hg.tape, hg.output, hg.size, fun k hk hn => hg.block k hk fun e => hn (mem_ownL.2 e.symm)⟩
  have hr := H.row.fr hf fun hm => own_ne H.own H.row (by decide) (mem_ownL.1 hm)
  have hf2 : Fr [sb] w' (w'.setCell ⟨sb, 3, none⟩ v) := (Fr.refl [sb] w').set (.inr (List.mem_cons_self (a := sb) (l := []))) v
  refine ⟨(hr.set v).congr (lt7' (by simp [updF, spF])), ?_, H.sb, by have := hg.size; have := H.base; simp [World.setCell]; omega⟩
  rw [List.length_append, refsV_snoc]
  exact owns_fr ho hf2 fun b hb hm => by simp at hm; subst hm; exact own_ne ho hr (by decide) hb
end
theorem owns_slc {W : World} {B n size : Nat} {ty : TypeId} {v : Value} {xs : List Value} (h : W.ownsRow B ty size v n xs) : ∃ q c, v = .slice q n c := by
  rcases h.2 with ⟨rfl, rfl⟩ | ⟨g, cap, cur, rfl, _⟩
  · exact ⟨_, _, rfl⟩
  · exact ⟨_, _, rfl⟩
noncomputable def incZ (s : SpZ) (e m : EvZ) (ia id' : Bool) (v : Value) : SpZ := { s with fen := s.fen ||| keptN e m, ps := v, rew := s.rew || (m.wr && sameB e m), rsv := s.rsv || rsvB m, adr := s.adr || ia }
def incP (ps : List (Int × Int)) (m : EvZ) (ia id' : Bool) : List (Int × Int) := if m.wr && (ia || id') then ps ++ [(m.ht, m.at')] else ps
end Go.Proofs.Ytchjjbcmbdmlgaa
