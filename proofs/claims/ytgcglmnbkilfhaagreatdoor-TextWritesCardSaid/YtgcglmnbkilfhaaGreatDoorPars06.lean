/- Parse reads back what Text writes (pure), and Parse's contract. -/
import Derived.Test.YtgcglmnbkilfhaaGreatDoorParse06
import Derived.Test.YtgcglmnbkilfhaaGreatDoorLaw06
namespace Go.Proofs.YtgcglmnbkilfhaaGreatDoor
open Go Go.RowKit Sim S2
set_option linter.unusedVariables false
set_option linter.unusedSimpArgs false

theorem toL_ext (s : ByteArray) (l h : Int) : toL (extZ s l h) = ((toL s).take h.toNat).drop l.toNat := by
  rw [extZ_eq]
  unfold toL
  rw [ByteArray.data_extract, Array.toList_extract, List.extract_eq_take_drop, List.drop_take]
/-- The letters of a layout filled in. -/
def fillL (g : UInt8 → List UInt8) : List UInt8 → List UInt8
  | [] => []
  | c :: l => (if sepB (c.toNat : Nat) = true then [c] else g c) ++ fillL g l
def relL (g : UInt8 → List UInt8) : List UInt8 → List (Int × ByteArray) → Prop
  | [], [] => True
  | c :: l, p :: z => p.1 = (c.toNat : Nat) ∧ toL p.2 = g c ∧ relL g l z
  | _, _ => False
def headSep : List UInt8 → Bool
  | [] => true
  | d :: _ => sepB (d.toNat : Nat) && decide (d.toNat < 128)
def okLay : List UInt8 → Bool
  | [] => true
  | c :: l => (sepB (c.toNat : Nat) || headSep l) && okLay l
theorem fill_head (g : UInt8 → List UInt8) : ∀ l, headSep l = true → headSep (fillL g l) = true
  | [], _ => rfl
  | d :: l, h => by
    have h' := h
    unfold headSep at h'
    rw [Bool.and_eq_true] at h'
    unfold fillL
    rw [if_pos h'.1]
    exact h
theorem enc_sep {c : UInt8} (h : sepB (c.toNat : Nat) = true) : toL (Utf8.encode (c.toNat : Nat)) = [c] := by
  have hc : c = 44 ∨ c = 32 ∨ c = 40 ∨ c = 41 := by
    unfold sepB at h
    simp only [Bool.or_eq_true, beq_iff_eq] at h
    have e : ∀ d : UInt8, (c.toNat : Int) = d.toNat → c = d := fun d hd => UInt8.toNat_inj.mp (by omega)
    rcases h with ((h | h) | h) | h
    · exact .inl (e 44 h)
    · exact .inr (.inl (e 32 h))
    · exact .inr (.inr (.inl (e 40 h)))
    · exact .inr (.inr (.inr (e 41 h)))
  rcases hc with rfl | rfl | rfl | rfl <;> decide +kernel
theorem step_sep {p : List (Int × ByteArray) × ByteArray} {c : UInt8} {r : List UInt8} (hb : sepB (c.toNat : Nat) = true) (h : toL p.2 = c :: r) : (opStep p (c.toNat : Nat)).1 = p.1 ∧ toL (opStep p (c.toNat : Nat)).2 = r := by
  rw [sepB_step hb]
  refine ⟨rfl, ?_⟩
  show toL (tpZ p.2 _) = r
  rw [tpZ_eq, enc_sep hb, h]
  simp [Lib.trimPrefix, Lib.hasPrefix]
theorem step_let {p : List (Int × ByteArray) × ByteArray} {c : UInt8} {a r : List UInt8} (hb : sepB (c.toNat : Nat) = false) (ha : plainL a) (hr : headSep r = true) (h : toL p.2 = a ++ r) :
    ∃ x, (opStep p (c.toNat : Nat)).1 = p.1 ++ [(((c.toNat : Nat) : Int), x)] ∧ toL x = a ∧ toL (opStep p (c.toNat : Nat)).2 = r := by
  have hen : enZ p.2 = a.length := by
    rw [enZ_eq]
    cases r with
    | nil =>
      rw [List.append_nil] at h
      rw [ixZ_none (by rw [h]; exact ha), if_pos (by omega), toL_size, h]
    | cons d t =>
      unfold headSep at hr
      rw [Bool.and_eq_true] at hr
      rw [ixZ_at h ha (of_decide_eq_true hr.2) hr.1, if_neg (by omega)]
  rw [opS_step hb]
  refine ⟨_, rfl, ?_, ?_⟩
  · rw [toL_ext, hen, h]; simp
  · show toL (extZ p.2 _ _) = r
    rw [toL_ext, hen, toL_size, h]
    rw [List.take_of_length_le (by simp; omega)]; simp
theorem run_fill (g : UInt8 → List UInt8) : ∀ (l : List UInt8) (p : List (Int × ByteArray) × ByteArray), okLay l = true → (∀ c ∈ l, sepB (c.toNat : Nat) = false → plainL (g c)) → toL p.2 = fillL g l →
    ∃ z, (l.foldl (fun p c => opStep p (c.toNat : Nat)) p).1 = p.1 ++ z ∧ relL g (l.filter fun c => !sepB (c.toNat : Nat)) z
  | [], p, _, _, _ => ⟨[], by simp, trivial⟩
  | c :: l, p, hl, hg, h => by
    unfold okLay at hl
    rw [Bool.and_eq_true] at hl
    unfold fillL at h
    cases hb : sepB (c.toNat : Nat)
    · rw [hb] at hl
      rw [if_neg (by rw [hb]; simp)] at h
      obtain ⟨x, h1, h2, h3⟩ := step_let hb (hg c List.mem_cons_self hb) (fill_head g l (by simpa using hl.1)) h
      obtain ⟨z, k1, k2⟩ := run_fill g l (opStep p (c.toNat : Nat)) hl.2 (fun d hd => hg d (List.mem_cons_of_mem _ hd)) h3
      refine ⟨(((c.toNat : Nat) : Int), x) :: z, by rw [List.foldl_cons, k1, h1]; simp, ?_⟩
      rw [List.filter_cons_of_pos (by rw [hb]; rfl)]
      exact ⟨rfl, h2, k2⟩
    · rw [if_pos hb] at h
      obtain ⟨h1, h2⟩ := step_sep hb h
      obtain ⟨z, k1, k2⟩ := run_fill g l (opStep p (c.toNat : Nat)) hl.2 (fun d hd => hg d (List.mem_cons_of_mem _ hd)) h2
      refine ⟨z, by rw [List.foldl_cons, k1, h1], ?_⟩
      rw [List.filter_cons_of_neg (by rw [hb]; simp)]
      exact k2
theorem rel2 {g : UInt8 → List UInt8} {c d : UInt8} {z : List (Int × ByteArray)} (h : relL g [c, d] z) : ∃ x y, z = [(((c.toNat : Nat) : Int), x), (((d.toNat : Nat) : Int), y)] ∧ toL x = g c ∧ toL y = g d := by
  match z, h with
  | [p, q], ⟨h1, h2, h3, h4, _⟩ => exact ⟨p.2, q.2, by rw [← h1, ← h3], h2, h4⟩
theorem rel3 {g : UInt8 → List UInt8} {c d e : UInt8} {z : List (Int × ByteArray)} (h : relL g [c, d, e] z) : ∃ x y u, z = [(((c.toNat : Nat) : Int), x), (((d.toNat : Nat) : Int), y), (((e.toNat : Nat) : Int), u)] ∧ toL x = g c ∧ toL y = g d ∧ toL u = g e := by
  match z, h with
  | [p, q, r], ⟨h1, h2, h3, h4, h5, h6, _⟩ => exact ⟨p.2, q.2, r.2, by rw [← h1, ← h3, ← h5], h2, h4, h6⟩
/-- What stands for a letter. -/
def gI (i : In) (c : UInt8) : List UInt8 := if c = 100 then regL i.rd else if c = 97 then regL i.a else if c = 98 then regL i.b else if c = 105 then digL i.imm else if c = 112 then sideL (i.imm / 16) else sideL (i.imm % 16)
theorem reg_plain' : ∀ r : Fin 32, (regL (r.val : Nat)).all (fun c => decide (c.toNat < 128) && !sepB (c.toNat : Nat)) = true := by decide +kernel
theorem reg_plain {r : Int} (h0 : 0 ≤ r) (h1 : r ≤ 31) : plainL (regL r) := by
  obtain ⟨r, rfl⟩ := Int.eq_ofNat_of_zero_le h0
  intro c hc
  have := List.all_eq_true.mp (reg_plain' ⟨r, by omega⟩) c hc
  simpa using this
theorem side_plain' : ∀ r : Fin 16, (sideL (r.val : Nat)).all (fun c => decide (c.toNat < 128) && !sepB (c.toNat : Nat)) = true := by decide +kernel
theorem side_plain {r : Int} (h0 : 0 ≤ r) (h1 : r < 16) : plainL (sideL r) := by
  obtain ⟨r, rfl⟩ := Int.eq_ofNat_of_zero_le h0
  intro c hc
  have := List.all_eq_true.mp (side_plain' ⟨r, by omega⟩) c hc
  simpa using this
theorem dig_plain (v : Int) : plainL (digL v) := fun c hc => by
  have h := digL_chr v c hc
  refine ⟨by omega, ?_⟩
  unfold sepB
  have e : ∀ k : Int, k = 44 ∨ k = 32 ∨ k = 40 ∨ k = 41 → (((c.toNat : Nat) : Int) == k) = false := fun k hk => by
    rw [beq_eq_false_iff_ne]; omega
  rw [e 44 (by omega), e 32 (by omega), e 40 (by omega), e 41 (by omega)]; rfl
theorem or16' : ∀ u v : Fin 16, arF .or .i64 (arF .or .i64 0 (arF .shl .i64 (u.val : Nat) 4)) (v.val : Nat) = 16 * (u.val : Nat) + (v.val : Nat) := by decide +kernel
theorem or16 {n : Int} (h0 : 0 ≤ n) (h1 : n < 256) : arZ .or .i64 (arZ .or .i64 0 (arZ .shl .i64 (n / 16) 4)) (n % 16) = n := by
  rw [arZ_eq, arZ_eq, arZ_eq]
  obtain ⟨n, rfl⟩ := Int.eq_ofNat_of_zero_le h0
  have h := or16' ⟨n / 16, by omega⟩ ⟨n % 16, by omega⟩
  have e1 : ((n : Nat) : Int) / 16 = ((n / 16 : Nat) : Int) := by omega
  have e2 : ((n : Nat) : Int) % 16 = ((n % 16 : Nat) : Int) := by omega
  rw [e1, e2, h]; simp only; omega
theorem mem_form' : ∀ n : Fin 88, n.val ≠ 0 → (formZ n.val = 7 ∨ formZ n.val = 8) → ((n.val : Int) == 4 || readZ n.val) = false := by decide +kernel
theorem mem_form {op : Int} (h : okB op = true) (hf : formZ op = 7 ∨ formZ op = 8) : (op == 4 || readZ op) = false := by
  rcases op_cases op with ⟨n, h1, h2, rfl⟩ | h'
  · exact mem_form' ⟨n, h2⟩ (by simp; omega) hf
  · rw [okB_out h'] at h; cases h
/-- The name's instruction. -/
def nmI (i : In) : In := ⟨i.op, 0, 0, 0, 0, i.aq, i.rl⟩
theorem cut_head {s : ByteArray} {a r : List UInt8} (h : toL s = a ++ 32 :: r) (ha : (32 : UInt8) ∉ a) : toL (cutA s) = a ∧ toL (cutB s) = r := by
  have e : idZ s = a.length := by rw [idZ_eq, h]; exact index_at 32 a r ha
  refine ⟨?_, ?_⟩
  · rw [cutA, Classical.choose_spec cutA_ex, if_pos (by omega), toL_ext, e, h]; simp
  · rw [cutB, Classical.choose_spec cutB_ex, if_pos (by omega), toL_ext, e, toL_size, h, List.take_of_length_le (by simp; omega)]
    rw [show ((a.length : Int) + 1).toNat = a.length + 1 by omega]
    simp
theorem cut_whole {s : ByteArray} (ha : (32 : UInt8) ∉ toL s) : toL (cutA s) = toL s := by
  have e : idZ s = -1 := by rw [idZ_eq]; exact index_no 32 _ ha
  rw [cutA, Classical.choose_spec cutA_ex, if_neg (by omega)]
theorem gI_plain {i : In} (h : mayB i = true) (h9 : formZ i.op = 9 → 0 ≤ i.imm ∧ i.imm < 256) (c : UInt8) (hc : c = 100 ∨ c = 97 ∨ c = 98 ∨ c = 105 ∨ (formZ i.op = 9 ∧ (c = 112 ∨ c = 115))) : plainL (gI i c) := by
  have F := may_fld h
  rcases hc with rfl | rfl | rfl | rfl | ⟨e, rfl | rfl⟩
  · exact reg_plain F.rd0 F.rd1
  · exact reg_plain F.a0 F.a1
  · exact reg_plain F.b0 F.b1
  · exact dig_plain _
  · have := h9 e; exact side_plain (by omega) (by omega)
  · have := h9 e; exact side_plain (by omega) (by omega)
/-- One layout: what the operands make of the name's instruction. -/
theorem lay_run {i i0 : In} {s : ByteArray} (k : Nat) (hk : okLay (toL (layK k)) = true) (hg : ∀ c ∈ toL (layK k), sepB (c.toNat : Nat) = false → plainL (gI i c)) (hf : toL (cutB s) = fillL (gI i) (toL (layK k))) (hl : layC i0.op = k) :
    ∃ z, parL i0 s = fI i0 z ∧ relL (gI i) ((toL (layK k)).filter fun c => !sepB (c.toNat : Nat)) z := by
  obtain ⟨z, h1, h2⟩ := run_fill (gI i) (toL (layK k)) ([], cutB s) hk hg hf
  refine ⟨z, ?_, h2⟩
  unfold parL opRun
  rw [hl, h1]; simp
theorem rd_d (j : In) (x : ByteArray) : rdI 100 j x = { j with rd := (rpN x : Nat) } := rfl
theorem rd_a (j : In) (x : ByteArray) : rdI 97 j x = { j with a := (rpN x : Nat) } := rfl
theorem rd_b (j : In) (x : ByteArray) : rdI 98 j x = { j with b := (rpN x : Nat) } := rfl
theorem rd_i (j : In) (x : ByteArray) : rdI 105 j x = { j with imm := atZ6 x } := rfl
theorem rd_p (j : In) (x : ByteArray) : rdI 112 j x = { j with imm := arZ .or .i64 j.imm (arZ .shl .i64 (rsZ x) 4) } := rfl
theorem rd_s (j : In) (x : ByteArray) : rdI 115 j x = { j with imm := arZ .or .i64 j.imm (rsZ x) } := rfl
theorem lay_let1 : ∀ c ∈ toL (layK 1), sepB (c.toNat : Nat) = false → c = 100 ∨ c = 105 := by decide +kernel
theorem lay1 {i : In} {s : ByteArray} (hl : layC i.op = 1) (hcb : toL (cutB s) = regL i.rd ++ [44, 32] ++ digL i.imm) (hrd : rgB i.rd) (hv : nmB i.imm) : parL (nmI i) s = ⟨i.op, i.rd, 0, 0, i.imm, i.aq, i.rl⟩ := by
  have hg : ∀ c ∈ toL (layK 1), sepB (c.toNat : Nat) = false → plainL (gI i c) := by
    intro c hc hb
    have hc' : c = 100 ∨ c = 105 := lay_let1 c hc hb
    rcases hc' with rfl | rfl
    · exact reg_plain hrd.1 hrd.2
    · exact dig_plain _
  obtain ⟨z, h1, h2⟩ := lay_run (i := i) (i0 := nmI i) (s := s) 1 (by decide +kernel) hg (by rw [hcb]; simp [layK, toL, fillL, sepB, gI]) hl
  obtain ⟨x, y, rfl, ex, ey⟩ := rel2 (c := 100) (d := 105) h2
  rw [h1]
  show rdI 105 (rdI 100 (nmI i) x) y = _
  rw [rd_i, rd_d]
  rw [rpN_reg hrd.1 hrd.2 ex, atZ_dig hv ey]
  rfl
theorem lay_let2 : ∀ c ∈ toL (layK 2), sepB (c.toNat : Nat) = false → c = 100 ∨ c = 105 ∨ c = 97 := by decide +kernel
theorem lay2 {i : In} {s : ByteArray} (hl : layC i.op = 2) (hcb : toL (cutB s) = regL i.rd ++ [44, 32] ++ digL i.imm ++ [40] ++ regL i.a ++ [41]) (hrd : rgB i.rd) (hv : nmB i.imm) (hA : rgB i.a) : parL (nmI i) s = ⟨i.op, i.rd, i.a, 0, i.imm, i.aq, i.rl⟩ := by
  have hg : ∀ c ∈ toL (layK 2), sepB (c.toNat : Nat) = false → plainL (gI i c) := by
    intro c hc hb
    have hc' : c = 100 ∨ c = 105 ∨ c = 97 := lay_let2 c hc hb
    rcases hc' with rfl | rfl | rfl
    · exact reg_plain hrd.1 hrd.2
    · exact dig_plain _
    · exact reg_plain hA.1 hA.2
  obtain ⟨z, h1, h2⟩ := lay_run (i := i) (i0 := nmI i) (s := s) 2 (by decide +kernel) hg (by rw [hcb]; simp [layK, toL, fillL, sepB, gI]) hl
  obtain ⟨x, y, u, rfl, ex, ey, eu⟩ := rel3 (c := 100) (d := 105) (e := 97) h2
  rw [h1]
  show rdI 97 (rdI 105 (rdI 100 (nmI i) x) y) u = _
  rw [rd_a, rd_i, rd_d]
  rw [rpN_reg hrd.1 hrd.2 ex, atZ_dig hv ey, rpN_reg hA.1 hA.2 eu]
  rfl
theorem lay_let3 : ∀ c ∈ toL (layK 3), sepB (c.toNat : Nat) = false → c = 100 ∨ c = 97 ∨ c = 105 := by decide +kernel
theorem lay3 {i : In} {s : ByteArray} (hl : layC i.op = 3) (hcb : toL (cutB s) = regL i.rd ++ [44, 32] ++ regL i.a ++ [44, 32] ++ digL i.imm) (hrd : rgB i.rd) (hA : rgB i.a) (hv : nmB i.imm) : parL (nmI i) s = ⟨i.op, i.rd, i.a, 0, i.imm, i.aq, i.rl⟩ := by
  have hg : ∀ c ∈ toL (layK 3), sepB (c.toNat : Nat) = false → plainL (gI i c) := by
    intro c hc hb
    have hc' : c = 100 ∨ c = 97 ∨ c = 105 := lay_let3 c hc hb
    rcases hc' with rfl | rfl | rfl
    · exact reg_plain hrd.1 hrd.2
    · exact reg_plain hA.1 hA.2
    · exact dig_plain _
  obtain ⟨z, h1, h2⟩ := lay_run (i := i) (i0 := nmI i) (s := s) 3 (by decide +kernel) hg (by rw [hcb]; simp [layK, toL, fillL, sepB, gI]) hl
  obtain ⟨x, y, u, rfl, ex, ey, eu⟩ := rel3 (c := 100) (d := 97) (e := 105) h2
  rw [h1]
  show rdI 105 (rdI 97 (rdI 100 (nmI i) x) y) u = _
  rw [rd_i, rd_a, rd_d]
  rw [rpN_reg hrd.1 hrd.2 ex, rpN_reg hA.1 hA.2 ey, atZ_dig hv eu]
  rfl
theorem lay_let4 : ∀ c ∈ toL (layK 4), sepB (c.toNat : Nat) = false → c = 97 ∨ c = 98 ∨ c = 105 := by decide +kernel
theorem lay4 {i : In} {s : ByteArray} (hl : layC i.op = 4) (hcb : toL (cutB s) = regL i.a ++ [44, 32] ++ regL i.b ++ [44, 32] ++ digL i.imm) (hA : rgB i.a) (hB : rgB i.b) (hv : nmB i.imm) : parL (nmI i) s = ⟨i.op, 0, i.a, i.b, i.imm, i.aq, i.rl⟩ := by
  have hg : ∀ c ∈ toL (layK 4), sepB (c.toNat : Nat) = false → plainL (gI i c) := by
    intro c hc hb
    have hc' : c = 97 ∨ c = 98 ∨ c = 105 := lay_let4 c hc hb
    rcases hc' with rfl | rfl | rfl
    · exact reg_plain hA.1 hA.2
    · exact reg_plain hB.1 hB.2
    · exact dig_plain _
  obtain ⟨z, h1, h2⟩ := lay_run (i := i) (i0 := nmI i) (s := s) 4 (by decide +kernel) hg (by rw [hcb]; simp [layK, toL, fillL, sepB, gI]) hl
  obtain ⟨x, y, u, rfl, ex, ey, eu⟩ := rel3 (c := 97) (d := 98) (e := 105) h2
  rw [h1]
  show rdI 105 (rdI 98 (rdI 97 (nmI i) x) y) u = _
  rw [rd_i, rd_b, rd_a]
  rw [rpN_reg hA.1 hA.2 ex, rpN_reg hB.1 hB.2 ey, atZ_dig hv eu]
  rfl
theorem lay_let5 : ∀ c ∈ toL (layK 5), sepB (c.toNat : Nat) = false → c = 98 ∨ c = 105 ∨ c = 97 := by decide +kernel
theorem lay5 {i : In} {s : ByteArray} (hl : layC i.op = 5) (hcb : toL (cutB s) = regL i.b ++ [44, 32] ++ digL i.imm ++ [40] ++ regL i.a ++ [41]) (hB : rgB i.b) (hv : nmB i.imm) (hA : rgB i.a) : parL (nmI i) s = ⟨i.op, 0, i.a, i.b, i.imm, i.aq, i.rl⟩ := by
  have hg : ∀ c ∈ toL (layK 5), sepB (c.toNat : Nat) = false → plainL (gI i c) := by
    intro c hc hb
    have hc' : c = 98 ∨ c = 105 ∨ c = 97 := lay_let5 c hc hb
    rcases hc' with rfl | rfl | rfl
    · exact reg_plain hB.1 hB.2
    · exact dig_plain _
    · exact reg_plain hA.1 hA.2
  obtain ⟨z, h1, h2⟩ := lay_run (i := i) (i0 := nmI i) (s := s) 5 (by decide +kernel) hg (by rw [hcb]; simp [layK, toL, fillL, sepB, gI]) hl
  obtain ⟨x, y, u, rfl, ex, ey, eu⟩ := rel3 (c := 98) (d := 105) (e := 97) h2
  rw [h1]
  show rdI 97 (rdI 105 (rdI 98 (nmI i) x) y) u = _
  rw [rd_a, rd_i, rd_b]
  rw [rpN_reg hB.1 hB.2 ex, atZ_dig hv ey, rpN_reg hA.1 hA.2 eu]
  rfl
theorem lay_let6 : ∀ c ∈ toL (layK 6), sepB (c.toNat : Nat) = false → c = 100 ∨ c = 97 ∨ c = 98 := by decide +kernel
theorem lay6 {i : In} {s : ByteArray} (hl : layC i.op = 6) (hcb : toL (cutB s) = regL i.rd ++ [44, 32] ++ regL i.a ++ [44, 32] ++ regL i.b) (hrd : rgB i.rd) (hA : rgB i.a) (hB : rgB i.b) : parL (nmI i) s = ⟨i.op, i.rd, i.a, i.b, 0, i.aq, i.rl⟩ := by
  have hg : ∀ c ∈ toL (layK 6), sepB (c.toNat : Nat) = false → plainL (gI i c) := by
    intro c hc hb
    have hc' : c = 100 ∨ c = 97 ∨ c = 98 := lay_let6 c hc hb
    rcases hc' with rfl | rfl | rfl
    · exact reg_plain hrd.1 hrd.2
    · exact reg_plain hA.1 hA.2
    · exact reg_plain hB.1 hB.2
  obtain ⟨z, h1, h2⟩ := lay_run (i := i) (i0 := nmI i) (s := s) 6 (by decide +kernel) hg (by rw [hcb]; simp [layK, toL, fillL, sepB, gI]) hl
  obtain ⟨x, y, u, rfl, ex, ey, eu⟩ := rel3 (c := 100) (d := 97) (e := 98) h2
  rw [h1]
  show rdI 98 (rdI 97 (rdI 100 (nmI i) x) y) u = _
  rw [rd_b, rd_a, rd_d]
  rw [rpN_reg hrd.1 hrd.2 ex, rpN_reg hA.1 hA.2 ey, rpN_reg hB.1 hB.2 eu]
  rfl
theorem lay_let7 : ∀ c ∈ toL (layK 7), sepB (c.toNat : Nat) = false → c = 112 ∨ c = 115 := by decide +kernel
theorem lay7 {i : In} {s : ByteArray} (hl : layC i.op = 7) (hcb : toL (cutB s) = sideL (i.imm / 16) ++ [44, 32] ++ sideL (i.imm % 16)) (hv : 0 ≤ i.imm ∧ i.imm < 256) : parL (nmI i) s = ⟨i.op, 0, 0, 0, i.imm, i.aq, i.rl⟩ := by
  have hg : ∀ c ∈ toL (layK 7), sepB (c.toNat : Nat) = false → plainL (gI i c) := by
    intro c hc hb
    have hc' : c = 112 ∨ c = 115 := lay_let7 c hc hb
    rcases hc' with rfl | rfl
    · exact side_plain (by omega) (by omega)
    · exact side_plain (by omega) (by omega)
  obtain ⟨z, h1, h2⟩ := lay_run (i := i) (i0 := nmI i) (s := s) 7 (by decide +kernel) hg (by rw [hcb]; simp [layK, toL, fillL, sepB, gI]) hl
  obtain ⟨x, y, rfl, ex, ey⟩ := rel2 (c := 112) (d := 115) h2
  rw [h1]
  show rdI 115 (rdI 112 (nmI i) x) y = _
  rw [rd_s, rd_p]
  rw [rsZ_side (n := i.imm / 16) (by omega) (by omega) ex, rsZ_side (n := i.imm % 16) (by omega) (by omega) ey]
  show (⟨i.op, 0, 0, 0, arZ .or .i64 (arZ .or .i64 0 (arZ .shl .i64 (i.imm / 16) 4)) (i.imm % 16), i.aq, i.rl⟩ : In) = _
  rw [or16 hv.1 hv.2]
theorem lay_let8 : ∀ c ∈ toL (layK 8), sepB (c.toNat : Nat) = false → c = 100 ∨ c = 97 := by decide +kernel
theorem lay8 {i : In} {s : ByteArray} (hl : layC i.op = 8) (hcb : toL (cutB s) = regL i.rd ++ [44, 32, 40] ++ regL i.a ++ [41]) (hrd : rgB i.rd) (hA : rgB i.a) : parL (nmI i) s = ⟨i.op, i.rd, i.a, 0, 0, i.aq, i.rl⟩ := by
  have hg : ∀ c ∈ toL (layK 8), sepB (c.toNat : Nat) = false → plainL (gI i c) := by
    intro c hc hb
    have hc' : c = 100 ∨ c = 97 := lay_let8 c hc hb
    rcases hc' with rfl | rfl
    · exact reg_plain hrd.1 hrd.2
    · exact reg_plain hA.1 hA.2
  obtain ⟨z, h1, h2⟩ := lay_run (i := i) (i0 := nmI i) (s := s) 8 (by decide +kernel) hg (by rw [hcb]; simp [layK, toL, fillL, sepB, gI]) hl
  obtain ⟨x, y, rfl, ex, ey⟩ := rel2 (c := 100) (d := 97) h2
  rw [h1]
  show rdI 97 (rdI 100 (nmI i) x) y = _
  rw [rd_a, rd_d]
  rw [rpN_reg hrd.1 hrd.2 ex, rpN_reg hA.1 hA.2 ey]
  rfl
theorem lay_let9 : ∀ c ∈ toL (layK 9), sepB (c.toNat : Nat) = false → c = 100 ∨ c = 98 ∨ c = 97 := by decide +kernel
theorem lay9 {i : In} {s : ByteArray} (hl : layC i.op = 9) (hcb : toL (cutB s) = regL i.rd ++ [44, 32] ++ regL i.b ++ [44, 32, 40] ++ regL i.a ++ [41]) (hrd : rgB i.rd) (hB : rgB i.b) (hA : rgB i.a) : parL (nmI i) s = ⟨i.op, i.rd, i.a, i.b, 0, i.aq, i.rl⟩ := by
  have hg : ∀ c ∈ toL (layK 9), sepB (c.toNat : Nat) = false → plainL (gI i c) := by
    intro c hc hb
    have hc' : c = 100 ∨ c = 98 ∨ c = 97 := lay_let9 c hc hb
    rcases hc' with rfl | rfl | rfl
    · exact reg_plain hrd.1 hrd.2
    · exact reg_plain hB.1 hB.2
    · exact reg_plain hA.1 hA.2
  obtain ⟨z, h1, h2⟩ := lay_run (i := i) (i0 := nmI i) (s := s) 9 (by decide +kernel) hg (by rw [hcb]; simp [layK, toL, fillL, sepB, gI]) hl
  obtain ⟨x, y, u, rfl, ex, ey, eu⟩ := rel3 (c := 100) (d := 98) (e := 97) h2
  rw [h1]
  show rdI 97 (rdI 98 (rdI 100 (nmI i) x) y) u = _
  rw [rd_a, rd_b, rd_d]
  rw [rpN_reg hrd.1 hrd.2 ex, rpN_reg hB.1 hB.2 ey, rpN_reg hA.1 hA.2 eu]
  rfl
theorem parL_text {i : In} (h : mayB i = true) {s : ByteArray} (hs : toL s = textL i) : namN (cutA s) = nmI i ∧ parL (nmI i) s = i := by
  have F := may_fld h
  have ho := may_ok h
  have hr := form_rng ho
  have hI := imm_rng F.im hr.1 hr.2
  have hrd : rgB i.rd := ⟨F.rd0, F.rd1⟩
  have hA : rgB i.a := ⟨F.a0, F.a1⟩
  have hB : rgB i.b := ⟨F.b0, F.b1⟩
  have rn := F.rdn
  have an := F.an
  have bn := F.bn
  have hh := headL_chr i.aq i.rl ho
  have h9 : formZ i.op = 9 → 0 ≤ i.imm ∧ i.imm < 256 := fun e => by
    have := hI; unfold immRg at this; rw [e] at this; simp at this; omega
  have gp := gI_plain h h9
  clear F
  unfold textL at hs
  by_cases e0 : formZ i.op = 0
  · rw [e0] at hs rn an bn hI
    unfold immRg at hI
    simp [rdF, aF, bF, atZ] at rn an bn hI
    have hs' : toL s = headL i.op i.aq i.rl := hs
    have hn : namN (cutA s) = nmI i := namN_head ho (by rw [cut_whole (by rw [hs']; exact hh)]; exact hs')
    refine ⟨hn, ?_⟩
    have hl : layC (nmI i).op = 0 := by show layC i.op = 0; unfold layC; rw [e0]; rfl
    have hp : parL (nmI i) s = nmI i := by
      unfold parL
      rw [hl]; rfl
    rw [hp]
    exact In.ext' rfl rn.symm an.symm bn.symm hI.symm rfl rfl
  · rw [show (formZ i.op == 0) = false from beq_eq_false_iff_ne.mpr e0] at hs
    simp only [cond_false] at hs
    obtain ⟨hca, hcb⟩ := cut_head hs hh
    have hn : namN (cutA s) = nmI i := namN_head ho hca
    refine ⟨hn, ?_⟩
    have hk' : formZ i.op = 1 ∨ formZ i.op = 2 ∨ formZ i.op = 3 ∨ formZ i.op = 4 ∨ formZ i.op = 5 ∨ formZ i.op = 6 ∨ formZ i.op = 7 ∨ formZ i.op = 8 ∨ formZ i.op = 9 ∨ formZ i.op = 10 ∨ formZ i.op = 11 := by omega
    have hm78 := mem_form ho
    unfold immRg at hI
    rcases hk' with e | e | e | e | e | e | e | e | e | e | e
    all_goals
      rw [e] at rn an bn hI
      simp [rdF, aF, bF, atZ] at rn an bn hI
    · rw [opsL_12 (.inl e)] at hcb
      rw [lay1 (by unfold layC; rw [e]; rfl) hcb hrd ⟨by omega, by omega⟩]
      exact In.ext' rfl rfl an.symm bn.symm rfl rfl rfl
    · rw [opsL_12 (.inr e)] at hcb
      rw [lay1 (by unfold layC; rw [e]; rfl) hcb hrd ⟨by omega, by omega⟩]
      exact In.ext' rfl rfl an.symm bn.symm rfl rfl rfl
    · cases hm : (i.op == 4 || readZ i.op)
      · rw [opsL_imm (.inl e) hm] at hcb
        rw [lay3 (by unfold layC; rw [e, hm]; rfl) hcb hrd hA ⟨by omega, by omega⟩]
        exact In.ext' rfl rfl rfl bn.symm rfl rfl rfl
      · rw [opsL_mem (.inl e) hm] at hcb
        rw [lay2 (by unfold layC; rw [e, hm]; rfl) hcb hrd ⟨by omega, by omega⟩ hA]
        exact In.ext' rfl rfl rfl bn.symm rfl rfl rfl
    · rw [opsL_4 e] at hcb
      rw [lay4 (by unfold layC; rw [e]; rfl) hcb hA hB ⟨by omega, by omega⟩]
      exact In.ext' rfl rn.symm rfl rfl rfl rfl rfl
    · rw [opsL_5 e] at hcb
      rw [lay5 (by unfold layC; rw [e]; rfl) hcb hB ⟨by omega, by omega⟩ hA]
      exact In.ext' rfl rn.symm rfl rfl rfl rfl rfl
    · rw [opsL_6 e] at hcb
      rw [lay6 (by unfold layC; rw [e]; rfl) hcb hrd hA hB]
      exact In.ext' rfl rfl rfl rfl hI.symm rfl rfl
    · have hm := hm78 (.inl e)
      rw [opsL_imm (.inr (.inl e)) hm] at hcb
      rw [lay3 (by unfold layC; rw [e]; rfl) hcb hrd hA ⟨by omega, by omega⟩]
      exact In.ext' rfl rfl rfl bn.symm rfl rfl rfl
    · have hm := hm78 (.inr e)
      rw [opsL_imm (.inr (.inr e)) hm] at hcb
      rw [lay3 (by unfold layC; rw [e]; rfl) hcb hrd hA ⟨by omega, by omega⟩]
      exact In.ext' rfl rfl rfl bn.symm rfl rfl rfl
    · rw [opsL_9 e] at hcb
      rw [lay7 (by unfold layC; rw [e]; rfl) hcb (h9 e)]
      exact In.ext' rfl rn.symm an.symm bn.symm rfl rfl rfl
    · rw [opsL_10 e] at hcb
      rw [lay8 (by unfold layC; rw [e]; rfl) hcb hrd hA]
      exact In.ext' rfl rfl rfl bn.symm hI.symm rfl rfl
    · rw [opsL_11 e] at hcb
      rw [lay9 (by unfold layC; rw [e]; rfl) hcb hrd hB hA]
      exact In.ext' rfl rfl rfl rfl hI.symm rfl rfl
/-- Parse answers what it is to answer. -/
theorem parO_eq (s : ByteArray) : parO s = parse6 s := by
  cases hk : okI (parL (namN (cutA s)) s) s
  · rw [parO_no rfl rfl hk]
    refine (parse6_no fun i hi e => ?_).symm
    obtain ⟨h1, h2⟩ := parL_text hi e.symm
    rw [h1, h2] at hk
    have ht : textZ i = s := toL_inj (by rw [textZ_eq, hi]; exact e)
    unfold okI at hk
    rw [hi, ht] at hk
    simp at hk
  · rw [parO_yes rfl rfl hk]
    generalize parL (namN (cutA s)) s = i at hk
    unfold okI at hk
    simp only [Bool.and_eq_true, beq_iff_eq] at hk
    have ht : textZ i = s := bytes_ext hk.2
    exact (parse6_yes hk.1 (by rw [← ht, textZ_eq, hk.1]; rfl)).symm
theorem parse_ret (es er : Value) (hes : isErr es) (her : isErr er) (s : ByteArray) (hs : s.size ≤ 200) (w : World) (hG : GlobOk (gl6 es er) w) : Ret Tryz.prog 9 #[.string s] (.tuple #[inV (parI s), .int .i64 (parE s)]) w :=
  (parse_walk es er hes her s hs w hG).mono fun e w' ⟨h1, h2⟩ => ⟨by rw [h1, parO_eq]; rfl, h2⟩
theorem pParse_ok {es er : Value} (hes : isErr es) (her : isErr er) : PTabOk Tryz.prog (gl6 es er) pParse := .rowD fun args u hd w hG => by
  unfold decParse at hd
  split at hd
  · rename_i s
    simp only [Option.some.injEq, Prod.mk.injEq, pre] at hd
    obtain ⟨rfl, hc⟩ := hd
    unfold size200 at hc
    exact parse_ret es er hes her s (of_decide_eq_true hc) w hG
  · cases hd
end Go.Proofs.YtgcglmnbkilfhaaGreatDoor
