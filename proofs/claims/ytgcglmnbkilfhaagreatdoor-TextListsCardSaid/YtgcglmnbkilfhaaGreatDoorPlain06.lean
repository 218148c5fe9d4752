/- Plain words for layer 6: numbers in decimal, the text of an instruction as the document has it; an instruction is told by its text. No word of the program. -/
import Derived.Test.YtgcglmnbkilfhaaGreatDoorPlain02
import Derived.Test.YtgcglmnbkilfhaaGreatDoorPlain04
namespace Go.Proofs.YtgcglmnbkilfhaaGreatDoor
open Go.RowKit
set_option linter.unusedVariables false
set_option linter.unusedSimpArgs false

/-! ### Decimal numbers -/
/-- The decimal digits of a number, at most so many. -/
def decF : Nat → Nat → List UInt8
  | 0, _ => []
  | k + 1, n => if n < 10 then [UInt8.ofNat (48 + n)] else decF k (n / 10) ++ [UInt8.ofNat (48 + n % 10)]
def valL (l : List UInt8) : Nat := l.foldl (fun v c => 10 * v + (c.toNat - 48)) 0
theorem dig_val' : ∀ n : Fin 10, (UInt8.ofNat (48 + n.val)).toNat = 48 + n.val := by decide +kernel
theorem dig_val (n : Nat) (h : n < 10) : (UInt8.ofNat (48 + n)).toNat = 48 + n := dig_val' ⟨n, h⟩
theorem decF_val : ∀ (k n : Nat), n < 10 ^ k → valL (decF k n) = n
  | 0, n, h => by simp at h; subst h; rfl
  | k + 1, n, h => by
    unfold decF
    by_cases h10 : n < 10
    · rw [if_pos h10]
      show 10 * 0 + ((UInt8.ofNat (48 + n)).toNat - 48) = n
      rw [dig_val n h10]; omega
    · rw [if_neg h10]
      have ih := decF_val k (n / 10) (by rw [Nat.pow_succ] at h; omega)
      unfold valL at ih ⊢
      rw [List.foldl_append, ih]
      simp only [List.foldl_cons, List.foldl_nil]
      rw [dig_val (n % 10) (by omega)]
      omega
theorem decF_inj {k n m : Nat} (hn : n < 10 ^ k) (hm : m < 10 ^ k) (h : decF k n = decF k m) : n = m := by rw [← decF_val k n hn, h, decF_val k m hm]
theorem decF_chr : ∀ (k n : Nat), ∀ c ∈ decF k n, 48 ≤ c.toNat ∧ c.toNat ≤ 57
  | 0, _, c, h => by cases h
  | k + 1, n, c, h => by
    unfold decF at h
    by_cases h10 : n < 10
    · rw [if_pos h10] at h
      rw [List.mem_singleton.mp h, dig_val n h10]; omega
    · rw [if_neg h10] at h
      rcases List.mem_append.mp h with h | h
      · exact decF_chr k _ c h
      · rw [List.mem_singleton.mp h, dig_val (n % 10) (by omega)]; omega
theorem decF_len : ∀ (k n : Nat), (decF k n).length ≤ k
  | 0, _ => by simp [decF]
  | k + 1, n => by
    unfold decF
    by_cases h10 : n < 10
    · rw [if_pos h10]; simp
    · rw [if_neg h10]
      have := decF_len k (n / 10)
      simp; omega
/-- A number in decimal, with its sign. -/
def digL (v : Int) : List UInt8 := if 0 ≤ v then decF 20 v.toNat else 45 :: decF 20 (-v).toNat
theorem digL_chr (v : Int) : ∀ c ∈ digL v, c.toNat = 45 ∨ (48 ≤ c.toNat ∧ c.toNat ≤ 57) := fun c h => by
  unfold digL at h
  by_cases h0 : 0 ≤ v
  · rw [if_pos h0] at h; exact .inr (decF_chr _ _ c h)
  · rw [if_neg h0] at h
    rcases List.mem_cons.mp h with rfl | h
    · exact .inl rfl
    · exact .inr (decF_chr _ _ c h)
theorem digL_len (v : Int) : (digL v).length ≤ 21 := by
  unfold digL
  split
  · have := decF_len 20 v.toNat; omega
  · have := decF_len 20 (-v).toNat; simp; omega
theorem digL_inj {v u : Int} (hv : -10000000000000000000 ≤ v ∧ v ≤ 10000000000000000000) (hu : -10000000000000000000 ≤ u ∧ u ≤ 10000000000000000000) (h : digL v = digL u) : v = u := by
  have no : ∀ (n : Nat) (r : List UInt8), decF 20 n ≠ 45 :: r := fun n r e => by
    have := decF_chr 20 n 45 (by rw [e]; exact List.mem_cons_self)
    have e45 : (45 : UInt8).toNat = 45 := rfl
    omega
  have h20 : (10 : Nat) ^ 20 = 100000000000000000000 := by decide
  unfold digL at h
  by_cases h0 : 0 ≤ v <;> by_cases h1 : 0 ≤ u
  · rw [if_pos h0, if_pos h1] at h
    have := decF_inj (by omega) (by omega) h
    omega
  · rw [if_pos h0, if_neg h1] at h
    exact absurd h (no _ _)
  · rw [if_neg h0, if_pos h1] at h
    exact absurd h.symm (no _ _)
  · rw [if_neg h0, if_neg h1] at h
    have := decF_inj (by omega) (by omega) (List.cons.inj h).2
    omega
/-! ### Texts -/
def toL (s : ByteArray) : List UInt8 := s.data.toList
def regL (r : Int) : List UInt8 := toL (numS r.toNat)
def sfxL (aq rl : Bool) : List UInt8 := bif aq || rl then 46 :: ((bif aq then [97, 113] else []) ++ (bif rl then [114, 108] else [])) else []
def sideL (n : Int) : List UInt8 := let l := (bif n / 8 % 2 == 1 then [105] else []) ++ (bif n / 4 % 2 == 1 then [111] else []) ++ (bif n / 2 % 2 == 1 then [114] else []) ++ (bif n % 2 == 1 then [119] else []); bif l.isEmpty then [48] else l
def headL (op : Int) (aq rl : Bool) : List UInt8 := toL (nameZ op) ++ sfxL aq rl
/-- The operands, behind the space. -/
def opsL (i : In) : List UInt8 :=
  bif formZ i.op == 1 || formZ i.op == 2 then regL i.rd ++ [44, 32] ++ digL i.imm
  else bif formZ i.op == 4 then regL i.a ++ [44, 32] ++ regL i.b ++ [44, 32] ++ digL i.imm
  else bif formZ i.op == 5 then regL i.b ++ [44, 32] ++ digL i.imm ++ [40] ++ regL i.a ++ [41]
  else bif formZ i.op == 6 then regL i.rd ++ [44, 32] ++ regL i.a ++ [44, 32] ++ regL i.b
  else bif formZ i.op == 9 then sideL (i.imm / 16) ++ [44, 32] ++ sideL (i.imm % 16)
  else bif formZ i.op == 10 then regL i.rd ++ [44, 32, 40] ++ regL i.a ++ [41]
  else bif formZ i.op == 11 then regL i.rd ++ [44, 32] ++ regL i.b ++ [44, 32, 40] ++ regL i.a ++ [41]
  else bif i.op == 4 || readZ i.op then regL i.rd ++ [44, 32] ++ digL i.imm ++ [40] ++ regL i.a ++ [41]
  else regL i.rd ++ [44, 32] ++ regL i.a ++ [44, 32] ++ digL i.imm
/-- The text of an instruction that may be. -/
def textL (i : In) : List UInt8 := bif formZ i.op == 0 then headL i.op i.aq i.rl else headL i.op i.aq i.rl ++ 32 :: opsL i
/-! ### An instruction is told by its text -/
theorem split_at {c : UInt8} : ∀ {a a' r r' : List UInt8}, c ∉ a → c ∉ a' → a ++ c :: r = a' ++ c :: r' → a = a' ∧ r = r'
  | [], [], r, r', _, _, h => ⟨rfl, (List.cons.inj h).2⟩
  | [], x :: a', r, r', _, h2, h => absurd (by rw [(List.cons.inj h).1]; exact List.mem_cons_self) h2
  | x :: a, [], r, r', h1, _, h => absurd (by rw [← (List.cons.inj h).1]; exact List.mem_cons_self) h1
  | x :: a, y :: a', r, r', h1, h2, h => by
    obtain ⟨e1, e2⟩ := List.cons.inj h
    obtain ⟨k1, k2⟩ := split_at (fun hc => h1 (List.mem_cons_of_mem _ hc)) (fun hc => h2 (List.mem_cons_of_mem _ hc)) e2
    exact ⟨by rw [e1, k1], k2⟩
theorem no_split {c : UInt8} {a a' r : List UInt8} (h : c ∉ a) (e : a = a' ++ c :: r) : False := h (by rw [e]; simp)
/-- The heads of all operations' texts. -/
def heads : List (Nat × Bool × Bool) := (List.range 88).flatMap fun n => [(n, false, false), (n, false, true), (n, true, false), (n, true, true)]
def headN (n : Nat) (p q : Bool) : List UInt8 := toL (opS n) ++ sfxL p q
def tellH (l : List UInt8) : Option (Nat × Bool × Bool) := heads.find? fun x => headN x.1 x.2.1 x.2.2 == l
theorem tell_all : ∀ (n : Fin 88) (p q : Bool), n.val = 0 ∨ tellH (headN n.val p q) = some (n.val, p, q) := by decide +kernel
theorem head_chr' : ∀ (n : Fin 88) (p q : Bool), (headN n.val p q).all (fun c => c != 32) = true := by decide +kernel
theorem headL_nat (n : Nat) (p q : Bool) : headL (n : Int) p q = headN n p q := by unfold headL headN; rw [nameZ_nat]
theorem headL_inj {o o' : Int} {p q p' q' : Bool} (h : okB o = true) (h' : okB o' = true) (e : headL o p q = headL o' p' q') : o = o' ∧ p = p' ∧ q = q' := by
  rcases op_cases o with ⟨n, n1, n2, rfl⟩ | hb
  · rcases op_cases o' with ⟨m, m1, m2, rfl⟩ | hb
    · rw [headL_nat, headL_nat] at e
      rcases tell_all ⟨n, n2⟩ p q with h0 | h0
      · simp at h0; omega
      · rcases tell_all ⟨m, m2⟩ p' q' with h1 | h1
        · simp at h1; omega
        · simp only at h0 h1
          rw [e, h1] at h0
          simp only [Option.some.injEq, Prod.mk.injEq] at h0
          obtain ⟨e1, e2, e3⟩ := h0
          exact ⟨by rw [e1], e2.symm, e3.symm⟩
    · rw [okB_out hb] at h'; cases h'
  · rw [okB_out hb] at h; cases h
theorem headL_chr {o : Int} (p q : Bool) (h : okB o = true) : (32 : UInt8) ∉ headL o p q := fun hc => by
  rcases op_cases o with ⟨n, n1, n2, rfl⟩ | hb
  · rw [headL_nat] at hc
    have := List.all_eq_true.mp (head_chr' ⟨n, n2⟩ p q) 32 hc
    simp at this
  · rw [okB_out hb] at h; cases h
theorem reg_all : ∀ r s : Fin 32, regL (r.val : Nat) = regL (s.val : Nat) → r = s := by decide +kernel
theorem reg_chr' : ∀ r : Fin 32, (regL (r.val : Nat)).all (fun c => c != 44 && c != 40 && c != 41) = true := by decide +kernel
theorem regL_inj {r s : Int} (h0 : 0 ≤ r) (h1 : r ≤ 31) (k0 : 0 ≤ s) (k1 : s ≤ 31) (h : regL r = regL s) : r = s := by
  obtain ⟨r, rfl⟩ := Int.eq_ofNat_of_zero_le h0
  obtain ⟨s, rfl⟩ := Int.eq_ofNat_of_zero_le k0
  have := reg_all ⟨r, by omega⟩ ⟨s, by omega⟩ h
  simp only [Fin.mk.injEq] at this
  rw [this]
theorem regL_chr {r : Int} (h0 : 0 ≤ r) (h1 : r ≤ 31) : (44 : UInt8) ∉ regL r ∧ (40 : UInt8) ∉ regL r ∧ (41 : UInt8) ∉ regL r := by
  obtain ⟨r, rfl⟩ := Int.eq_ofNat_of_zero_le h0
  have := List.all_eq_true.mp (reg_chr' ⟨r, by omega⟩)
  exact ⟨fun h => by simpa using this 44 h, fun h => by simpa using this 40 h, fun h => by simpa using this 41 h⟩
theorem digL_no (v : Int) : (44 : UInt8) ∉ digL v ∧ (40 : UInt8) ∉ digL v := by
  have e44 : (44 : UInt8).toNat = 44 := rfl
  have e40 : (40 : UInt8).toNat = 40 := rfl
  exact ⟨fun h => by have := digL_chr v 44 h; omega, fun h => by have := digL_chr v 40 h; omega⟩
theorem side_all : ∀ r s : Fin 16, sideL (r.val : Nat) = sideL (s.val : Nat) → r = s := by decide +kernel
theorem side_chr' : ∀ r : Fin 16, (sideL (r.val : Nat)).all (fun c => c != 44) = true := by decide +kernel
theorem sideL_inj {r s : Int} (h0 : 0 ≤ r) (h1 : r < 16) (k0 : 0 ≤ s) (k1 : s < 16) (h : sideL r = sideL s) : r = s := by
  obtain ⟨r, rfl⟩ := Int.eq_ofNat_of_zero_le h0
  obtain ⟨s, rfl⟩ := Int.eq_ofNat_of_zero_le k0
  have := side_all ⟨r, by omega⟩ ⟨s, by omega⟩ h
  simp only [Fin.mk.injEq] at this
  rw [this]
theorem sideL_chr {r : Int} (h0 : 0 ≤ r) (h1 : r < 16) : (44 : UInt8) ∉ sideL r := by
  obtain ⟨r, rfl⟩ := Int.eq_ofNat_of_zero_le h0
  have := List.all_eq_true.mp (side_chr' ⟨r, by omega⟩)
  exact fun h => by simpa using this 44 h
theorem snoc_inj {a b : List UInt8} {c : UInt8} (h : a ++ [c] = b ++ [c]) : a = b := by simpa using h
theorem opsL_12 {i : In} (h : formZ i.op = 1 ∨ formZ i.op = 2) : opsL i = regL i.rd ++ [44, 32] ++ digL i.imm := by rcases h with h | h <;> (unfold opsL; rw [h]; rfl)
theorem opsL_4 {i : In} (h : formZ i.op = 4) : opsL i = regL i.a ++ [44, 32] ++ regL i.b ++ [44, 32] ++ digL i.imm := by unfold opsL; rw [h]; rfl
theorem opsL_5 {i : In} (h : formZ i.op = 5) : opsL i = regL i.b ++ [44, 32] ++ digL i.imm ++ [40] ++ regL i.a ++ [41] := by unfold opsL; rw [h]; rfl
theorem opsL_6 {i : In} (h : formZ i.op = 6) : opsL i = regL i.rd ++ [44, 32] ++ regL i.a ++ [44, 32] ++ regL i.b := by unfold opsL; rw [h]; rfl
theorem opsL_9 {i : In} (h : formZ i.op = 9) : opsL i = sideL (i.imm / 16) ++ [44, 32] ++ sideL (i.imm % 16) := by unfold opsL; rw [h]; rfl
theorem opsL_10 {i : In} (h : formZ i.op = 10) : opsL i = regL i.rd ++ [44, 32, 40] ++ regL i.a ++ [41] := by unfold opsL; rw [h]; rfl
theorem opsL_11 {i : In} (h : formZ i.op = 11) : opsL i = regL i.rd ++ [44, 32] ++ regL i.b ++ [44, 32, 40] ++ regL i.a ++ [41] := by unfold opsL; rw [h]; rfl
theorem opsL_mem {i : In} (h : formZ i.op = 3 ∨ formZ i.op = 7 ∨ formZ i.op = 8) (hm : (i.op == 4 || readZ i.op) = true) : opsL i = regL i.rd ++ [44, 32] ++ digL i.imm ++ [40] ++ regL i.a ++ [41] := by rcases h with h | h | h <;> (unfold opsL; rw [h, hm]; rfl)
theorem opsL_imm {i : In} (h : formZ i.op = 3 ∨ formZ i.op = 7 ∨ formZ i.op = 8) (hm : (i.op == 4 || readZ i.op) = false) : opsL i = regL i.rd ++ [44, 32] ++ regL i.a ++ [44, 32] ++ digL i.imm := by rcases h with h | h | h <;> (unfold opsL; rw [h, hm]; rfl)
/-- A register's number, and a number of at most 21 bits. -/
def rgB (r : Int) : Prop := 0 ≤ r ∧ r ≤ 31
def nmB (v : Int) : Prop := -1048576 ≤ v ∧ v < 1048576
theorem reg_eq' {r s : Int} (hr : rgB r) (hs : rgB s) (h : regL r = regL s) : r = s := regL_inj hr.1 hr.2 hs.1 hs.2 h
theorem dig_eq' {v u : Int} (hv : nmB v) (hu : nmB u) (h : digL v = digL u) : v = u := digL_inj ⟨by have := hv.1; omega, by have := hv.2; omega⟩ ⟨by have := hu.1; omega, by have := hu.2; omega⟩ h
theorem reg_split {x x' : Int} {r r' : List UInt8} (hx : rgB x) (hx' : rgB x') (h : regL x ++ 44 :: r = regL x' ++ 44 :: r') : x = x' ∧ r = r' := by
  obtain ⟨e1, e2⟩ := split_at (regL_chr hx.1 hx.2).1 (regL_chr hx'.1 hx'.2).1 h
  exact ⟨reg_eq' hx hx' e1, e2⟩
theorem ops_two {x x' v v' : Int} (hx : rgB x) (hx' : rgB x') (hv : nmB v) (hv' : nmB v') (h : regL x ++ [44, 32] ++ digL v = regL x' ++ [44, 32] ++ digL v') : x = x' ∧ v = v' := by
  simp only [List.append_assoc, List.cons_append, List.nil_append] at h
  obtain ⟨e1, e2⟩ := reg_split hx hx' h
  exact ⟨e1, dig_eq' hv hv' (List.cons.inj e2).2⟩
theorem ops_three {x x' y y' v v' : Int} (hx : rgB x) (hx' : rgB x') (hy : rgB y) (hy' : rgB y') (hv : nmB v) (hv' : nmB v') (h : regL x ++ [44, 32] ++ regL y ++ [44, 32] ++ digL v = regL x' ++ [44, 32] ++ regL y' ++ [44, 32] ++ digL v') : x = x' ∧ y = y' ∧ v = v' := by
  simp only [List.append_assoc, List.cons_append, List.nil_append] at h
  obtain ⟨e1, e2⟩ := reg_split hx hx' h
  obtain ⟨e3, e4⟩ := reg_split hy hy' (List.cons.inj e2).2
  exact ⟨e1, e3, dig_eq' hv hv' (List.cons.inj e4).2⟩
theorem ops_regs {x x' y y' z z' : Int} (hx : rgB x) (hx' : rgB x') (hy : rgB y) (hy' : rgB y') (hz : rgB z) (hz' : rgB z') (h : regL x ++ [44, 32] ++ regL y ++ [44, 32] ++ regL z = regL x' ++ [44, 32] ++ regL y' ++ [44, 32] ++ regL z') : x = x' ∧ y = y' ∧ z = z' := by
  simp only [List.append_assoc, List.cons_append, List.nil_append] at h
  obtain ⟨e1, e2⟩ := reg_split hx hx' h
  obtain ⟨e3, e4⟩ := reg_split hy hy' (List.cons.inj e2).2
  exact ⟨e1, e3, reg_eq' hz hz' (List.cons.inj e4).2⟩
theorem ops_mem {x x' a a' v v' : Int} (hx : rgB x) (hx' : rgB x') (ha : rgB a) (ha' : rgB a') (hv : nmB v) (hv' : nmB v') (h : regL x ++ [44, 32] ++ digL v ++ [40] ++ regL a ++ [41] = regL x' ++ [44, 32] ++ digL v' ++ [40] ++ regL a' ++ [41]) : x = x' ∧ a = a' ∧ v = v' := by
  have h := snoc_inj h
  simp only [List.append_assoc, List.cons_append, List.nil_append] at h
  obtain ⟨e1, e2⟩ := reg_split hx hx' h
  obtain ⟨e3, e4⟩ := split_at (digL_no v).2 (digL_no v').2 (List.cons.inj e2).2
  exact ⟨e1, reg_eq' ha ha' e4, dig_eq' hv hv' e3⟩
theorem ops_lr {x x' a a' : Int} (hx : rgB x) (hx' : rgB x') (ha : rgB a) (ha' : rgB a') (h : regL x ++ [44, 32, 40] ++ regL a ++ [41] = regL x' ++ [44, 32, 40] ++ regL a' ++ [41]) : x = x' ∧ a = a' := by
  have h := snoc_inj h
  simp only [List.append_assoc, List.cons_append, List.nil_append] at h
  obtain ⟨e1, e2⟩ := reg_split hx hx' h
  exact ⟨e1, reg_eq' ha ha' (List.cons.inj (List.cons.inj e2).2).2⟩
theorem ops_amo {x x' y y' a a' : Int} (hx : rgB x) (hx' : rgB x') (hy : rgB y) (hy' : rgB y') (ha : rgB a) (ha' : rgB a') (h : regL x ++ [44, 32] ++ regL y ++ [44, 32, 40] ++ regL a ++ [41] = regL x' ++ [44, 32] ++ regL y' ++ [44, 32, 40] ++ regL a' ++ [41]) : x = x' ∧ y = y' ∧ a = a' := by
  have h := snoc_inj h
  simp only [List.append_assoc, List.cons_append, List.nil_append] at h
  obtain ⟨e1, e2⟩ := reg_split hx hx' h
  obtain ⟨e3, e4⟩ := reg_split hy hy' (List.cons.inj e2).2
  exact ⟨e1, e3, reg_eq' ha ha' (List.cons.inj (List.cons.inj e4).2).2⟩
theorem ops_side {v v' : Int} (h0 : 0 ≤ v ∧ v < 256) (h1 : 0 ≤ v' ∧ v' < 256) (h : sideL (v / 16) ++ [44, 32] ++ sideL (v % 16) = sideL (v' / 16) ++ [44, 32] ++ sideL (v' % 16)) : v = v' := by
  simp only [List.append_assoc, List.cons_append, List.nil_append] at h
  obtain ⟨e1, e2⟩ := split_at (sideL_chr (r := v / 16) (by omega) (by omega)) (sideL_chr (r := v' / 16) (by omega) (by omega)) h
  have q1 := sideL_inj (by omega) (by omega) (by omega) (by omega) e1
  have q2 := sideL_inj (by omega) (by omega) (by omega) (by omega) (List.cons.inj e2).2
  omega
theorem In.ext' {i k : In} (h1 : i.op = k.op) (h2 : i.rd = k.rd) (h3 : i.a = k.a) (h4 : i.b = k.b) (h5 : i.imm = k.imm) (h6 : i.aq = k.aq) (h7 : i.rl = k.rl) : i = k := by
  cases i; cases k; simp only at *; subst h1 h2 h3 h4 h5 h6 h7; rfl
theorem opsL_inj {i k : In} (hi : mayB i = true) (hk : mayB k = true) (ho : i.op = k.op) (ha : i.aq = k.aq) (hl : i.rl = k.rl) (hf : formZ i.op ≠ 0) (h : opsL i = opsL k) : i = k := by
  have F := may_fld hi
  have G := may_fld hk
  have hr := form_rng (may_ok hi)
  have hk' : formZ i.op = 1 ∨ formZ i.op = 2 ∨ formZ i.op = 3 ∨ formZ i.op = 4 ∨ formZ i.op = 5 ∨ formZ i.op = 6 ∨ formZ i.op = 7 ∨ formZ i.op = 8 ∨ formZ i.op = 9 ∨ formZ i.op = 10 ∨ formZ i.op = 11 := by omega
  have hI := imm_rng F.im hr.1 hr.2
  have hJ := imm_rng G.im (by rw [← ho]; exact hr.1) (by rw [← ho]; exact hr.2)
  have hrd : rgB i.rd := ⟨F.rd0, F.rd1⟩
  have hA : rgB i.a := ⟨F.a0, F.a1⟩
  have hB : rgB i.b := ⟨F.b0, F.b1⟩
  have krd : rgB k.rd := ⟨G.rd0, G.rd1⟩
  have kA : rgB k.a := ⟨G.a0, G.a1⟩
  have kB : rgB k.b := ⟨G.b0, G.b1⟩
  have rn := F.rdn
  have an := F.an
  have bn := F.bn
  have sn := G.rdn
  have cn := G.an
  have dn := G.bn
  rw [← ho] at sn cn dn hJ
  clear F G
  unfold immRg at hI hJ
  rcases hk' with e | e | e | e | e | e | e | e | e | e | e
  all_goals
    have e' : formZ k.op = _ := ho ▸ e
    rw [e] at rn an bn sn cn dn hI hJ
    simp [rdF, aF, bF, atZ] at rn an bn sn cn dn hI hJ
  · rw [opsL_12 (.inl e), opsL_12 (.inl e')] at h
    obtain ⟨p1, p2⟩ := ops_two hrd krd ⟨by omega, by omega⟩ ⟨by omega, by omega⟩ h
    exact In.ext' ho p1 (an.trans cn.symm) (bn.trans dn.symm) p2 ha hl
  · rw [opsL_12 (.inr e), opsL_12 (.inr e')] at h
    obtain ⟨p1, p2⟩ := ops_two hrd krd ⟨by omega, by omega⟩ ⟨by omega, by omega⟩ h
    exact In.ext' ho p1 (an.trans cn.symm) (bn.trans dn.symm) p2 ha hl
  · cases hm : (i.op == 4 || readZ i.op)
    · rw [opsL_imm (.inl e) hm, opsL_imm (.inl e') (ho ▸ hm)] at h
      obtain ⟨p1, p2, p3⟩ := ops_three hrd krd hA kA ⟨by omega, by omega⟩ ⟨by omega, by omega⟩ h
      exact In.ext' ho p1 p2 (bn.trans dn.symm) p3 ha hl
    · rw [opsL_mem (.inl e) hm, opsL_mem (.inl e') (ho ▸ hm)] at h
      obtain ⟨p1, p2, p3⟩ := ops_mem hrd krd hA kA ⟨by omega, by omega⟩ ⟨by omega, by omega⟩ h
      exact In.ext' ho p1 p2 (bn.trans dn.symm) p3 ha hl
  · rw [opsL_4 e, opsL_4 e'] at h
    obtain ⟨p1, p2, p3⟩ := ops_three hA kA hB kB ⟨by omega, by omega⟩ ⟨by omega, by omega⟩ h
    exact In.ext' ho (rn.trans sn.symm) p1 p2 p3 ha hl
  · rw [opsL_5 e, opsL_5 e'] at h
    obtain ⟨p1, p2, p3⟩ := ops_mem hB kB hA kA ⟨by omega, by omega⟩ ⟨by omega, by omega⟩ h
    exact In.ext' ho (rn.trans sn.symm) p2 p1 p3 ha hl
  · rw [opsL_6 e, opsL_6 e'] at h
    obtain ⟨p1, p2, p3⟩ := ops_regs hrd krd hA kA hB kB h
    exact In.ext' ho p1 p2 p3 (hI.trans hJ.symm) ha hl
  · cases hm : (i.op == 4 || readZ i.op)
    · rw [opsL_imm (.inr (.inl e)) hm, opsL_imm (.inr (.inl e')) (ho ▸ hm)] at h
      obtain ⟨p1, p2, p3⟩ := ops_three hrd krd hA kA ⟨by omega, by omega⟩ ⟨by omega, by omega⟩ h
      exact In.ext' ho p1 p2 (bn.trans dn.symm) p3 ha hl
    · rw [opsL_mem (.inr (.inl e)) hm, opsL_mem (.inr (.inl e')) (ho ▸ hm)] at h
      obtain ⟨p1, p2, p3⟩ := ops_mem hrd krd hA kA ⟨by omega, by omega⟩ ⟨by omega, by omega⟩ h
      exact In.ext' ho p1 p2 (bn.trans dn.symm) p3 ha hl
  · cases hm : (i.op == 4 || readZ i.op)
    · rw [opsL_imm (.inr (.inr e)) hm, opsL_imm (.inr (.inr e')) (ho ▸ hm)] at h
      obtain ⟨p1, p2, p3⟩ := ops_three hrd krd hA kA ⟨by omega, by omega⟩ ⟨by omega, by omega⟩ h
      exact In.ext' ho p1 p2 (bn.trans dn.symm) p3 ha hl
    · rw [opsL_mem (.inr (.inr e)) hm, opsL_mem (.inr (.inr e')) (ho ▸ hm)] at h
      obtain ⟨p1, p2, p3⟩ := ops_mem hrd krd hA kA ⟨by omega, by omega⟩ ⟨by omega, by omega⟩ h
      exact In.ext' ho p1 p2 (bn.trans dn.symm) p3 ha hl
  · rw [opsL_9 e, opsL_9 e'] at h
    exact In.ext' ho (rn.trans sn.symm) (an.trans cn.symm) (bn.trans dn.symm) (ops_side (by omega) (by omega) h) ha hl
  · rw [opsL_10 e, opsL_10 e'] at h
    obtain ⟨p1, p2⟩ := ops_lr hrd krd hA kA h
    exact In.ext' ho p1 p2 (bn.trans dn.symm) (hI.trans hJ.symm) ha hl
  · rw [opsL_11 e, opsL_11 e'] at h
    obtain ⟨p1, p2, p3⟩ := ops_amo hrd krd hB kB hA kA h
    exact In.ext' ho p1 p3 p2 (hI.trans hJ.symm) ha hl
/-- Unlike instructions have unlike texts. -/
theorem text_inj {i k : In} (hi : mayB i = true) (hk : mayB k = true) (h : textL i = textL k) : i = k := by
  have ci := headL_chr i.aq i.rl (may_ok hi)
  have ck := headL_chr k.aq k.rl (may_ok hk)
  unfold textL at h
  cases fi : formZ i.op == 0 <;> cases fk : formZ k.op == 0 <;> rw [fi, fk] at h <;> simp only [cond_true, cond_false] at h
  · obtain ⟨e1, e2⟩ := split_at ci ck h
    obtain ⟨o1, o2, o3⟩ := headL_inj (may_ok hi) (may_ok hk) e1
    exact opsL_inj hi hk o1 o2 o3 (by simpa using fi) e2
  · exact (no_split ck h.symm).elim
  · exact (no_split ci h).elim
  · obtain ⟨o1, o2, o3⟩ := headL_inj (may_ok hi) (may_ok hk) h
    have F := may_fld hi
    have G := may_fld hk
    have e0 : formZ i.op = 0 := by simpa using fi
    have k0 : formZ k.op = 0 := by simpa using fk
    have hI := imm_rng F.im (by omega) (by omega)
    have hJ := imm_rng G.im (by omega) (by omega)
    obtain ⟨r0, r1, rn, a0, a1, an, b0, b1, bn, _, _, _⟩ := F
    obtain ⟨s0, s1, sn, c0, c1, cn, d0, d1, dn, _, _, _⟩ := G
    rw [e0] at rn an bn hI
    rw [k0] at sn cn dn hJ
    unfold immRg at hI hJ
    simp [rdF, aF, bF, atZ] at rn an bn sn cn dn hI hJ
    obtain ⟨op, rd, a, b, imm, aq, rl⟩ := i
    obtain ⟨op', rd', a', b', imm', aq', rl'⟩ := k
    simp only at *
    subst o1 o2 o3 rn an bn sn cn dn hI hJ
    rfl
end Go.Proofs.YtgcglmnbkilfhaaGreatDoor
