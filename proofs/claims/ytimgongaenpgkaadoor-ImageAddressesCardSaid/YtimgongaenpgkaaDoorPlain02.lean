/- Plain words for layer 2: the names of registers; sets of registers as words. No word of the program. -/
import Derived.Test.YtimgongaenpgkaaDoorPlain01
namespace Go.Proofs.YtimgongaenpgkaaDoor
open Go.RowKit

/-- The digit n as a string. -/
def digS (n : Nat) : ByteArray := ⟨#[UInt8.ofNat (48 + n)]⟩
theorem digS_eq' : ∀ n : Fin 10, Utf8.encode (48 + (n.val : Int)) = digS n.val := by decide +kernel
theorem digS_eq (n : Nat) (h : n < 10) : Utf8.encode (48 + (n : Int)) = digS n := digS_eq' ⟨n, h⟩
/-- The number n < 100 in decimal. -/
def decS (n : Nat) : ByteArray := if n < 10 then digS n else digS (n / 10) ++ digS (n % 10)
theorem decS_lo (n : Nat) (h : n < 10) : decS n = digS n := by unfold decS; rw [if_pos h]
theorem decS_hi (n : Nat) (h : ¬ n < 10) : decS n = digS (n / 10) ++ digS (n % 10) := by unfold decS; rw [if_neg h]
theorem digS_size (n : Nat) : (digS n).size = 1 := rfl
theorem decS_size (n : Nat) : (decS n).size ≤ 2 := by
  unfold decS
  by_cases h : n < 10
  · rw [if_pos h, digS_size]; omega
  · rw [if_neg h, ByteArray.size_append, digS_size, digS_size]; omega
/-- The numeric name of register r. -/
def numS (r : Nat) : ByteArray := ⟨#[120]⟩ ++ decS r
/-- The ABI names, as the document lists them. -/
def useL : List ByteArray := [⟨#[122, 101, 114, 111]⟩, ⟨#[114, 97]⟩, ⟨#[115, 112]⟩, ⟨#[103, 112]⟩, ⟨#[116, 112]⟩, ⟨#[116, 48]⟩, ⟨#[116, 49]⟩, ⟨#[116, 50]⟩, ⟨#[115, 48]⟩, ⟨#[115, 49]⟩,
  ⟨#[97, 48]⟩, ⟨#[97, 49]⟩, ⟨#[97, 50]⟩, ⟨#[97, 51]⟩, ⟨#[97, 52]⟩, ⟨#[97, 53]⟩, ⟨#[97, 54]⟩, ⟨#[97, 55]⟩, ⟨#[115, 50]⟩, ⟨#[115, 51]⟩, ⟨#[115, 52]⟩, ⟨#[115, 53]⟩, ⟨#[115, 54]⟩, ⟨#[115, 55]⟩,
  ⟨#[115, 56]⟩, ⟨#[115, 57]⟩, ⟨#[115, 49, 48]⟩, ⟨#[115, 49, 49]⟩, ⟨#[116, 51]⟩, ⟨#[116, 52]⟩, ⟨#[116, 53]⟩, ⟨#[116, 54]⟩]
def useS (r : Nat) : ByteArray := useL.getD r ByteArray.empty
theorem powN_u32 (n : Nat) (h : n < 32) : (2 : Int) ^ n % 4294967296 = ((powN n : Nat) : Int) := by
  have h1 := powN_le n 31 (by omega)
  rw [powN_31] at h1
  have e : (2 : Int) ^ n = ((powN n : Nat) : Int) := by unfold powN; rw [Int.natCast_pow]; rfl
  rw [e]; omega
theorem ret_bool {a b : Bool} (h : a = b) : Ending.returned (.bool a) = .returned (.bool b) := by rw [h]
/-- The word x with bit r set, and without it. -/
def withN (x r : Nat) : Nat := x ||| powN r
def lessN (x r : Nat) : Nat := x &&& (4294967295 - powN r)
theorem powN_lt32 (r : Nat) (h : r < 32) : powN r < 4294967296 := by
  have h1 := powN_le r 31 (by omega)
  rw [powN_31] at h1; omega
theorem withN_lt (x r : Nat) (hx : x < 4294967296) (h : r < 32) : withN x r < 4294967296 := Nat.or_lt_two_pow (n := 32) hx (powN_lt32 r h)
theorem lessN_lt (x r : Nat) (hx : x < 4294967296) : lessN x r < 4294967296 := Nat.lt_of_le_of_lt Nat.and_le_left hx
theorem and_pow' (x r : Nat) : x &&& 2 ^ r = if x.testBit r then 2 ^ r else 0 := by
  refine Nat.eq_of_testBit_eq fun i => ?_
  rw [Nat.testBit_and, Nat.testBit_two_pow]
  by_cases h : r = i
  · subst h
    by_cases hx : x.testBit r
    · rw [if_pos hx, Nat.testBit_two_pow]; simp [hx]
    · rw [if_neg hx]; simp [hx]
  · by_cases hx : x.testBit r
    · rw [if_pos hx, Nat.testBit_two_pow]; simp [h]
    · rw [if_neg hx]; simp [h]
theorem and_pow (x r : Nat) : (x &&& powN r != 0) = x.testBit r := by
  unfold powN
  rw [and_pow']
  have := Nat.two_pow_pos r
  by_cases h : x.testBit r
  · rw [if_pos h, h]; simp
  · rw [if_neg h]; simp [h]
theorem has_eq (x r : Nat) (hx : x < 4294967296) (h : r < 32) : (bits .and .u32 (x : Int) (powN r : Nat) != 0) = x.testBit r := by
  rw [u32_and_nat x _ hx (powN_lt32 r h), ← and_pow x r]
  rw [Bool.eq_iff_iff]; simp
theorem and_zero (x : Nat) (hx : x < 4294967296) : bits .and .u32 (x : Int) 0 = 0 := by
  have := u32_and_nat x 0 hx (by omega)
  simpa using this
theorem or_zero (x : Nat) (hx : x < 4294967296) : bits .or .u32 (x : Int) 0 = x := by
  have := u32_or_nat x 0 hx (by omega)
  simpa using this
theorem andNot_zero (x : Nat) (hx : x < 4294967296) : bits .andNot .u32 (x : Int) 0 = x := by
  have := u32_andNot_nat x 0 hx (by omega)
  rw [show (((0 : Nat) : Int)) = 0 from rfl] at this
  rw [this]
  have h2 : x &&& (4294967295 - 0) = x := by
    rw [show 4294967295 - 0 = 2 ^ 32 - 1 from rfl, Nat.and_two_pow_sub_one_eq_mod]; omega
  rw [h2]
theorem with_eq (x r : Nat) (hx : x < 4294967296) (h : r < 32) : bits .or .u32 (x : Int) (powN r : Nat) = ((withN x r : Nat) : Int) := u32_or_nat x _ hx (powN_lt32 r h)
theorem less_eq (x r : Nat) (hx : x < 4294967296) (h : r < 32) : bits .andNot .u32 (x : Int) (powN r : Nat) = ((lessN x r : Nat) : Int) := u32_andNot_nat x _ hx (powN_lt32 r h)
theorem test_powN (r i : Nat) : (powN r).testBit i = decide (r = i) := by unfold powN; rw [Nat.testBit_two_pow]
theorem test_withN (x r i : Nat) : (withN x r).testBit i = (x.testBit i || decide (r = i)) := by unfold withN; rw [Nat.testBit_or, test_powN]
theorem test_lessN (x r i : Nat) (h : r < 32) (hi : i < 32) : (lessN x r).testBit i = (x.testBit i && !decide (r = i)) := by
  unfold lessN
  have e : 4294967295 - powN r = 2 ^ 32 - (powN r + 1) := by omega
  rw [Nat.testBit_and, e, Nat.testBit_two_pow_sub_succ (powN_lt32 r h), test_powN]
  simp [hi]

/-- Is r among the first n of f? -/
def inN (f : Nat → Int) (r : Int) : Nat → Bool
  | 0 => false
  | j + 1 => inN f r j || f j == r
theorem inN_hit {f : Nat → Int} {r : Int} {j n : Nat} (h : j < n) (e : f j = r) : inN f r n = true := by
  induction n with
  | zero => omega
  | succ n ih =>
    rw [inN]
    by_cases hj : j = n
    · subst hj; simp [e]
    · rw [ih (by omega)]; rfl
theorem inN_iff {f : Nat → Int} {r : Int} {n : Nat} : inN f r n = true ↔ ∃ j, j < n ∧ f j = r := by
  constructor
  · induction n with
    | zero => intro h; cases h
    | succ n ih =>
      rw [inN, Bool.or_eq_true]
      rintro (h | h)
      · obtain ⟨j, hj, e⟩ := ih h; exact ⟨j, by omega, e⟩
      · exact ⟨n, by omega, by simpa using h⟩
  · rintro ⟨j, hj, e⟩; exact inN_hit hj e
/-- The set of those of the first n of f that are registers. -/
def ofN (f : Nat → Int) : Nat → Nat
  | 0 => 0
  | j + 1 => if 0 ≤ f j ∧ f j < 32 then withN (ofN f j) (f j).toNat else ofN f j
theorem ofN_lt (f : Nat → Int) (n : Nat) : ofN f n < 4294967296 := by
  induction n with
  | zero => simp [ofN]
  | succ n ih =>
    rw [ofN]
    by_cases h : 0 ≤ f n ∧ f n < 32
    · rw [if_pos h]; exact withN_lt _ _ ih (by omega)
    · rw [if_neg h]; exact ih
theorem ofN_yes (f : Nat → Int) (n r : Nat) (h : r < 32) (e : f n = (r : Int)) : ofN f (n + 1) = withN (ofN f n) r := by
  rw [ofN, if_pos (by omega), e, Int.toNat_natCast]
theorem ofN_no (f : Nat → Int) (n : Nat) (h : f n < 0 ∨ 32 ≤ f n) : ofN f (n + 1) = ofN f n := by
  rw [ofN, if_neg (by omega)]
theorem ofN_test (f : Nat → Int) (n i : Nat) (h : i < 32) : (ofN f n).testBit i = inN f (i : Int) n := by
  induction n with
  | zero => simp [ofN, inN]
  | succ n ih =>
    rw [inN, ← ih]
    by_cases hr : 0 ≤ f n ∧ f n < 32
    · obtain ⟨r, hr2⟩ : ∃ r : Nat, f n = (r : Int) := ⟨(f n).toNat, by omega⟩
      rw [ofN_yes f n r (by omega) hr2, test_withN, hr2]
      congr 1
      rw [Bool.eq_iff_iff]; simp; omega
    · rw [ofN_no f n (by omega)]
      have : (f n == (i : Int)) = false := by simp; omega
      rw [this, Bool.or_false]
/-- Those below j of which p is true, rising. -/
def listP (p : Nat → Bool) (j : Nat) : List Int := ((List.range j).filter p).map fun i : Nat => (i : Int)
theorem listP_yes {p : Nat → Bool} {j : Nat} (h : p j = true) : listP p (j + 1) = listP p j ++ [(j : Int)] := by
  simp [listP, List.range_succ, List.filter_append, h]
theorem listP_no {p : Nat → Bool} {j : Nat} (h : p j = false) : listP p (j + 1) = listP p j := by
  simp [listP, List.range_succ, List.filter_append, h]
theorem listP_len (p : Nat → Bool) (j : Nat) : (listP p j).length ≤ j := by
  unfold listP
  rw [List.length_map]
  exact Nat.le_trans (List.length_filter_le _ _) (by simp)
theorem listP_congr {p q : Nat → Bool} {j : Nat} (h : ∀ i, i < j → p i = q i) : listP p j = listP q j := by
  unfold listP
  rw [List.filter_congr (fun x hx => h x (List.mem_range.mp hx))]
theorem mem_listP {p : Nat → Bool} {j : Nat} {x : Int} : x ∈ listP p j ↔ ∃ i : Nat, i < j ∧ p i = true ∧ x = (i : Int) := by
  unfold listP
  simp only [List.mem_map, List.mem_filter, List.mem_range]
  constructor
  · rintro ⟨a, ⟨h1, h2⟩, h3⟩; exact ⟨a, h1, h2, h3.symm⟩
  · rintro ⟨a, h1, h2, h3⟩; exact ⟨a, ⟨h1, h2⟩, h3.symm⟩
theorem inN_list (xs : List Int) (r : Int) : inN (fun i => xs.getD i 0) r xs.length = true ↔ r ∈ xs := by
  rw [inN_iff, List.mem_iff_getElem]
  constructor
  · rintro ⟨j, hj, e⟩; exact ⟨j, hj, by simpa [List.getD_eq_getElem?_getD, List.getElem?_eq_getElem hj] using e⟩
  · rintro ⟨j, hj, e⟩; exact ⟨j, hj, by simpa [List.getD_eq_getElem?_getD, List.getElem?_eq_getElem hj] using e⟩
/-- Is s one of the two names of register r? -/
def isNameB (s : ByteArray) (r : Nat) : Bool := s.toList == (useS r).toList || s.toList == (numS r).toList
theorem isNameB_or {s : ByteArray} {r : Nat} (h : (s.toList == (useS r).toList) = true ∨ (s.toList == (numS r).toList) = true) : isNameB s r = true := by unfold isNameB; simp only [Bool.or_eq_true]; exact h
theorem isNameB_use {s : ByteArray} {r : Nat} (h : s.toList = (useS r).toList) : isNameB s r = true := isNameB_or (.inl (by simp [h]))
theorem isNameB_no {s : ByteArray} {r : Nat} (h : (s.toList == (useS r).toList) = false ∧ (s.toList == (numS r).toList) = false) : isNameB s r = false := by unfold isNameB; simp only [h.1, h.2, Bool.or_false]
def NotYet (s : ByteArray) (j : Nat) : Prop := ∀ i, i < j → isNameB s i = false
theorem NotYet.succ {s : ByteArray} {j : Nat} (h : NotYet s j) (hn : isNameB s j = false) : NotYet s (j + 1) := fun i hi => by
  rcases Nat.lt_or_ge i j with h' | h'
  · exact h i h'
  · obtain rfl : i = j := by omega
    exact hn
theorem useS_eq' : ∀ r : Fin 32, (useS r.val).toList = ((if r.val ≤ 4 then useL.getD r.val ByteArray.empty else if r.val ≤ 7 then ⟨#[116]⟩ ++ decS (r.val - 5) else if r.val ≤ 9 then ⟨#[115]⟩ ++ decS (r.val - 8) else if r.val ≤ 17 then ⟨#[97]⟩ ++ decS (r.val - 10) else if r.val ≤ 27 then ⟨#[115]⟩ ++ decS (r.val - 16) else ⟨#[116]⟩ ++ decS (r.val - 25) : ByteArray)).toList := by decide +kernel
/-- Each name is its own register's, and no lower one's. -/
theorem names_own' : ∀ r : Fin 32, (isNameB (useS r.val) r.val = true ∧ ∀ i : Fin 32, i.val < r.val → isNameB (useS r.val) i.val = false) ∧ (isNameB (numS r.val) r.val = true ∧ ∀ i : Fin 32, i.val < r.val → isNameB (numS r.val) i.val = false) := by decide +kernel
theorem use_own (r : Nat) (h : r < 32) : isNameB (useS r) r = true ∧ ∀ i, i < r → isNameB (useS r) i = false :=
  ⟨(names_own' ⟨r, h⟩).1.1, fun i hi => (names_own' ⟨r, h⟩).1.2 ⟨i, by omega⟩ hi⟩
theorem num_own (r : Nat) (h : r < 32) : isNameB (numS r) r = true ∧ ∀ i, i < r → isNameB (numS r) i = false :=
  ⟨(names_own' ⟨r, h⟩).2.1, fun i hi => (names_own' ⟨r, h⟩).2.2 ⟨i, by omega⟩ hi⟩
theorem digS_cut' : ∀ n : Fin 10, (ByteArray.extract { data := #[48, 49, 50, 51, 52, 53, 54, 55, 56, 57] } n.val (n.val + 1)).toList = (digS n.val).toList := by decide +kernel
theorem bytes_ext {a b : ByteArray} (h : a.toList = b.toList) : a = b := by
  have : a.data.toList = b.data.toList := by rw [← ByteArray.toList_eq, ← ByteArray.toList_eq]; exact h
  cases a; cases b; simp at this; simp [this]
theorem digS_cut (n : Nat) (h : n < 10) : ByteArray.extract { data := #[48, 49, 50, 51, 52, 53, 54, 55, 56, 57] } n (n + 1) = digS n := bytes_ext (digS_cut' ⟨n, h⟩)
theorem useS_t (r : Nat) (h : 4 < r) (h2 : r ≤ 7) : ⟨#[116]⟩ ++ decS (r - 5) = useS r := by
  have := useS_eq' ⟨r, by omega⟩
  exact bytes_ext (by rw [this]; simp only [if_neg (show ¬ r ≤ 4 by omega), if_pos h2])
theorem useS_s (r : Nat) (h : 7 < r) (h2 : r ≤ 9) : ⟨#[115]⟩ ++ decS (r - 8) = useS r := by
  have := useS_eq' ⟨r, by omega⟩
  exact bytes_ext (by rw [this]; simp only [if_neg (show ¬ r ≤ 4 by omega), if_neg (show ¬ r ≤ 7 by omega), if_pos h2])
theorem useS_a (r : Nat) (h : 9 < r) (h2 : r ≤ 17) : ⟨#[97]⟩ ++ decS (r - 10) = useS r := by
  have := useS_eq' ⟨r, by omega⟩
  exact bytes_ext (by rw [this]; simp only [if_neg (show ¬ r ≤ 4 by omega), if_neg (show ¬ r ≤ 7 by omega), if_neg (show ¬ r ≤ 9 by omega), if_pos h2])
theorem useS_s2 (r : Nat) (h : 17 < r) (h2 : r ≤ 27) : ⟨#[115]⟩ ++ decS (r - 16) = useS r := by
  have := useS_eq' ⟨r, by omega⟩
  exact bytes_ext (by rw [this]; simp only [if_neg (show ¬ r ≤ 4 by omega), if_neg (show ¬ r ≤ 7 by omega), if_neg (show ¬ r ≤ 9 by omega), if_neg (show ¬ r ≤ 17 by omega), if_pos h2])
theorem useS_t2 (r : Nat) (h : 27 < r) (h2 : r < 32) : ⟨#[116]⟩ ++ decS (r - 25) = useS r := by
  have := useS_eq' ⟨r, by omega⟩
  exact bytes_ext (by rw [this]; simp only [if_neg (show ¬ r ≤ 4 by omega), if_neg (show ¬ r ≤ 7 by omega), if_neg (show ¬ r ≤ 9 by omega), if_neg (show ¬ r ≤ 17 by omega), if_neg (show ¬ r ≤ 27 by omega)])
theorem isNameB_num' {s : ByteArray} {r : Nat} (h : (numS r).toList = s.toList) : isNameB s r = true := isNameB_or (.inr (by simp [h]))
theorem isNameB_or' {s : ByteArray} {r : Nat} (h : ((numS r).toList == s.toList) = true ∨ ((useS r).toList == s.toList) = true) : isNameB s r = true := by
  simp only [beq_iff_eq] at h
  rcases h with h | h
  · exact isNameB_num' h
  · exact isNameB_use h.symm
theorem isNameB_no' {s : ByteArray} {r : Nat} (h : ((numS r).toList == s.toList) = false ∧ ((useS r).toList == s.toList) = false) : isNameB s r = false := by
  obtain ⟨h1, h2⟩ := h
  rw [beq_eq_false_iff_ne] at h1 h2
  refine isNameB_no ⟨?_, ?_⟩ <;> rw [beq_eq_false_iff_ne]
  · exact fun h => h2 h.symm
  · exact fun h => h1 h.symm
/-- Does register r belong to the set x? -/
def inSetB (x : Nat) (r : Int) : Bool := decide (0 ≤ r ∧ r < 32) && x.testBit r.toNat
theorem hasB_yes (x r : Nat) (h : r < 32) : inSetB x (r : Int) = x.testBit r := by
  unfold inSetB
  rw [decide_eq_true (by omega), Bool.true_and, Int.toNat_natCast]
theorem hasB_no (x : Nat) (r : Int) (h : r < 0 ∨ 32 ≤ r) : inSetB x r = false := by
  unfold inSetB
  rw [decide_eq_false (by omega)]; rfl
/-- Is r in the list? -/
def inL (xs : List Int) (r : Int) : Bool := inN (fun i => xs.getD i 0) r xs.length
theorem inL_iff (xs : List Int) (r : Int) : inL xs r = true ↔ r ∈ xs := inN_list xs r
theorem inL_listP (p : Nat → Bool) (r : Int) : inL (listP p 32) r = (decide (0 ≤ r ∧ r < 32) && p r.toNat) := by
  rw [Bool.eq_iff_iff, inL_iff, mem_listP, Bool.and_eq_true, decide_eq_true_iff]
  constructor
  · rintro ⟨i, hi, hp, rfl⟩; exact ⟨by omega, by simpa using hp⟩
  · rintro ⟨h, hp⟩; exact ⟨r.toNat, by omega, hp, by omega⟩
theorem inL_has (x : Nat) (r : Int) : inL (listP x.testBit 32) r = inSetB x r := inL_listP _ r
/-- The set of a list. -/
def ofL (xs : List Int) : Nat := ofN (fun i => xs.getD i 0) xs.length
theorem ofL_lt (xs : List Int) : ofL xs < 4294967296 := ofN_lt _ _
theorem ofL_test (xs : List Int) (i : Nat) (h : i < 32) : (ofL xs).testBit i = inL xs (i : Int) := ofN_test _ _ i h
theorem word_ext {x y : Nat} (hx : x < 4294967296) (hy : y < 4294967296) (h : ∀ i, i < 32 → x.testBit i = y.testBit i) : x = y := by
  refine Nat.eq_of_testBit_eq fun i => ?_
  by_cases hi : i < 32
  · exact h i hi
  · have p : 4294967296 ≤ 2 ^ i := Nat.pow_le_pow_right (n := 2) (by omega) (show 32 ≤ i by omega)
    rw [Nat.testBit_lt_two_pow (Nat.lt_of_lt_of_le hx p), Nat.testBit_lt_two_pow (Nat.lt_of_lt_of_le hy p)]
theorem ofL_list (x : Nat) (hx : x < 4294967296) : ofL (listP x.testBit 32) = x :=
  word_ext (ofL_lt _) hx fun i hi => by rw [ofL_test _ i hi, inL_has, hasB_yes x i hi]
theorem listP_in (xs : List Int) : listP (fun i : Nat => inL xs (i : Int)) 32 = listP (ofL xs).testBit 32 :=
  listP_congr fun i hi => (ofL_test xs i hi).symm
theorem listP_least (p : Nat → Bool) (n r : Nat) (hr : r < n) (h : p r = true) (hn : ∀ i, i < r → p i = false) : ∃ t, listP p n = (r : Int) :: t := by
  have base : listP p (r + 1) = [(r : Int)] := by
    rw [listP_yes h]
    have : ∀ m, m ≤ r → listP p m = [] := by
      intro m hm
      induction m with
      | zero => rfl
      | succ m ih => rw [listP_no (hn m (by omega)), ih (by omega)]
    rw [this r (Nat.le_refl _)]; rfl
  have step : ∀ m, r + 1 ≤ m → ∃ t, listP p m = (r : Int) :: t := by
    intro m hm
    induction m with
    | zero => omega
    | succ m ih =>
      by_cases e : r + 1 = m + 1
      · exact ⟨[], by rw [← e]; exact base⟩
      · obtain ⟨t, ht⟩ := ih (by omega)
        cases hb : p m with
        | true => exact ⟨t ++ [(m : Int)], by rw [listP_yes hb, ht]; rfl⟩
        | false => exact ⟨t, by rw [listP_no hb, ht]⟩
  exact step n hr
theorem listP_nil (p : Nat → Bool) (n : Nat) (hn : ∀ i, i < n → p i = false) : listP p n = [] := by
  induction n with
  | zero => rfl
  | succ n ih => rw [listP_no (hn n (by omega)), ih (fun i hi => hn i (by omega))]
theorem least_bit (p : Nat → Bool) (n : Nat) : (∃ r, r < n ∧ p r = true ∧ ∀ i, i < r → p i = false) ∨ ∀ i, i < n → p i = false := by
  induction n with
  | zero => exact .inr fun i hi => by omega
  | succ n ih =>
    rcases ih with ⟨r, hr, h1, h2⟩ | h
    · exact .inl ⟨r, by omega, h1, h2⟩
    · cases hb : p n with
      | true => exact .inl ⟨n, by omega, hb, h⟩
      | false =>
        refine .inr fun i hi => ?_
        rcases Nat.lt_or_ge i n with h' | h'
        · exact h i h'
        · obtain rfl : i = n := by omega
          exact hb
/-- The set x with r added, and without it, for any number r. -/
def withZ (x : Nat) (r : Int) : Nat := if 0 ≤ r ∧ r < 32 then withN x r.toNat else x
def lessZ (x : Nat) (r : Int) : Nat := if 0 ≤ r ∧ r < 32 then lessN x r.toNat else x
theorem withZ_lt (x : Nat) (r : Int) (hx : x < 4294967296) : withZ x r < 4294967296 := by
  unfold withZ
  by_cases h : 0 ≤ r ∧ r < 32
  · rw [if_pos h]; exact withN_lt _ _ hx (by omega)
  · rw [if_neg h]; exact hx
theorem lessZ_lt (x : Nat) (r : Int) (hx : x < 4294967296) : lessZ x r < 4294967296 := by
  unfold lessZ
  by_cases h : 0 ≤ r ∧ r < 32
  · rw [if_pos h]; exact lessN_lt _ _ hx
  · rw [if_neg h]; exact hx
theorem withZ_test (x : Nat) (r : Int) (i : Nat) (hi : i < 32) : (withZ x r).testBit i = (x.testBit i || decide ((i : Int) = r)) := by
  unfold withZ
  by_cases h : 0 ≤ r ∧ r < 32
  · rw [if_pos h, test_withN]
    congr 1
    rw [Bool.eq_iff_iff]; simp; omega
  · rw [if_neg h, decide_eq_false (by omega), Bool.or_false]
theorem lessZ_test (x : Nat) (r : Int) (i : Nat) (hi : i < 32) : (lessZ x r).testBit i = (x.testBit i && !decide ((i : Int) = r)) := by
  unfold lessZ
  by_cases h : 0 ≤ r ∧ r < 32
  · rw [if_pos h, test_lessN _ _ _ (by omega) hi]
    congr 2
    rw [Bool.eq_iff_iff]; simp; omega
  · rw [if_neg h, decide_eq_false (by omega)]; simp
end Go.Proofs.YtimgongaenpgkaaDoor
