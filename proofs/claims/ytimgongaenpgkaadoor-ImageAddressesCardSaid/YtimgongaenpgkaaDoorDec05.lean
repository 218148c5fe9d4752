/- The answer by definition for layer 5: a word's instruction. -/
import Derived.Test.YtimgongaenpgkaaDoorRef05
import Derived.Test.YtimgongaenpgkaaDoorS2I
namespace Go.Proofs.YtimgongaenpgkaaDoor
open Go.RowKit Sim S2
set_option linter.unusedVariables false

theorem encA_ex : ∃ g : In → Int, ∀ i, g i = encZ i := ⟨_, fun _ => rfl⟩
/-- An instruction's word, as an atom. -/
noncomputable def encA : In → Int := Classical.choose encA_ex
theorem encA_eq (i : In) : encA i = encZ i := Classical.choose_spec encA_ex i
noncomputable def decRefEncA : List Value → Option (Value × Bool) := fun l => match decIn l with
  | some i => some (.int .u32 (encA i), pre (mayB i))
  | none => none
noncomputable def pRefEncA : PTab := prowD 36 decRefEncA
theorem pRefEncA_ok {gl : Gl} : PTabOk Tryd.prog gl pRefEncA := .rowD fun args u hd w hG => by
  unfold decRefEncA at hd
  split at hd
  · rename_i i hi
    simp only [Option.some.injEq, Prod.mk.injEq, pre] at hd
    obtain ⟨rfl, hc⟩ := hd
    rw [decIn_eq _ _ hi, encA_eq]
    exact refEncode_ret i hc w hG
  · cases hd
noncomputable def tRef5C : Tab := orT tRefForm <| orT tHasRd <| orT tHasA <| orT tHasB tRefMay
theorem tRef5C_ok {gl : Gl} : TabOk Tryd.prog gl tRef5C := tRefForm_ok.or <| tHasRd_ok.or <| tHasA_ok.or <| tHasB_ok.or tRefMay_ok
noncomputable def pRef5C : PTab := orP pRefWord <| orP pRef5Bits <| orP pRef5Imm <| orP pRefBit pRefEncA
theorem pRef5C_ok {gl : Gl} : PTabOk Tryd.prog gl pRef5C := pRefWord_ok.or <| pRef5Bits_ok.or <| pRef5Imm_ok.or <| pRefBit_ok.or pRefEncA_ok
noncomputable def env5 (gl : Gl) : S2.Env := env Tryd.prog gl tRef5C pRef5C noL
theorem env5_ok (gl : Gl) : CallOk (env5 gl) := env_ok tRef5C_ok pRef5C_ok (.none _ _)
def zeroC : List Value := [.int .i64 0, .int .i64 0, .int .i64 0, .int .i64 0, .int .i64 0, .bool false, .bool false]
def dec5Path : List Nat := [0, 1, 0, 1]
noncomputable def dec5C : Code := codeAt (codeOf Tryd.prog 17) (0 :: dec5Path)
noncomputable def dec5S (v : Int) (j : Nat) : S2.St := { tmps := [(0, .inl ([true], .int .u32 v)), (2, .inr (0, 0, none)), (3, .inl ([true], .int .i64 ((j + 1 : Nat) : Int)))], own := ⟨[S2.blk zeroC 29 []], []⟩, lo := 0, llo := 0, mem := true, orc := [], obl := [] }
def dec5P : Pick := { ts := [0, 2, 3], bs := [0], ls := [] }
def inCells (i : In) : List Value := [.int .i64 i.op, .int .i64 i.rd, .int .i64 i.a, .int .i64 i.b, .int .i64 i.imm, .bool i.aq, .bool i.rl]
noncomputable def dec5E (v : Int) (j : Nat) (i : In) : S2.St := { dec5S v j with own := ⟨[S2.blk (inCells i) 29 [true, true, true, true, true, true, true]], []⟩ }
noncomputable def in5 (b1 b2 b3 q10 q11 : Bool) (v op : Int) : In := ⟨op, bif b1 then bit5Z v 7 5 0 else 0, bif b2 then bit5Z v 15 5 0 else 0, bif b3 then bit5Z v 20 5 0 else 0, immD (formZ op) v,
  bif q10 || q11 then bitZ (IntKind.u64.wrap v) 26 == 1 else false, bif q10 || q11 then bitZ (IntKind.u64.wrap v) 25 == 1 else false⟩
def orc5 (b1 b2 b3 q10 q11 : Bool) (l : List Bool) : List Bool := true :: false :: b1 :: b2 :: b3 :: ((bif q10 then [true] else [false, q11]) ++ l)
noncomputable def lst5 (b1 b2 b3 q10 q11 : Bool) (v op : Int) : List (Bool × Bool) :=
  (bif q10 then [(pre (bitC (IntKind.u64.wrap v) 25), true), (pre (bitC (IntKind.u64.wrap v) 26), true), (formZ op == 10, true)]
    else bif q11 then [(pre (bitC (IntKind.u64.wrap v) 25), true), (pre (bitC (IntKind.u64.wrap v) 26), true), (formZ op == 11, true), (formZ op == 10, false)] else [(formZ op == 11, false), (formZ op == 10, false)]) ++
  ((bif b3 then [(pre (w32B v && bitsC 20 5 0), true), (bF (formZ op), true)] else [(bF (formZ op), false)]) ++
  ((bif b2 then [(pre (w32B v && bitsC 15 5 0), true), (aF (formZ op), true)] else [(aF (formZ op), false)]) ++
  ((bif b1 then [(pre (w32B v && bitsC 7 5 0), true), (rdF (formZ op), true)] else [(rdF (formZ op), false)]) ++
  [(pre (w32B v), true), ((wordZ op).tmod 128 != v.tmod 128, false), (pre (okB op), true), (decide (op ≤ 87), true)])))
theorem iterB (gl : Gl) (v : Int) (j : Nat) (b1 b2 b3 q10 q11 : Bool) : iter (env5 gl) 1000 66 dec5C dec5P (orc5 b1 b2 b3 q10 q11 [false]) (dec5S v j) =
    some (none, dec5S v (j + 1), (pre (inI (((j + 1 : Nat) : Int) + 1)), true) :: (mayB (in5 b1 b2 b3 q10 q11 v ((j + 1 : Nat) : Int)), false) :: lst5 b1 b2 b3 q10 q11 v ((j + 1 : Nat) : Int)) := by
  cases q10
  · cases q11 <;> cases b1 <;> cases b2 <;> cases b3 <;> kernel_rfl
  · cases q11 <;> cases b1 <;> cases b2 <;> cases b3 <;> kernel_rfl
/-- One round's outcome, part by part. -/
theorem iter_of {o : Option (X × S2.St × List (Bool × Bool))} {x : X} {s : S2.St} {l r : List (Bool × Bool)} (n : Nat) (h1 : o.map (·.1) = some x) (h2 : o.map (·.2.1) = some s) (h3 : o.map (fun y => y.2.2.take n) = some l) (h4 : o.map (fun y => y.2.2.drop n) = some r) : o = some (x, s, l ++ r) := by
  cases o with
  | none => cases h1
  | some y =>
    simp only [Option.map_some, Option.some.injEq] at h1 h2 h3 h4
    obtain ⟨a, b, c⟩ := y
    simp only at h1 h2 h3 h4
    rw [← h1, ← h2, ← h3, ← h4, List.take_append_drop]
theorem iterC1 (gl : Gl) (v : Int) (j : Nat) (b1 b2 b3 q10 q11 : Bool) : (iter (env5 gl) 1000 66 dec5C dec5P (orc5 b1 b2 b3 q10 q11 [true, false]) (dec5S v j)).map (·.1) = some none := by
  cases q10
  · cases q11 <;> cases b1 <;> cases b2 <;> cases b3 <;> kernel_rfl
  · cases q11 <;> cases b1 <;> cases b2 <;> cases b3 <;> kernel_rfl
theorem iterC2 (gl : Gl) (v : Int) (j : Nat) (b1 b2 b3 q10 q11 : Bool) : (iter (env5 gl) 1000 66 dec5C dec5P (orc5 b1 b2 b3 q10 q11 [true, false]) (dec5S v j)).map (·.2.1) = some (dec5S v (j + 1)) := by
  cases q10
  · cases q11 <;> cases b1 <;> cases b2 <;> cases b3 <;> kernel_rfl
  · cases q11 <;> cases b1 <;> cases b2 <;> cases b3 <;> kernel_rfl
theorem iterC3 (gl : Gl) (v : Int) (j : Nat) (b1 b2 b3 q10 q11 : Bool) : (iter (env5 gl) 1000 66 dec5C dec5P (orc5 b1 b2 b3 q10 q11 [true, false]) (dec5S v j)).map (fun y => y.2.2.take 4) = some [(pre (inI (((j + 1 : Nat) : Int) + 1)), true), (encA (in5 b1 b2 b3 q10 q11 v ((j + 1 : Nat) : Int)) == v, false), (pre (mayB (in5 b1 b2 b3 q10 q11 v ((j + 1 : Nat) : Int))), true), (mayB (in5 b1 b2 b3 q10 q11 v ((j + 1 : Nat) : Int)), true)] := by
  cases q10
  · cases q11 <;> cases b1 <;> cases b2 <;> cases b3 <;> kernel_rfl
  · cases q11 <;> cases b1 <;> cases b2 <;> cases b3 <;> kernel_rfl
theorem iterC4 (gl : Gl) (v : Int) (j : Nat) (b1 b2 b3 q10 q11 : Bool) : (iter (env5 gl) 1000 66 dec5C dec5P (orc5 b1 b2 b3 q10 q11 [true, false]) (dec5S v j)).map (fun y => y.2.2.drop 4) = some (lst5 b1 b2 b3 q10 q11 v ((j + 1 : Nat) : Int)) := by
  cases q10
  · cases q11 <;> cases b1 <;> cases b2 <;> cases b3 <;> kernel_rfl
  · cases q11 <;> cases b1 <;> cases b2 <;> cases b3 <;> kernel_rfl
theorem iterC (gl : Gl) (v : Int) (j : Nat) (b1 b2 b3 q10 q11 : Bool) : (iter (env5 gl) 1000 66 dec5C dec5P (orc5 b1 b2 b3 q10 q11 [true, false]) (dec5S v j)) = some (none, dec5S v (j + 1), [(pre (inI (((j + 1 : Nat) : Int) + 1)), true), (encA (in5 b1 b2 b3 q10 q11 v ((j + 1 : Nat) : Int)) == v, false), (pre (mayB (in5 b1 b2 b3 q10 q11 v ((j + 1 : Nat) : Int))), true), (mayB (in5 b1 b2 b3 q10 q11 v ((j + 1 : Nat) : Int)), true)] ++ lst5 b1 b2 b3 q10 q11 v ((j + 1 : Nat) : Int)) :=
  iter_of 4 (iterC1 gl v j b1 b2 b3 q10 q11) (iterC2 gl v j b1 b2 b3 q10 q11) (iterC3 gl v j b1 b2 b3 q10 q11) (iterC4 gl v j b1 b2 b3 q10 q11)
theorem iterD (gl : Gl) (v : Int) (j : Nat) (b1 b2 b3 q10 q11 : Bool) : iter (env5 gl) 1000 66 dec5C dec5P (orc5 b1 b2 b3 q10 q11 [true, true]) (dec5S v j) =
    some (some none, dec5E v j (in5 b1 b2 b3 q10 q11 v ((j + 1 : Nat) : Int)), [(encA (in5 b1 b2 b3 q10 q11 v ((j + 1 : Nat) : Int)) == v, true), (pre (mayB (in5 b1 b2 b3 q10 q11 v ((j + 1 : Nat) : Int))), true), (mayB (in5 b1 b2 b3 q10 q11 v ((j + 1 : Nat) : Int)), true)] ++ lst5 b1 b2 b3 q10 q11 v ((j + 1 : Nat) : Int)) := by
  cases q10
  · cases q11 <;> cases b1 <;> cases b2 <;> cases b3 <;> kernel_rfl
  · cases q11 <;> cases b1 <;> cases b2 <;> cases b3 <;> kernel_rfl
theorem bitC_wrap (x n : Int) : bitC (IntKind.u64.wrap x) n = decide (0 ≤ n ∧ n ≤ 64) := by
  have h : 0 ≤ IntKind.u64.wrap x ∧ IntKind.u64.wrap x < 18446744073709551616 := by
    have : IntKind.u64.wrap x = x % 18446744073709551616 := rfl
    omega
  simp [bitC, h.1, h.2]
theorem lst5_ok (v op : Int) (hv : w32B v = true) (ho : okB op = true) (ht : ((wordZ op).tmod 128 != v.tmod 128) = false) : ∀ p ∈ lst5 (rdF (formZ op)) (aF (formZ op)) (bF (formZ op)) (formZ op == 10) (formZ op == 11) v op, p.1 = p.2 := by
  have h87 : op ≤ 87 := by unfold okB at ho; rw [decide_eq_true_iff] at ho; exact ho.2
  have hc : ∀ n, 0 ≤ n → n ≤ 64 → pre (bitC (IntKind.u64.wrap v) n) = true := fun n h0 h1 => by rw [bitC_wrap]; unfold pre; simpa using ⟨h0, h1⟩
  have hb : ∀ f c a, bitsC f c a = true → pre (w32B v && bitsC f c a) = true := fun f c a h => by rw [hv, h]; rfl
  intro p hp
  unfold lst5 at hp
  simp only [List.mem_append] at hp
  rcases hp with hp | hp | hp | hp | hp
  · cases h10 : formZ op == 10 <;> rw [h10] at hp
    · cases h11 : formZ op == 11 <;> rw [h11] at hp
      · simp only [cond_false, List.mem_cons, List.not_mem_nil, or_false] at hp
        rcases hp with rfl | rfl <;> rfl
      · simp only [cond_false, cond_true, List.mem_cons, List.not_mem_nil, or_false] at hp
        rcases hp with rfl | rfl | rfl | rfl
        · exact hc 25 (by decide) (by decide)
        · exact hc 26 (by decide) (by decide)
        · rfl
        · rfl
    · simp only [cond_true, List.mem_cons, List.not_mem_nil, or_false] at hp
      rcases hp with rfl | rfl | rfl
      · exact hc 25 (by decide) (by decide)
      · exact hc 26 (by decide) (by decide)
      · rfl
  · cases h : bF (formZ op) <;> rw [h] at hp
    · simp only [cond_false, List.mem_cons, List.not_mem_nil, or_false] at hp
      rcases hp with rfl; rfl
    · simp only [cond_true, List.mem_cons, List.not_mem_nil, or_false] at hp
      rcases hp with rfl | rfl
      · exact hb 20 5 0 (by decide)
      · rfl
  · cases h : aF (formZ op) <;> rw [h] at hp
    · simp only [cond_false, List.mem_cons, List.not_mem_nil, or_false] at hp
      rcases hp with rfl; rfl
    · simp only [cond_true, List.mem_cons, List.not_mem_nil, or_false] at hp
      rcases hp with rfl | rfl
      · exact hb 15 5 0 (by decide)
      · rfl
  · cases h : rdF (formZ op) <;> rw [h] at hp
    · simp only [cond_false, List.mem_cons, List.not_mem_nil, or_false] at hp
      rcases hp with rfl; rfl
    · simp only [cond_true, List.mem_cons, List.not_mem_nil, or_false] at hp
      rcases hp with rfl | rfl
      · exact hb 7 5 0 (by decide)
      · rfl
  · simp only [List.mem_cons, List.not_mem_nil, or_false] at hp
    rcases hp with rfl | rfl | rfl | rfl
    · unfold pre; exact hv
    · exact ht
    · unfold pre; exact ho
    · exact decide_eq_true h87
theorem in5_eq (v op : Int) (hv : w32B v = true) (ho : okB op = true) : in5 (rdF (formZ op)) (aF (formZ op)) (bF (formZ op)) (formZ op == 10) (formZ op == 11) v op = asIn op v := by
  have hr : 0 ≤ v ∧ v < 4294967296 := by simpa [w32B] using hv
  have L := fun f c a p q r h => bit5_lit v f c a p q r hv h
  have hw : IntKind.u64.wrap v = v := by
    have : IntKind.u64.wrap v = v % 18446744073709551616 := rfl
    omega
  have hk := form_rng ho
  have hq : (formZ op == 10 || formZ op == 11) = oF (formZ op) := by
    have : formZ op = 0 ∨ formZ op = 1 ∨ formZ op = 2 ∨ formZ op = 3 ∨ formZ op = 4 ∨ formZ op = 5 ∨ formZ op = 6 ∨ formZ op = 7 ∨ formZ op = 8 ∨ formZ op = 9 ∨ formZ op = 10 ∨ formZ op = 11 := by omega
    rcases this with h | h | h | h | h | h | h | h | h | h | h | h <;> rw [h] <;> decide
  have hb : ∀ n : Nat, bitZ v (n : Int) = v / ((2 ^ n : Nat) : Int) % 2 := fun n => by
    obtain ⟨x, rfl⟩ := Int.eq_ofNat_of_zero_le hr.1
    rw [bitZ_eq, Int.toNat_natCast, Int.toNat_natCast]
    unfold bitN
    push_cast
    rfl
  have h26 : bitZ v 26 = v / 67108864 % 2 := hb 26
  have h25 : bitZ v 25 = v / 33554432 % 2 := hb 25
  unfold in5 asIn
  rw [hw, h26, h25, L 7 5 0 128 32 1 (by decide), L 15 5 0 32768 32 1 (by decide), L 20 5 0 1048576 32 1 (by decide), hq, Int.mul_one, Int.mul_one, Int.mul_one]
  cases oF (formZ op) <;> rfl
theorem iterA (gl : Gl) (v : Int) (j : Nat) : iter (env5 gl) 1000 66 dec5C dec5P [true, true] (dec5S v j) =
    some (none, dec5S v (j + 1), [(pre (inI (((j + 1 : Nat) : Int) + 1)), true), ((wordZ ((j + 1 : Nat) : Int)).tmod 128 != v.tmod 128, true), (pre (okB ((j + 1 : Nat) : Int)), true), (decide (((j + 1 : Nat) : Int) ≤ 87), true)]) := by kernel_rfl
theorem iterZ (gl : Gl) (v : Int) (j : Nat) : iter (env5 gl) 1000 66 dec5C dec5P [false] (dec5S v j) =
    some (some (some 0), dec5S v j, [(decide (((j + 1 : Nat) : Int) ≤ 87), false)]) := by kernel_rfl
theorem dec5_good (v : Int) (j : Nat) : goodB (dec5S v j) = true := by kernel_rfl
theorem dec5_next (gl : Gl) (v : Int) (hv : w32B v = true) (j : Nat) (hj : j < 87) (hn : mayB (asIn ((j + 1 : Nat) : Int) v) = true → encZ (asIn ((j + 1 : Nat) : Int) v) ≠ v) (w : World) (hG : GlobOk gl w) : S2.Sem (env5 gl) w 66 dec5C (dec5S v j) none (dec5S v (j + 1)) := by
  have ho : okB ((j + 1 : Nat) : Int) = true := okB_nat _ (by omega) (by omega)
  have hi : pre (inI (((j + 1 : Nat) : Int) + 1)) = true := ob_inI (by omega)
  cases ht : (wordZ ((j + 1 : Nat) : Int)).tmod 128 != v.tmod 128
  · have hl := lst5_ok v _ hv ho ht
    have he := in5_eq v _ hv ho
    cases hm : mayB (asIn ((j + 1 : Nat) : Int) v)
    · exact sem_iter (env5_ok gl) hG _ _ (dec5_good v j) (iterB gl v j _ _ _ _ _) (all_cons hi <| all_cons (by rw [he]; exact hm) hl)
    · refine sem_iter (env5_ok gl) hG _ _ (dec5_good v j) (iterC gl v j _ _ _ _ _) (all_cons hi <| all_cons ?_ <| all_cons (by rw [he]; unfold pre; exact hm) <| all_cons (by rw [he]; exact hm) hl)
      rw [he, encA_eq]
      simpa using hn hm
  · exact sem_iter (env5_ok gl) hG _ _ (dec5_good v j) (iterA gl v j) (all_cons hi <| all_cons ht <| all_cons (by unfold pre; exact ho) <| all_cons (decide_eq_true (by omega)) all_nil)
theorem dec5_found (gl : Gl) (v : Int) (hv : w32B v = true) (j : Nat) (hj : j < 87) (hm : mayB (asIn ((j + 1 : Nat) : Int) v) = true) (hn : encZ (asIn ((j + 1 : Nat) : Int) v) = v) (ht : ((wordZ ((j + 1 : Nat) : Int)).tmod 128 != v.tmod 128) = false) (w : World) (hG : GlobOk gl w) :
    S2.Sem (env5 gl) w 66 dec5C (dec5S v j) (some none) (dec5E v j (asIn ((j + 1 : Nat) : Int) v)) := by
  have ho : okB ((j + 1 : Nat) : Int) = true := okB_nat _ (by omega) (by omega)
  have hl := lst5_ok v _ hv ho ht
  have he := in5_eq v _ hv ho
  rw [← he]
  refine sem_iter (env5_ok gl) hG _ _ (dec5_good v j) (iterD gl v j _ _ _ _ _) (all_cons ?_ <| all_cons (by rw [he]; unfold pre; exact hm) <| all_cons (by rw [he]; exact hm) hl)
  rw [he, encA_eq, hn]
  simp
theorem dec5_last (gl : Gl) (v : Int) (w : World) (hG : GlobOk gl w) : S2.Sem (env5 gl) w 66 dec5C (dec5S v 87) (some (some 0)) (dec5S v 87) :=
  sem_iter (env5_ok gl) hG _ _ (dec5_good v 87) (iterZ gl v 87) (all_cons (by decide) all_nil)
theorem refDecode_yes {gl : Gl} (i : In) (v : Int) (hm : mayB i = true) (he : encZ i = v) (w : World) (hG : GlobOk gl w) : Ret Tryd.prog 17 #[.int .u32 v] (inV i) w := by
  have hr := enc_rng hm
  have hv : w32B v = true := by rw [he] at hr; simpa [w32B] using hr
  have ho := may_ok hm
  have has := enc_as hm
  rw [he] at has
  rcases op_cases i.op with ⟨n, n1, n2, hn⟩ | h
  · obtain ⟨k, rfl⟩ : ∃ k, n = k + 1 := ⟨n - 1, by omega⟩
    have ht : ((wordZ ((k + 1 : Nat) : Int)).tmod 128 != v.tmod 128) = false := by
      have hf := enc_fix hm
      rw [he, hn] at hf
      have hk := form_rng (hn ▸ ho)
      have := (fix_parts hk.1 hk.2 hf).1
      have hw := wordOk_of (hn ▸ ho)
      simp only [wordOk, Bool.and_eq_true, decide_eq_true_eq] at hw
      rw [he] at hr
      rw [Int.tmod_eq_emod_of_nonneg hw.1.1, Int.tmod_eq_emod_of_nonneg hr.1, this]
      simp
    refine LRet.plain (fn_ok (env5_ok gl) (fuel := 1000) (d := 30) (plan := [⟨dec5Path, { dec5P with opn := [3] }, some none, dec5E v k i⟩]) (orc := []) (fls := [[true]]) (l := []) (args := [.inl (.int .u32 v)])
      (tr := [⟨.loop dec5C, dec5S v 0, some none, dec5E v k i⟩]) (by kernel_rfl) all_nil Tryd.func17 w [.int .u32 v] hG ⟨rfl, trivial⟩ fun t ht' => ?_)
    obtain rfl := List.mem_singleton.mp ht'
    refine sem_loop (dec5S v) k (by simp) (fun j hj => dec5_next gl v hv j (by omega) (fun h1 h2 => ?_) w hG) ?_
    · have := enc_inj h1 hm (h2.trans he.symm)
      rw [← this] at hn
      simp [asIn] at hn
      omega
    · have e : asIn ((k + 1 : Nat) : Int) v = i := by rw [← hn]; exact has
      have := dec5_found gl v hv k (by omega) (by rw [e]; exact hm) (by rw [e]; exact he) ht w hG
      rw [e] at this
      exact this
  · rw [okB_out h] at ho; cases ho
theorem refDecode_no {gl : Gl} (v : Int) (hv : w32B v = true) (hn : ∀ i, mayB i = true → encZ i ≠ v) (w : World) (hG : GlobOk gl w) : Ret Tryd.prog 17 #[.int .u32 v] (inV ⟨0, 0, 0, 0, v, false, false⟩) w := by
  have hr : 0 ≤ v ∧ v < 4294967296 := by simpa [w32B] using hv
  have hw : IntKind.i64.wrap v = v := wrap_id v hr.1 hr.2
  suffices h : Ret Tryd.prog 17 #[.int .u32 v] (inV ⟨0, 0, 0, 0, IntKind.i64.wrap v, false, false⟩) w by rw [hw] at h; exact h
  refine LRet.plain (fn_ok (env5_ok gl) (fuel := 1000) (d := 30) (plan := [⟨dec5Path, { dec5P with opn := [3] }, some (some 0), dec5S v 87⟩]) (orc := []) (fls := [[true]]) (l := []) (args := [.inl (.int .u32 v)])
    (tr := [⟨.loop dec5C, dec5S v 0, some (some 0), dec5S v 87⟩]) (by kernel_rfl) all_nil Tryd.func17 w [.int .u32 v] hG ⟨rfl, trivial⟩ fun t ht' => ?_)
  obtain rfl := List.mem_singleton.mp ht'
  exact sem_loop (dec5S v) 87 (by simp) (fun j hj => dec5_next gl v hv j hj (fun h1 => hn _ h1) w hG) (dec5_last gl v w hG)
theorem decodeZ_ex : ∃ g : Int → In, ∀ v, (∀ i, mayB i = true → encZ i = v → g v = i) ∧ ((∀ i, mayB i = true → encZ i ≠ v) → g v = ⟨0, 0, 0, 0, v, false, false⟩) := by
  have : ∀ v, ∃ x : In, (∀ i, mayB i = true → encZ i = v → x = i) ∧ ((∀ i, mayB i = true → encZ i ≠ v) → x = ⟨0, 0, 0, 0, v, false, false⟩) := fun v => by
    by_cases h : ∃ i, mayB i = true ∧ encZ i = v
    · obtain ⟨i, h1, h2⟩ := h
      exact ⟨i, fun k k1 k2 => enc_inj h1 k1 (h2.trans k2.symm), fun hn => absurd h2 (hn i h1)⟩
    · exact ⟨_, fun i h1 h2 => absurd ⟨i, h1, h2⟩ h, fun _ => rfl⟩
  exact Classical.axiomOfChoice this
/-- The instruction of a word, or none's. -/
noncomputable def decodeZ : Int → In := Classical.choose decodeZ_ex
theorem decodeZ_yes {i : In} {v : Int} (h1 : mayB i = true) (h2 : encZ i = v) : decodeZ v = i := (Classical.choose_spec decodeZ_ex v).1 i h1 h2
theorem decodeZ_no {v : Int} (h : ∀ i, mayB i = true → encZ i ≠ v) : decodeZ v = ⟨0, 0, 0, 0, v, false, false⟩ := (Classical.choose_spec decodeZ_ex v).2 h
theorem refDecode_ret {gl : Gl} (v : Int) (hv : w32B v = true) (w : World) (hG : GlobOk gl w) : Ret Tryd.prog 17 #[.int .u32 v] (inV (decodeZ v)) w := by
  by_cases h : ∃ i, mayB i = true ∧ encZ i = v
  · obtain ⟨i, h1, h2⟩ := h
    rw [decodeZ_yes h1 h2]
    exact refDecode_yes i v h1 h2 w hG
  · have hn : ∀ i, mayB i = true → encZ i ≠ v := fun i h1 h2 => h ⟨i, h1, h2⟩
    rw [decodeZ_no hn]
    exact refDecode_no v hv hn w hG
noncomputable def decDecode : List Value → Option (Value × Bool)
  | [.int .u32 v] => some (inV (decodeZ v), pre (w32B v))
  | _ => none
noncomputable def pRefDecode : PTab := prowD 17 decDecode
theorem pRefDecode_ok {gl : Gl} : PTabOk Tryd.prog gl pRefDecode := .rowD fun args u hd w hG => by
  unfold decDecode at hd
  split at hd
  · rename_i v
    simp only [Option.some.injEq, Prod.mk.injEq, pre] at hd
    obtain ⟨rfl, hc⟩ := hd
    exact refDecode_ret v hc w hG
  · cases hd
end Go.Proofs.YtimgongaenpgkaaDoor
