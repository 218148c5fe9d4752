/- Contracts of the answers by definition for layer 6. -/
import Derived.Test.YtgcglmnbkilfhaaGreatDoorPlain06
import Derived.Test.YtgcglmnbkilfhaaGreatDoorRef02
import Derived.Test.YtgcglmnbkilfhaaGreatDoorRef03
import Derived.Test.YtgcglmnbkilfhaaGreatDoorS2I
namespace Go.Proofs.YtgcglmnbkilfhaaGreatDoor
open Go.RowKit Sim S2
set_option linter.unusedVariables false
set_option linter.unusedSimpArgs false

theorem toL_inj {a b : ByteArray} (h : toL a = toL b) : a = b := by
  cases a; cases b
  unfold toL at h
  simp only at h
  rw [Array.toList_inj.mp h]
theorem toL_app (a b : ByteArray) : toL (a ++ b) = toL a ++ toL b := by
  unfold toL
  rw [ByteArray.data_append, Array.toList_append]
theorem toL_cat (a b : ByteArray) : toL (catZ a b) = toL a ++ toL b := by rw [catZ_eq, toL_app]
theorem toL_size (a : ByteArray) : a.size = (toL a).length := rfl
theorem fit_ok {a b : ByteArray} (h : (toL a).length + (toL b).length ≤ 1000000) : pre (fitS a b) = true := by
  unfold pre fitS
  exact decide_eq_true (by rw [toL_size, toL_size]; omega)
/-! ### Numbers in decimal -/
def dvN (n j : Nat) : Nat := n / 10 ^ j
/-- The last digits of a number. -/
def tlS (n : Nat) : Nat → ByteArray
  | 0 => ByteArray.empty
  | j + 1 => digS (dvN n j % 10) ++ tlS n j
theorem dv_succ (n j : Nat) : dvN n (j + 1) = dvN n j / 10 := by unfold dvN; rw [Nat.pow_succ, Nat.div_div_eq_div_mul]
theorem dv_div (n j : Nat) : dvN (n / 10) j = dvN n (j + 1) := by unfold dvN; rw [Nat.pow_succ, Nat.div_div_eq_div_mul, Nat.mul_comm]
theorem dv_zero (n : Nat) : dvN n 0 = n := by unfold dvN; simp
theorem dv_le (n : Nat) : ∀ j, dvN n j ≤ n
  | 0 => Nat.le_of_eq (dv_zero n)
  | j + 1 => by rw [dv_succ]; have := dv_le n j; omega
theorem dv_lt10 (n j : Nat) (h : n < 10) : dvN n (j + 1) = 0 := by
  induction j with
  | zero => rw [dv_succ, dv_zero]; omega
  | succ j ih => rw [dv_succ, ih]
theorem tl_len (n : Nat) : ∀ j, (toL (tlS n j)).length = j
  | 0 => rfl
  | j + 1 => by
    show (toL (digS (dvN n j % 10) ++ tlS n j)).length = j + 1
    rw [toL_app, List.length_append, tl_len n j]
    show 1 + j = j + 1
    omega
theorem tl_snoc : ∀ (j n : Nat), toL (tlS n (j + 1)) = toL (tlS (n / 10) j) ++ [UInt8.ofNat (48 + n % 10)]
  | 0, n => by
    show toL (digS (dvN n 0 % 10) ++ ByteArray.empty) = _
    rw [toL_app, dv_zero]
    rfl
  | j + 1, n => by
    show toL (digS (dvN n (j + 1) % 10) ++ tlS n (j + 1)) = _
    rw [toL_app, tl_snoc j n]
    show _ = toL (digS (dvN (n / 10) j % 10) ++ tlS (n / 10) j) ++ _
    rw [toL_app, dv_div, List.append_assoc]
theorem tl_dec : ∀ (j k n : Nat), dvN n (j + 1) = 0 → (j = 0 ∨ dvN n j ≠ 0) → j < k → toL (tlS n (j + 1)) = decF k n
  | j, 0, n, _, _, h => absurd h (Nat.not_lt_zero _)
  | 0, k + 1, n, h0, _, _ => by
    have hn : n < 10 := by rw [dv_succ, dv_zero] at h0; omega
    unfold decF
    rw [if_pos hn, tl_snoc, Nat.mod_eq_of_lt hn]
    rfl
  | j + 1, k + 1, n, h0, h1, hk => by
    have hn : ¬ n < 10 := fun hl => by
      rcases h1 with h1 | h1
      · omega
      · exact h1 (dv_lt10 n j hl)
    unfold decF
    rw [if_neg hn, tl_snoc, tl_dec j k (n / 10) (by rw [dv_div]; exact h0) (.inr (by rw [dv_div]; exact h1.resolve_left (by omega))) (by omega)]
theorem dv_last (n : Nat) : ∀ M, dvN n (M + 1) = 0 → ∃ N, N ≤ M ∧ dvN n (N + 1) = 0 ∧ ∀ j, j < N → dvN n (j + 1) ≠ 0
  | 0, h => ⟨0, Nat.le_refl _, h, fun j hj => absurd hj (Nat.not_lt_zero _)⟩
  | M + 1, h => by
    by_cases h0 : dvN n (M + 1) = 0
    · obtain ⟨N, hN, h1, h2⟩ := dv_last n M h0
      exact ⟨N, by omega, h1, h2⟩
    · refine ⟨M + 1, Nat.le_refl _, h, fun j hj hz => h0 ?_⟩
      have : ∀ d, dvN n (j + 1 + d) = 0 := fun d => by
        induction d with
        | zero => exact hz
        | succ d ih => rw [← Nat.add_assoc, dv_succ, ih]
      have := this (M - j)
      rw [show j + 1 + (M - j) = M + 1 by omega] at this
      exact this
def u64B (v : Int) : Bool := decide (0 ≤ v ∧ v < 18446744073709551616)
theorem plainZ_ex : ∃ g : Int → ByteArray, ∀ v, g v = ⟨(decF 20 v.toNat).toArray⟩ := ⟨_, fun _ => rfl⟩
noncomputable def plainZ : Int → ByteArray := Classical.choose plainZ_ex
theorem plainZ_eq (v : Int) : toL (plainZ v) = decF 20 v.toNat := by rw [plainZ, Classical.choose_spec plainZ_ex]; simp [toL]
noncomputable def env6 : S2.Env := envq Tryz.prog (fun _ => none) noT noP noL
theorem env6_ok : CallOk env6 := envq_ok (.none _ _) (.none _ _) (.none _ _)
noncomputable def plC : Code := codeAt (codeOf Tryz.prog 50) (0 :: [0, 1, 1])
def plSt (a : Int) (s : ByteArray) : S2.St := { tmps := [(0, .inl ([true], .int .u64 a)), (3, .inl ([true], .string s))], own := ⟨[], []⟩, lo := 0, llo := 0, mem := true, orc := [], obl := [] }
def plRt (s : ByteArray) : S2.St := { tmps := [(2, .inl ([true], .string s))], own := ⟨[], []⟩, lo := 0, llo := 0, mem := true, orc := [], obl := [] }
abbrev d10 : ByteArray := { data := #[48, 49, 50, 51, 52, 53, 54, 55, 56, 57] }
theorem pl_mod (n j : Nat) : (dvN n j : Int).tmod 10 = (dvN n j % 10 : Nat) := by rw [Int.tmod_eq_emod_of_nonneg (by omega)]; rfl
theorem pl_div (n j : Nat) (hn : n < 18446744073709551616) : IntKind.u64.wrap ((dvN n j : Int).tdiv 10) = (dvN n (j + 1) : Nat) := by
  rw [Int.tdiv_eq_ediv_of_nonneg (by omega), dv_succ]
  show (dvN n j : Int) / 10 % 18446744073709551616 = _
  have := dv_le n j
  omega
theorem pl_add (n j : Nat) : arZ .add .u64 ((dvN n j : Int).tmod 10) 1 = (dvN n j % 10 + 1 : Nat) := by
  rw [pl_mod, arZ_eq]
  show (((dvN n j % 10 : Nat) : Int) + 1) % 18446744073709551616 = _
  omega
theorem pl_cut (n j : Nat) : extZ d10 ((dvN n j : Int).tmod 10) (arZ .add .u64 ((dvN n j : Int).tmod 10) 1) = digS (dvN n j % 10) := by
  rw [pl_add, pl_mod, extZ_eq, Int.toNat_natCast, Int.toNat_natCast]
  exact digS_cut _ (by omega)
theorem pl_bnd (n j : Nat) : pre (decide (0 ≤ (dvN n j : Int).tmod 10 ∧ (dvN n j : Int).tmod 10 ≤ arZ .add .u64 ((dvN n j : Int).tmod 10) 1 ∧ arZ .add .u64 ((dvN n j : Int).tmod 10) 1 ≤ 10)) = true := by
  unfold pre
  refine decide_eq_true ?_
  rw [pl_add, pl_mod]
  omega
theorem pl_fit (n j : Nat) (hj : j < 20) : pre (fitS (extZ d10 ((dvN n j : Int).tmod 10) (arZ .add .u64 ((dvN n j : Int).tmod 10) 1)) (tlS n j)) = true := by
  rw [pl_cut]
  refine fit_ok ?_
  rw [tl_len]
  show 1 + j ≤ _
  omega
theorem pl_step (n j : Nat) (hn : n < 18446744073709551616) (hj : j < 20) (hd : dvN n (j + 1) ≠ 0) (w : World) : S2.Sem env6 w 17 plC (plSt (dvN n j) (tlS n j)) none (plSt (dvN n (j + 1)) (tlS n (j + 1))) := by
  have h := sem_iter env6_ok (GlobOk.none w) (w0 := w) (p := { ts := [0, 3], bs := [], ls := [] }) (n := 17) (c := plC) (s := plSt (dvN n j) (tlS n j)) (x := none) (fuel := 1000) (s' := plSt (IntKind.u64.wrap ((dvN n j : Int).tdiv 10)) (catZ (extZ d10 ((dvN n j : Int).tmod 10) (arZ .add .u64 ((dvN n j : Int).tmod 10) 1)) (tlS n j))) [false]
    [(IntKind.u64.wrap ((dvN n j : Int).tdiv 10) == 0, false), (pre (fitS (extZ d10 ((dvN n j : Int).tmod 10) (arZ .add .u64 ((dvN n j : Int).tmod 10) 1)) (tlS n j)), true), (pre (decide (0 ≤ (dvN n j : Int).tmod 10 ∧ (dvN n j : Int).tmod 10 ≤ arZ .add .u64 ((dvN n j : Int).tmod 10) 1 ∧ arZ .add .u64 ((dvN n j : Int).tmod 10) 1 ≤ 10)), true)]
    (by kernel_rfl) (by kernel_rfl) (all_cons (by rw [pl_div n j hn]; simp; omega) <| all_cons (pl_fit n j hj) <| all_cons (pl_bnd n j) all_nil)
  rw [pl_cut, pl_div n j hn, catZ_eq] at h
  exact h
theorem pl_last (n j : Nat) (hn : n < 18446744073709551616) (hj : j < 20) (hd : dvN n (j + 1) = 0) (w : World) : S2.Sem env6 w 17 plC (plSt (dvN n j) (tlS n j)) (some none) (plRt (tlS n (j + 1))) := by
  have h := sem_iter env6_ok (GlobOk.none w) (w0 := w) (p := { ts := [2], bs := [], ls := [] }) (n := 17) (c := plC) (s := plSt (dvN n j) (tlS n j)) (x := some none) (fuel := 1000) (s' := plRt (catZ (extZ d10 ((dvN n j : Int).tmod 10) (arZ .add .u64 ((dvN n j : Int).tmod 10) 1)) (tlS n j))) [true]
    [(IntKind.u64.wrap ((dvN n j : Int).tdiv 10) == 0, true), (pre (fitS (extZ d10 ((dvN n j : Int).tmod 10) (arZ .add .u64 ((dvN n j : Int).tmod 10) 1)) (tlS n j)), true), (pre (decide (0 ≤ (dvN n j : Int).tmod 10 ∧ (dvN n j : Int).tmod 10 ≤ arZ .add .u64 ((dvN n j : Int).tmod 10) 1 ∧ arZ .add .u64 ((dvN n j : Int).tmod 10) 1 ≤ 10)), true)]
    (by kernel_rfl) (by kernel_rfl) (all_cons (by rw [pl_div n j hn, hd]; rfl) <| all_cons (pl_fit n j hj) <| all_cons (pl_bnd n j) all_nil)
  rw [pl_cut, catZ_eq] at h
  exact h
theorem refPlain_ret (n : Nat) (hn : n < 18446744073709551616) (w : World) : Ret Tryz.prog 50 #[.int .u64 (n : Nat)] (.string (plainZ (n : Nat))) w := by
  have h20 : dvN n (19 + 1) = 0 := by
    unfold dvN
    exact Nat.div_eq_of_lt (by have : (10 : Nat) ^ (19 + 1) = 100000000000000000000 := by decide
                               omega)
  obtain ⟨N, hN, h0, hlt⟩ := dv_last n 19 h20
  have hz : plainZ (n : Nat) = tlS n (N + 1) := toL_inj (by
    rw [plainZ_eq, Int.toNat_natCast, tl_dec N 20 n h0 (by
      cases N with
      | zero => exact .inl rfl
      | succ N => exact .inr (hlt N (by omega))) (by omega)])
  rw [hz]
  have h : LRet Tryz.prog 50 [.int .u64 (n : Nat)] false [.inl (.string (tlS n (N + 1)))] w := by
    refine fn_ok env6_ok (fuel := 1000) (d := 17) (plan := [⟨[0, 1, 1], { ts := [0, 3], bs := [], ls := [], opn := [0, 3] }, some none, plRt (tlS n (N + 1))⟩]) (orc := []) (fls := [[true]]) (args := [.inl (.int .u64 (n : Nat))]) (l := []) (tr := [⟨.loop plC, plSt (n : Nat) ByteArray.empty, some none, plRt (tlS n (N + 1))⟩]) (by kernel_rfl) (fun _ h => by cases h) Tryz.func50 w _ (GlobOk.none w) ⟨rfl, trivial⟩ fun t ht => ?_
    obtain rfl := List.mem_singleton.mp ht
    have e0 : plSt (n : Nat) ByteArray.empty = plSt (dvN n 0 : Nat) (tlS n 0) := by rw [dv_zero]; rfl
    show S2.Sem env6 w 17 (.loop plC) (plSt (n : Nat) ByteArray.empty) (some none) (plRt (tlS n (N + 1)))
    rw [e0]
    exact sem_loop (fun j => plSt (dvN n j : Nat) (tlS n j)) N (by simp) (fun j hj => pl_step n j hn (by omega) (hlt j hj) w) (pl_last n N hn (by omega) h0 w)
  exact h.plain
noncomputable def decPlain : List Value → Option (Value × Bool)
  | [.int .u64 v] => some (.string (plainZ v), pre (u64B v))
  | _ => none
noncomputable def pRefPlain : PTab := prowD 50 decPlain
theorem pRefPlain_ok {gl : Gl} : PTabOk Tryz.prog gl pRefPlain := .rowD fun args u hd w hG => by
  unfold decPlain at hd
  split at hd
  · rename_i v
    simp only [Option.some.injEq, Prod.mk.injEq, pre] at hd
    obtain ⟨rfl, hc⟩ := hd
    simp [u64B] at hc
    obtain ⟨v, rfl⟩ := Int.eq_ofNat_of_zero_le hc.1
    exact refPlain_ret v (by omega) w
  · cases hd
/-- A whole call without a loop to stop at. -/
theorem ret6 {E : S2.Env} (HC : CallOk E) {f : FuncId} {fls : List (List Bool)} {args : List XV} {v : Value} (orc : List Bool) (l : List (Bool × Bool))
    (h : simF E 1000 10 [] orc f fls args = some (false, [.inl v], l, [])) (hl : ∀ p ∈ l, p.1 = p.2) {fn : Func} (hfn : E.P.funcs[f]? = some fn) (w : World) (vals : List Value) (hG : S2.Glob E w) (ha : ArgsOk w args vals) : Ret E.P f vals.toArray v w :=
  (fn_ok HC h hl hfn w vals hG ha fun t ht => by cases ht).plain
theorem Ret.of_draws {P : Program} {k : FuncId} {args : Array Value} {v : Value} {w : World} (h : Calls P k args w (Qt w v)) : Ret P k args v w := h.mono fun _ _ ⟨he, m, hm⟩ => ⟨he, hm ▸ below_draws (Below.refl _ _) m⟩
theorem digZ_ex : ∃ g : Int → ByteArray, ∀ v, g v = ⟨(digL v).toArray⟩ := ⟨_, fun _ => rfl⟩
noncomputable def digZ : Int → ByteArray := Classical.choose digZ_ex
theorem digZ_eq (v : Int) : toL (digZ v) = digL v := by rw [digZ, Classical.choose_spec digZ_ex]; simp [toL]
def i64B (v : Int) : Bool := decide (-9223372036854775808 ≤ v ∧ v ≤ 9223372036854775807)
noncomputable def env6d : S2.Env := envq Tryz.prog (fun _ => none) noT pRefPlain noL
theorem env6d_ok : CallOk env6d := envq_ok (.none _ _) pRefPlain_ok (.none _ _)
theorem refDig6_ret (v : Int) (hv : i64B v = true) (w : World) : Ret Tryz.prog 23 #[.int .i64 v] (.string (digZ v)) w := by
  simp [i64B] at hv
  have hw : ∀ x : Int, IntKind.u64.wrap x = x % 18446744073709551616 := fun _ => rfl
  by_cases h0 : 0 ≤ v
  · refine (ret6 env6d_ok (fls := [[true]]) (args := [.inl (.int .i64 v)]) (v := .string (plainZ (IntKind.u64.wrap v))) [true] [(pre (u64B (IntKind.u64.wrap v)), true), (decide (v ≥ 0), true)] (by kernel_rfl)
      (all_cons (by unfold pre; rw [hw]; simp [u64B]; omega) <| all_cons (ob_yes h0) all_nil) Tryz.func23 w [.int .i64 v] (GlobOk.none w) ⟨rfl, trivial⟩).of_eq ?_
    congr 1
    refine toL_inj ?_
    rw [plainZ_eq, digZ_eq, hw, Int.emod_eq_of_lt h0 (by omega)]
    unfold digL
    rw [if_pos h0]
  · refine (ret6 env6d_ok (fls := [[true]]) (args := [.inl (.int .i64 v)]) (v := .string (catZ ⟨#[45]⟩ (plainZ (IntKind.u64.wrap (0 - IntKind.u64.wrap v))))) [false] [(pre (fitS ⟨#[45]⟩ (plainZ (IntKind.u64.wrap (0 - IntKind.u64.wrap v)))), true), (pre (u64B (IntKind.u64.wrap (0 - IntKind.u64.wrap v))), true), (decide (v ≥ 0), false)] (by kernel_rfl)
      (all_cons (fit_ok (by rw [plainZ_eq]; have := decF_len 20 (IntKind.u64.wrap (0 - IntKind.u64.wrap v)).toNat; show 1 + _ ≤ _; omega)) <| all_cons (by unfold pre; rw [hw]; simp [u64B]; omega) <| all_cons (ob_no h0) all_nil) Tryz.func23 w [.int .i64 v] (GlobOk.none w) ⟨rfl, trivial⟩).of_eq ?_
    congr 1
    refine toL_inj ?_
    rw [toL_cat, plainZ_eq, digZ_eq, hw, hw]
    unfold digL
    rw [if_neg h0, show (0 - v % 18446744073709551616) % 18446744073709551616 = -v by omega]
    rfl
noncomputable def decDig : List Value → Option (Value × Bool)
  | [.int .i64 v] => some (.string (digZ v), pre (i64B v))
  | _ => none
noncomputable def pRefDigits : PTab := prowD 23 decDig
theorem pRefDigits_ok {gl : Gl} : PTabOk Tryz.prog gl pRefDigits := .rowD fun args u hd w hG => by
  unfold decDig at hd
  split at hd
  · rename_i v
    simp only [Option.some.injEq, Prod.mk.injEq, pre] at hd
    obtain ⟨rfl, hc⟩ := hd
    exact refDig6_ret v hc w
  · cases hd
/-! ### A fence's sets; registers -/
def sideS (n : Int) : ByteArray := ⟨(sideL n).toArray⟩
theorem sideZ_ex : ∃ g : Int → ByteArray, ∀ v, g v = sideS v := ⟨_, fun _ => rfl⟩
noncomputable def sideZ : Int → ByteArray := Classical.choose sideZ_ex
theorem sideZ_eq (v : Int) : toL (sideZ v) = sideL v := by rw [sideZ, Classical.choose_spec sideZ_ex]; simp [toL, sideS]
theorem numZ_ex : ∃ g : Int → ByteArray, ∀ v, g v = numS v.toNat := ⟨_, fun _ => rfl⟩
noncomputable def numZ : Int → ByteArray := Classical.choose numZ_ex
theorem numZ_eq (v : Int) : toL (numZ v) = regL v := by rw [numZ, Classical.choose_spec numZ_ex]; rfl
def sixB (v : Int) : Bool := decide (0 ≤ v ∧ v < 16)
def rg32B (v : Int) : Bool := decide (0 ≤ v ∧ v < 32)
theorem side_in : (List.range 16).all (runs { P := Tryz.prog, glob := (fun _ => none), call := noT } 1000 25 (fun n => [.int .i64 n]) fun n => .string (sideS n)) = true := by kernel_rfl
noncomputable def decSide : List Value → Option (Value × Bool)
  | [.int .i64 v] => some (.string (sideZ v), pre (sixB v))
  | _ => none
noncomputable def pRefSide : PTab := prowD 25 decSide
theorem pRefSide_ok {gl : Gl} : PTabOk Tryz.prog gl pRefSide := .rowD fun args u hd w hG => by
  unfold decSide at hd
  split at hd
  · rename_i v
    simp only [Option.some.injEq, Prod.mk.injEq, pre] at hd
    obtain ⟨rfl, hc⟩ := hd
    simp [sixB] at hc
    obtain ⟨v, rfl⟩ := Int.eq_ofNat_of_zero_le hc.1
    refine (runs_ret (TabOk.none _ _) side_in v (by omega) w (GlobOk.none w)).of_eq ?_
    congr 1
    exact toL_inj (by rw [sideZ_eq]; simp [toL, sideS])
  · cases hd
noncomputable def decNum : List Value → Option (Value × Bool)
  | [.int .i64 v] => some (.string (numZ v), pre (rg32B v))
  | _ => none
noncomputable def pRefNum : PTab := prowD 22 decNum
theorem pRefNum_ok {gl : Gl} : PTabOk Tryz.prog gl pRefNum := .rowD fun args u hd w hG => by
  unfold decNum at hd
  split at hd
  · rename_i v
    simp only [Option.some.injEq, Prod.mk.injEq, pre] at hd
    obtain ⟨rfl, hc⟩ := hd
    simp [rg32B] at hc
    obtain ⟨v, rfl⟩ := Int.eq_ofNat_of_zero_le hc.1
    refine (Ret.of_draws (refName_yes v w (by omega))).of_eq ?_
    congr 1
    exact toL_inj (by rw [numZ_eq]; rfl)
  · cases hd
theorem toL_lit (l : List UInt8) : toL ⟨l.toArray⟩ = l := by simp [toL]
theorem name_len' : ∀ n : Fin 88, (toL (opS n.val)).length ≤ 20 := by decide +kernel
theorem name_len {o : Int} (h : okB o = true) : (toL (nameZ o)).length ≤ 20 := by
  rcases op_cases o with ⟨n, h1, h2, rfl⟩ | h'
  · rw [nameZ_nat]; exact name_len' ⟨n, h2⟩
  · rw [okB_out h'] at h; cases h
theorem reg_len' : ∀ n : Fin 32, (regL (n.val : Nat)).length ≤ 3 := by decide +kernel
theorem reg_len {r : Int} (h0 : 0 ≤ r) (h1 : r ≤ 31) : (regL r).length ≤ 3 := by
  obtain ⟨r, rfl⟩ := Int.eq_ofNat_of_zero_le h0
  exact reg_len' ⟨r, by omega⟩
theorem side_len' : ∀ n : Fin 16, (sideL (n.val : Nat)).length ≤ 4 := by decide +kernel
theorem side_len {r : Int} (h0 : 0 ≤ r) (h1 : r < 16) : (sideL r).length ≤ 4 := by
  obtain ⟨r, rfl⟩ := Int.eq_ofNat_of_zero_le h0
  exact side_len' ⟨r, by omega⟩
theorem imm_small {i : In} (h : mayB i = true) : -1048576 ≤ i.imm ∧ i.imm < 1048576 := by
  have hr := form_rng (may_ok h)
  have hI := imm_rng (may_fld h).im hr.1 hr.2
  have hk' : formZ i.op = 0 ∨ formZ i.op = 1 ∨ formZ i.op = 2 ∨ formZ i.op = 3 ∨ formZ i.op = 4 ∨ formZ i.op = 5 ∨ formZ i.op = 6 ∨ formZ i.op = 7 ∨ formZ i.op = 8 ∨ formZ i.op = 9 ∨ formZ i.op = 10 ∨ formZ i.op = 11 := by clear hI; omega
  unfold immRg at hI
  rcases hk' with e | e | e | e | e | e | e | e | e | e | e | e <;> (rw [e] at hI; simp at hI; omega)
theorem textZ_ex : ∃ g : In → ByteArray, ∀ i, g i = ⟨(bif mayB i then textL i else []).toArray⟩ := ⟨_, fun _ => rfl⟩
noncomputable def textZ : In → ByteArray := Classical.choose textZ_ex
theorem textZ_eq (i : In) : toL (textZ i) = bif mayB i then textL i else [] := by rw [textZ, Classical.choose_spec textZ_ex]; simp [toL]
def t6Tab : Tab := orT tRefMay <| orT tRefName <| orT tRefForm tReader
theorem t6Tab_ok {gl : Gl} : TabOk Tryz.prog gl t6Tab := tRefMay_ok.or (tRefName_ok.or (tRefForm_ok.or tReader_ok))
noncomputable def t6P : PTab := orP pRefNum <| orP pRefDigits pRefSide
theorem t6P_ok {gl : Gl} : PTabOk Tryz.prog gl t6P := pRefNum_ok.or (pRefDigits_ok.or pRefSide_ok)
noncomputable def env6t : S2.Env := envq Tryz.prog (fun _ => none) t6Tab t6P noL
theorem env6t_ok : CallOk env6t := envq_ok t6Tab_ok t6P_ok (.none _ _)
--@s2 tx "(i : In)" "simF env6t 1000 10 [] $O 8 [[true, true, true, true, true, true, true]] [.inl (inV i)]" no:t 0:ffffft 1:fffffft 2:ffffffft 4:fffffffft 5:ffffffffft 6:fffffffffft 9:ffffffffffft 10:fffffffffffft 10a:fttfffffffft 10r:fftftffffffft 10q:ftttffffffft 11:ffffffffffffft 11a:fttffffffffft 11r:fftftfffffffft 11q:ftttfffffffft j:fffffffffffffft m:ffffffffffffffft i:ffffffffffffffff
theorem tx_no (i : In) : simF env6t 1000 10 [] [true] 8 [[true, true, true, true, true, true, true]] [.inl (inV i)] = some (false, [Sum.inl (Value.string { data := #[] })], [(!mayB i, true)], []) := by kernel_rfl
theorem tx_0 (i : In) : simF env6t 1000 10 [] [false, false, false, false, false, true] 8 [[true, true, true, true, true, true, true]] [.inl (inV i)] = some (false, [Sum.inl (Value.string (nameZ i.op))], [(formZ i.op == 0, true), (pre (i64B i.imm), true), (pre (rg32B i.b), true), (pre (rg32B i.a), true), (pre (rg32B i.rd), true), (i.rl, false), (i.aq, false), (i.rl, false), (i.aq, false), (!mayB i, false)], []) := by kernel_rfl
theorem tx_1 (i : In) : simF env6t 1000 10 [] [false, false, false, false, false, false, true] 8 [[true, true, true, true, true, true, true]] [.inl (inV i)] = some (false, [Sum.inl (Value.string (catZ (catZ (catZ (catZ (nameZ i.op) { data := #[32] }) (numZ i.rd)) { data := #[44, 32] }) (digZ i.imm)))], [(pre (fitS (catZ (catZ (catZ (nameZ i.op) { data := #[32] }) (numZ i.rd)) { data := #[44, 32] }) (digZ i.imm)), true), (pre (fitS (catZ (catZ (nameZ i.op) { data := #[32] }) (numZ i.rd)) { data := #[44, 32] }), true), (pre (fitS (catZ (nameZ i.op) { data := #[32] }) (numZ i.rd)), true), (pre (fitS (nameZ i.op) { data := #[32] }), true), (formZ i.op == 1, true), (formZ i.op == 0, false), (pre (i64B i.imm), true), (pre (rg32B i.b), true), (pre (rg32B i.a), true), (pre (rg32B i.rd), true), (i.rl, false), (i.aq, false), (i.rl, false), (i.aq, false), (!mayB i, false)], []) := by kernel_rfl
theorem tx_2 (i : In) : simF env6t 1000 10 [] [false, false, false, false, false, false, false, true] 8 [[true, true, true, true, true, true, true]] [.inl (inV i)] = some (false, [Sum.inl (Value.string (catZ (catZ (catZ (catZ (nameZ i.op) { data := #[32] }) (numZ i.rd)) { data := #[44, 32] }) (digZ i.imm)))], [(pre (fitS (catZ (catZ (catZ (nameZ i.op) { data := #[32] }) (numZ i.rd)) { data := #[44, 32] }) (digZ i.imm)), true), (pre (fitS (catZ (catZ (nameZ i.op) { data := #[32] }) (numZ i.rd)) { data := #[44, 32] }), true), (pre (fitS (catZ (nameZ i.op) { data := #[32] }) (numZ i.rd)), true), (pre (fitS (nameZ i.op) { data := #[32] }), true), (formZ i.op == 2, true), (formZ i.op == 1, false), (formZ i.op == 0, false), (pre (i64B i.imm), true), (pre (rg32B i.b), true), (pre (rg32B i.a), true), (pre (rg32B i.rd), true), (i.rl, false), (i.aq, false), (i.rl, false), (i.aq, false), (!mayB i, false)], []) := by kernel_rfl
theorem tx_4 (i : In) : simF env6t 1000 10 [] [false, false, false, false, false, false, false, false, true] 8 [[true, true, true, true, true, true, true]] [.inl (inV i)] = some (false, [Sum.inl (Value.string (catZ (catZ (catZ (catZ (catZ (catZ (nameZ i.op) { data := #[32] }) (numZ i.a)) { data := #[44, 32] }) (numZ i.b)) { data := #[44, 32] }) (digZ i.imm)))], [(pre (fitS (catZ (catZ (catZ (catZ (catZ (nameZ i.op) { data := #[32] }) (numZ i.a)) { data := #[44, 32] }) (numZ i.b)) { data := #[44, 32] }) (digZ i.imm)), true), (pre (fitS (catZ (catZ (catZ (catZ (nameZ i.op) { data := #[32] }) (numZ i.a)) { data := #[44, 32] }) (numZ i.b)) { data := #[44, 32] }), true), (pre (fitS (catZ (catZ (catZ (nameZ i.op) { data := #[32] }) (numZ i.a)) { data := #[44, 32] }) (numZ i.b)), true), (pre (fitS (catZ (catZ (nameZ i.op) { data := #[32] }) (numZ i.a)) { data := #[44, 32] }), true), (pre (fitS (catZ (nameZ i.op) { data := #[32] }) (numZ i.a)), true), (pre (fitS (nameZ i.op) { data := #[32] }), true), (formZ i.op == 4, true), (formZ i.op == 2, false), (formZ i.op == 1, false), (formZ i.op == 0, false), (pre (i64B i.imm), true), (pre (rg32B i.b), true), (pre (rg32B i.a), true), (pre (rg32B i.rd), true), (i.rl, false), (i.aq, false), (i.rl, false), (i.aq, false), (!mayB i, false)], []) := by kernel_rfl
theorem tx_5 (i : In) : simF env6t 1000 10 [] [false, false, false, false, false, false, false, false, false, true] 8 [[true, true, true, true, true, true, true]] [.inl (inV i)] = some (false, [Sum.inl (Value.string (catZ (catZ (catZ (catZ (catZ (catZ (catZ (nameZ i.op) { data := #[32] }) (numZ i.b)) { data := #[44, 32] }) (digZ i.imm)) { data := #[40] }) (numZ i.a)) { data := #[41] }))], [(pre (fitS (catZ (catZ (catZ (catZ (catZ (catZ (nameZ i.op) { data := #[32] }) (numZ i.b)) { data := #[44, 32] }) (digZ i.imm)) { data := #[40] }) (numZ i.a)) { data := #[41] }), true), (pre (fitS (catZ (catZ (catZ (catZ (catZ (nameZ i.op) { data := #[32] }) (numZ i.b)) { data := #[44, 32] }) (digZ i.imm)) { data := #[40] }) (numZ i.a)), true), (pre (fitS (catZ (catZ (catZ (catZ (nameZ i.op) { data := #[32] }) (numZ i.b)) { data := #[44, 32] }) (digZ i.imm)) { data := #[40] }), true), (pre (fitS (catZ (catZ (catZ (nameZ i.op) { data := #[32] }) (numZ i.b)) { data := #[44, 32] }) (digZ i.imm)), true), (pre (fitS (catZ (catZ (nameZ i.op) { data := #[32] }) (numZ i.b)) { data := #[44, 32] }), true), (pre (fitS (catZ (nameZ i.op) { data := #[32] }) (numZ i.b)), true), (pre (fitS (nameZ i.op) { data := #[32] }), true), (formZ i.op == 5, true), (formZ i.op == 4, false), (formZ i.op == 2, false), (formZ i.op == 1, false), (formZ i.op == 0, false), (pre (i64B i.imm), true), (pre (rg32B i.b), true), (pre (rg32B i.a), true), (pre (rg32B i.rd), true), (i.rl, false), (i.aq, false), (i.rl, false), (i.aq, false), (!mayB i, false)], []) := by kernel_rfl
theorem tx_6 (i : In) : simF env6t 1000 10 [] [false, false, false, false, false, false, false, false, false, false, true] 8 [[true, true, true, true, true, true, true]] [.inl (inV i)] = some (false, [Sum.inl (Value.string (catZ (catZ (catZ (catZ (catZ (catZ (nameZ i.op) { data := #[32] }) (numZ i.rd)) { data := #[44, 32] }) (numZ i.a)) { data := #[44, 32] }) (numZ i.b)))], [(pre (fitS (catZ (catZ (catZ (catZ (catZ (nameZ i.op) { data := #[32] }) (numZ i.rd)) { data := #[44, 32] }) (numZ i.a)) { data := #[44, 32] }) (numZ i.b)), true), (pre (fitS (catZ (catZ (catZ (catZ (nameZ i.op) { data := #[32] }) (numZ i.rd)) { data := #[44, 32] }) (numZ i.a)) { data := #[44, 32] }), true), (pre (fitS (catZ (catZ (catZ (nameZ i.op) { data := #[32] }) (numZ i.rd)) { data := #[44, 32] }) (numZ i.a)), true), (pre (fitS (catZ (catZ (nameZ i.op) { data := #[32] }) (numZ i.rd)) { data := #[44, 32] }), true), (pre (fitS (catZ (nameZ i.op) { data := #[32] }) (numZ i.rd)), true), (pre (fitS (nameZ i.op) { data := #[32] }), true), (formZ i.op == 6, true), (formZ i.op == 5, false), (formZ i.op == 4, false), (formZ i.op == 2, false), (formZ i.op == 1, false), (formZ i.op == 0, false), (pre (i64B i.imm), true), (pre (rg32B i.b), true), (pre (rg32B i.a), true), (pre (rg32B i.rd), true), (i.rl, false), (i.aq, false), (i.rl, false), (i.aq, false), (!mayB i, false)], []) := by kernel_rfl
theorem tx_9 (i : In) : simF env6t 1000 10 [] [false, false, false, false, false, false, false, false, false, false, false, true] 8 [[true, true, true, true, true, true, true]] [.inl (inV i)] = some (false, [Sum.inl (Value.string (catZ (catZ (catZ (catZ (nameZ i.op) { data := #[32] }) (sideZ (IntKind.i64.wrap (i.imm.tdiv 16)))) { data := #[44, 32] }) (sideZ (i.imm.tmod 16))))], [(pre (fitS (catZ (catZ (catZ (nameZ i.op) { data := #[32] }) (sideZ (IntKind.i64.wrap (i.imm.tdiv 16)))) { data := #[44, 32] }) (sideZ (i.imm.tmod 16))), true), (pre (sixB (i.imm.tmod 16)), true), (pre (fitS (catZ (catZ (nameZ i.op) { data := #[32] }) (sideZ (IntKind.i64.wrap (i.imm.tdiv 16)))) { data := #[44, 32] }), true), (pre (fitS (catZ (nameZ i.op) { data := #[32] }) (sideZ (IntKind.i64.wrap (i.imm.tdiv 16)))), true), (pre (sixB (IntKind.i64.wrap (i.imm.tdiv 16))), true), (pre (fitS (nameZ i.op) { data := #[32] }), true), (formZ i.op == 9, true), (formZ i.op == 6, false), (formZ i.op == 5, false), (formZ i.op == 4, false), (formZ i.op == 2, false), (formZ i.op == 1, false), (formZ i.op == 0, false), (pre (i64B i.imm), true), (pre (rg32B i.b), true), (pre (rg32B i.a), true), (pre (rg32B i.rd), true), (i.rl, false), (i.aq, false), (i.rl, false), (i.aq, false), (!mayB i, false)], []) := by kernel_rfl
theorem tx_10 (i : In) : simF env6t 1000 10 [] [false, false, false, false, false, false, false, false, false, false, false, false, true] 8 [[true, true, true, true, true, true, true]] [.inl (inV i)] = some (false, [Sum.inl (Value.string (catZ (catZ (catZ (catZ (catZ (nameZ i.op) { data := #[32] }) (numZ i.rd)) { data := #[44, 32, 40] }) (numZ i.a)) { data := #[41] }))], [(pre (fitS (catZ (catZ (catZ (catZ (nameZ i.op) { data := #[32] }) (numZ i.rd)) { data := #[44, 32, 40] }) (numZ i.a)) { data := #[41] }), true), (pre (fitS (catZ (catZ (catZ (nameZ i.op) { data := #[32] }) (numZ i.rd)) { data := #[44, 32, 40] }) (numZ i.a)), true), (pre (fitS (catZ (catZ (nameZ i.op) { data := #[32] }) (numZ i.rd)) { data := #[44, 32, 40] }), true), (pre (fitS (catZ (nameZ i.op) { data := #[32] }) (numZ i.rd)), true), (pre (fitS (nameZ i.op) { data := #[32] }), true), (formZ i.op == 10, true), (formZ i.op == 9, false), (formZ i.op == 6, false), (formZ i.op == 5, false), (formZ i.op == 4, false), (formZ i.op == 2, false), (formZ i.op == 1, false), (formZ i.op == 0, false), (pre (i64B i.imm), true), (pre (rg32B i.b), true), (pre (rg32B i.a), true), (pre (rg32B i.rd), true), (i.rl, false), (i.aq, false), (i.rl, false), (i.aq, false), (!mayB i, false)], []) := by kernel_rfl
theorem tx_10a (i : In) : simF env6t 1000 10 [] [false, true, true, false, false, false, false, false, false, false, false, true] 8 [[true, true, true, true, true, true, true]] [.inl (inV i)] = some (false, [Sum.inl (Value.string (catZ (catZ (catZ (catZ (catZ (catZ (catZ (nameZ i.op) { data := #[46] }) { data := #[97, 113] }) { data := #[32] }) (numZ i.rd)) { data := #[44, 32, 40] }) (numZ i.a)) { data := #[41] }))], [(pre (fitS (catZ (catZ (catZ (catZ (catZ (catZ (nameZ i.op) { data := #[46] }) { data := #[97, 113] }) { data := #[32] }) (numZ i.rd)) { data := #[44, 32, 40] }) (numZ i.a)) { data := #[41] }), true), (pre (fitS (catZ (catZ (catZ (catZ (catZ (nameZ i.op) { data := #[46] }) { data := #[97, 113] }) { data := #[32] }) (numZ i.rd)) { data := #[44, 32, 40] }) (numZ i.a)), true), (pre (fitS (catZ (catZ (catZ (catZ (nameZ i.op) { data := #[46] }) { data := #[97, 113] }) { data := #[32] }) (numZ i.rd)) { data := #[44, 32, 40] }), true), (pre (fitS (catZ (catZ (catZ (nameZ i.op) { data := #[46] }) { data := #[97, 113] }) { data := #[32] }) (numZ i.rd)), true), (pre (fitS (catZ (catZ (nameZ i.op) { data := #[46] }) { data := #[97, 113] }) { data := #[32] }), true), (formZ i.op == 10, true), (formZ i.op == 9, false), (formZ i.op == 6, false), (formZ i.op == 5, false), (formZ i.op == 4, false), (formZ i.op == 2, false), (formZ i.op == 1, false), (formZ i.op == 0, false), (pre (i64B i.imm), true), (pre (rg32B i.b), true), (pre (rg32B i.a), true), (pre (rg32B i.rd), true), (i.rl, false), (pre (fitS (catZ (nameZ i.op) { data := #[46] }) { data := #[97, 113] }), true), (i.aq, true), (pre (fitS (nameZ i.op) { data := #[46] }), true), (i.aq, true), (!mayB i, false)], []) := by kernel_rfl
theorem tx_10r (i : In) : simF env6t 1000 10 [] [false, false, true, false, true, false, false, false, false, false, false, false, true] 8 [[true, true, true, true, true, true, true]] [.inl (inV i)] = some (false, [Sum.inl (Value.string (catZ (catZ (catZ (catZ (catZ (catZ (catZ (nameZ i.op) { data := #[46] }) { data := #[114, 108] }) { data := #[32] }) (numZ i.rd)) { data := #[44, 32, 40] }) (numZ i.a)) { data := #[41] }))], [(pre (fitS (catZ (catZ (catZ (catZ (catZ (catZ (nameZ i.op) { data := #[46] }) { data := #[114, 108] }) { data := #[32] }) (numZ i.rd)) { data := #[44, 32, 40] }) (numZ i.a)) { data := #[41] }), true), (pre (fitS (catZ (catZ (catZ (catZ (catZ (nameZ i.op) { data := #[46] }) { data := #[114, 108] }) { data := #[32] }) (numZ i.rd)) { data := #[44, 32, 40] }) (numZ i.a)), true), (pre (fitS (catZ (catZ (catZ (catZ (nameZ i.op) { data := #[46] }) { data := #[114, 108] }) { data := #[32] }) (numZ i.rd)) { data := #[44, 32, 40] }), true), (pre (fitS (catZ (catZ (catZ (nameZ i.op) { data := #[46] }) { data := #[114, 108] }) { data := #[32] }) (numZ i.rd)), true), (pre (fitS (catZ (catZ (nameZ i.op) { data := #[46] }) { data := #[114, 108] }) { data := #[32] }), true), (formZ i.op == 10, true), (formZ i.op == 9, false), (formZ i.op == 6, false), (formZ i.op == 5, false), (formZ i.op == 4, false), (formZ i.op == 2, false), (formZ i.op == 1, false), (formZ i.op == 0, false), (pre (i64B i.imm), true), (pre (rg32B i.b), true), (pre (rg32B i.a), true), (pre (rg32B i.rd), true), (pre (fitS (catZ (nameZ i.op) { data := #[46] }) { data := #[114, 108] }), true), (i.rl, true), (i.aq, false), (pre (fitS (nameZ i.op) { data := #[46] }), true), (i.rl, true), (i.aq, false), (!mayB i, false)], []) := by kernel_rfl
theorem tx_10q (i : In) : simF env6t 1000 10 [] [false, true, true, true, false, false, false, false, false, false, false, true] 8 [[true, true, true, true, true, true, true]] [.inl (inV i)] = some (false, [Sum.inl (Value.string (catZ (catZ (catZ (catZ (catZ (catZ (catZ (catZ (nameZ i.op) { data := #[46] }) { data := #[97, 113] }) { data := #[114, 108] }) { data := #[32] }) (numZ i.rd)) { data := #[44, 32, 40] }) (numZ i.a)) { data := #[41] }))], [(pre (fitS (catZ (catZ (catZ (catZ (catZ (catZ (catZ (nameZ i.op) { data := #[46] }) { data := #[97, 113] }) { data := #[114, 108] }) { data := #[32] }) (numZ i.rd)) { data := #[44, 32, 40] }) (numZ i.a)) { data := #[41] }), true), (pre (fitS (catZ (catZ (catZ (catZ (catZ (catZ (nameZ i.op) { data := #[46] }) { data := #[97, 113] }) { data := #[114, 108] }) { data := #[32] }) (numZ i.rd)) { data := #[44, 32, 40] }) (numZ i.a)), true), (pre (fitS (catZ (catZ (catZ (catZ (catZ (nameZ i.op) { data := #[46] }) { data := #[97, 113] }) { data := #[114, 108] }) { data := #[32] }) (numZ i.rd)) { data := #[44, 32, 40] }), true), (pre (fitS (catZ (catZ (catZ (catZ (nameZ i.op) { data := #[46] }) { data := #[97, 113] }) { data := #[114, 108] }) { data := #[32] }) (numZ i.rd)), true), (pre (fitS (catZ (catZ (catZ (nameZ i.op) { data := #[46] }) { data := #[97, 113] }) { data := #[114, 108] }) { data := #[32] }), true), (formZ i.op == 10, true), (formZ i.op == 9, false), (formZ i.op == 6, false), (formZ i.op == 5, false), (formZ i.op == 4, false), (formZ i.op == 2, false), (formZ i.op == 1, false), (formZ i.op == 0, false), (pre (i64B i.imm), true), (pre (rg32B i.b), true), (pre (rg32B i.a), true), (pre (rg32B i.rd), true), (pre (fitS (catZ (catZ (nameZ i.op) { data := #[46] }) { data := #[97, 113] }) { data := #[114, 108] }), true), (i.rl, true), (pre (fitS (catZ (nameZ i.op) { data := #[46] }) { data := #[97, 113] }), true), (i.aq, true), (pre (fitS (nameZ i.op) { data := #[46] }), true), (i.aq, true), (!mayB i, false)], []) := by kernel_rfl
theorem tx_11 (i : In) : simF env6t 1000 10 [] [false, false, false, false, false, false, false, false, false, false, false, false, false, true] 8 [[true, true, true, true, true, true, true]] [.inl (inV i)] = some (false, [Sum.inl (Value.string (catZ (catZ (catZ (catZ (catZ (catZ (catZ (nameZ i.op) { data := #[32] }) (numZ i.rd)) { data := #[44, 32] }) (numZ i.b)) { data := #[44, 32, 40] }) (numZ i.a)) { data := #[41] }))], [(pre (fitS (catZ (catZ (catZ (catZ (catZ (catZ (nameZ i.op) { data := #[32] }) (numZ i.rd)) { data := #[44, 32] }) (numZ i.b)) { data := #[44, 32, 40] }) (numZ i.a)) { data := #[41] }), true), (pre (fitS (catZ (catZ (catZ (catZ (catZ (nameZ i.op) { data := #[32] }) (numZ i.rd)) { data := #[44, 32] }) (numZ i.b)) { data := #[44, 32, 40] }) (numZ i.a)), true), (pre (fitS (catZ (catZ (catZ (catZ (nameZ i.op) { data := #[32] }) (numZ i.rd)) { data := #[44, 32] }) (numZ i.b)) { data := #[44, 32, 40] }), true), (pre (fitS (catZ (catZ (catZ (nameZ i.op) { data := #[32] }) (numZ i.rd)) { data := #[44, 32] }) (numZ i.b)), true), (pre (fitS (catZ (catZ (nameZ i.op) { data := #[32] }) (numZ i.rd)) { data := #[44, 32] }), true), (pre (fitS (catZ (nameZ i.op) { data := #[32] }) (numZ i.rd)), true), (pre (fitS (nameZ i.op) { data := #[32] }), true), (formZ i.op == 11, true), (formZ i.op == 10, false), (formZ i.op == 9, false), (formZ i.op == 6, false), (formZ i.op == 5, false), (formZ i.op == 4, false), (formZ i.op == 2, false), (formZ i.op == 1, false), (formZ i.op == 0, false), (pre (i64B i.imm), true), (pre (rg32B i.b), true), (pre (rg32B i.a), true), (pre (rg32B i.rd), true), (i.rl, false), (i.aq, false), (i.rl, false), (i.aq, false), (!mayB i, false)], []) := by kernel_rfl
theorem tx_11a (i : In) : simF env6t 1000 10 [] [false, true, true, false, false, false, false, false, false, false, false, false, true] 8 [[true, true, true, true, true, true, true]] [.inl (inV i)] = some (false, [Sum.inl (Value.string (catZ (catZ (catZ (catZ (catZ (catZ (catZ (catZ (catZ (nameZ i.op) { data := #[46] }) { data := #[97, 113] }) { data := #[32] }) (numZ i.rd)) { data := #[44, 32] }) (numZ i.b)) { data := #[44, 32, 40] }) (numZ i.a)) { data := #[41] }))], [(pre (fitS (catZ (catZ (catZ (catZ (catZ (catZ (catZ (catZ (nameZ i.op) { data := #[46] }) { data := #[97, 113] }) { data := #[32] }) (numZ i.rd)) { data := #[44, 32] }) (numZ i.b)) { data := #[44, 32, 40] }) (numZ i.a)) { data := #[41] }), true), (pre (fitS (catZ (catZ (catZ (catZ (catZ (catZ (catZ (nameZ i.op) { data := #[46] }) { data := #[97, 113] }) { data := #[32] }) (numZ i.rd)) { data := #[44, 32] }) (numZ i.b)) { data := #[44, 32, 40] }) (numZ i.a)), true), (pre (fitS (catZ (catZ (catZ (catZ (catZ (catZ (nameZ i.op) { data := #[46] }) { data := #[97, 113] }) { data := #[32] }) (numZ i.rd)) { data := #[44, 32] }) (numZ i.b)) { data := #[44, 32, 40] }), true), (pre (fitS (catZ (catZ (catZ (catZ (catZ (nameZ i.op) { data := #[46] }) { data := #[97, 113] }) { data := #[32] }) (numZ i.rd)) { data := #[44, 32] }) (numZ i.b)), true), (pre (fitS (catZ (catZ (catZ (catZ (nameZ i.op) { data := #[46] }) { data := #[97, 113] }) { data := #[32] }) (numZ i.rd)) { data := #[44, 32] }), true), (pre (fitS (catZ (catZ (catZ (nameZ i.op) { data := #[46] }) { data := #[97, 113] }) { data := #[32] }) (numZ i.rd)), true), (pre (fitS (catZ (catZ (nameZ i.op) { data := #[46] }) { data := #[97, 113] }) { data := #[32] }), true), (formZ i.op == 11, true), (formZ i.op == 10, false), (formZ i.op == 9, false), (formZ i.op == 6, false), (formZ i.op == 5, false), (formZ i.op == 4, false), (formZ i.op == 2, false), (formZ i.op == 1, false), (formZ i.op == 0, false), (pre (i64B i.imm), true), (pre (rg32B i.b), true), (pre (rg32B i.a), true), (pre (rg32B i.rd), true), (i.rl, false), (pre (fitS (catZ (nameZ i.op) { data := #[46] }) { data := #[97, 113] }), true), (i.aq, true), (pre (fitS (nameZ i.op) { data := #[46] }), true), (i.aq, true), (!mayB i, false)], []) := by kernel_rfl
theorem tx_11r (i : In) : simF env6t 1000 10 [] [false, false, true, false, true, false, false, false, false, false, false, false, false, true] 8 [[true, true, true, true, true, true, true]] [.inl (inV i)] = some (false, [Sum.inl (Value.string (catZ (catZ (catZ (catZ (catZ (catZ (catZ (catZ (catZ (nameZ i.op) { data := #[46] }) { data := #[114, 108] }) { data := #[32] }) (numZ i.rd)) { data := #[44, 32] }) (numZ i.b)) { data := #[44, 32, 40] }) (numZ i.a)) { data := #[41] }))], [(pre (fitS (catZ (catZ (catZ (catZ (catZ (catZ (catZ (catZ (nameZ i.op) { data := #[46] }) { data := #[114, 108] }) { data := #[32] }) (numZ i.rd)) { data := #[44, 32] }) (numZ i.b)) { data := #[44, 32, 40] }) (numZ i.a)) { data := #[41] }), true), (pre (fitS (catZ (catZ (catZ (catZ (catZ (catZ (catZ (nameZ i.op) { data := #[46] }) { data := #[114, 108] }) { data := #[32] }) (numZ i.rd)) { data := #[44, 32] }) (numZ i.b)) { data := #[44, 32, 40] }) (numZ i.a)), true), (pre (fitS (catZ (catZ (catZ (catZ (catZ (catZ (nameZ i.op) { data := #[46] }) { data := #[114, 108] }) { data := #[32] }) (numZ i.rd)) { data := #[44, 32] }) (numZ i.b)) { data := #[44, 32, 40] }), true), (pre (fitS (catZ (catZ (catZ (catZ (catZ (nameZ i.op) { data := #[46] }) { data := #[114, 108] }) { data := #[32] }) (numZ i.rd)) { data := #[44, 32] }) (numZ i.b)), true), (pre (fitS (catZ (catZ (catZ (catZ (nameZ i.op) { data := #[46] }) { data := #[114, 108] }) { data := #[32] }) (numZ i.rd)) { data := #[44, 32] }), true), (pre (fitS (catZ (catZ (catZ (nameZ i.op) { data := #[46] }) { data := #[114, 108] }) { data := #[32] }) (numZ i.rd)), true), (pre (fitS (catZ (catZ (nameZ i.op) { data := #[46] }) { data := #[114, 108] }) { data := #[32] }), true), (formZ i.op == 11, true), (formZ i.op == 10, false), (formZ i.op == 9, false), (formZ i.op == 6, false), (formZ i.op == 5, false), (formZ i.op == 4, false), (formZ i.op == 2, false), (formZ i.op == 1, false), (formZ i.op == 0, false), (pre (i64B i.imm), true), (pre (rg32B i.b), true), (pre (rg32B i.a), true), (pre (rg32B i.rd), true), (pre (fitS (catZ (nameZ i.op) { data := #[46] }) { data := #[114, 108] }), true), (i.rl, true), (i.aq, false), (pre (fitS (nameZ i.op) { data := #[46] }), true), (i.rl, true), (i.aq, false), (!mayB i, false)], []) := by kernel_rfl
theorem tx_11q (i : In) : simF env6t 1000 10 [] [false, true, true, true, false, false, false, false, false, false, false, false, true] 8 [[true, true, true, true, true, true, true]] [.inl (inV i)] = some (false, [Sum.inl (Value.string (catZ (catZ (catZ (catZ (catZ (catZ (catZ (catZ (catZ (catZ (nameZ i.op) { data := #[46] }) { data := #[97, 113] }) { data := #[114, 108] }) { data := #[32] }) (numZ i.rd)) { data := #[44, 32] }) (numZ i.b)) { data := #[44, 32, 40] }) (numZ i.a)) { data := #[41] }))], [(pre (fitS (catZ (catZ (catZ (catZ (catZ (catZ (catZ (catZ (catZ (nameZ i.op) { data := #[46] }) { data := #[97, 113] }) { data := #[114, 108] }) { data := #[32] }) (numZ i.rd)) { data := #[44, 32] }) (numZ i.b)) { data := #[44, 32, 40] }) (numZ i.a)) { data := #[41] }), true), (pre (fitS (catZ (catZ (catZ (catZ (catZ (catZ (catZ (catZ (nameZ i.op) { data := #[46] }) { data := #[97, 113] }) { data := #[114, 108] }) { data := #[32] }) (numZ i.rd)) { data := #[44, 32] }) (numZ i.b)) { data := #[44, 32, 40] }) (numZ i.a)), true), (pre (fitS (catZ (catZ (catZ (catZ (catZ (catZ (catZ (nameZ i.op) { data := #[46] }) { data := #[97, 113] }) { data := #[114, 108] }) { data := #[32] }) (numZ i.rd)) { data := #[44, 32] }) (numZ i.b)) { data := #[44, 32, 40] }), true), (pre (fitS (catZ (catZ (catZ (catZ (catZ (catZ (nameZ i.op) { data := #[46] }) { data := #[97, 113] }) { data := #[114, 108] }) { data := #[32] }) (numZ i.rd)) { data := #[44, 32] }) (numZ i.b)), true), (pre (fitS (catZ (catZ (catZ (catZ (catZ (nameZ i.op) { data := #[46] }) { data := #[97, 113] }) { data := #[114, 108] }) { data := #[32] }) (numZ i.rd)) { data := #[44, 32] }), true), (pre (fitS (catZ (catZ (catZ (catZ (nameZ i.op) { data := #[46] }) { data := #[97, 113] }) { data := #[114, 108] }) { data := #[32] }) (numZ i.rd)), true), (pre (fitS (catZ (catZ (catZ (nameZ i.op) { data := #[46] }) { data := #[97, 113] }) { data := #[114, 108] }) { data := #[32] }), true), (formZ i.op == 11, true), (formZ i.op == 10, false), (formZ i.op == 9, false), (formZ i.op == 6, false), (formZ i.op == 5, false), (formZ i.op == 4, false), (formZ i.op == 2, false), (formZ i.op == 1, false), (formZ i.op == 0, false), (pre (i64B i.imm), true), (pre (rg32B i.b), true), (pre (rg32B i.a), true), (pre (rg32B i.rd), true), (pre (fitS (catZ (catZ (nameZ i.op) { data := #[46] }) { data := #[97, 113] }) { data := #[114, 108] }), true), (i.rl, true), (pre (fitS (catZ (nameZ i.op) { data := #[46] }) { data := #[97, 113] }), true), (i.aq, true), (pre (fitS (nameZ i.op) { data := #[46] }), true), (i.aq, true), (!mayB i, false)], []) := by kernel_rfl
theorem tx_j (i : In) : simF env6t 1000 10 [] [false, false, false, false, false, false, false, false, false, false, false, false, false, false, true] 8 [[true, true, true, true, true, true, true]] [.inl (inV i)] = some (false, [Sum.inl (Value.string (catZ (catZ (catZ (catZ (catZ (catZ (catZ (nameZ i.op) { data := #[32] }) (numZ i.rd)) { data := #[44, 32] }) (digZ i.imm)) { data := #[40] }) (numZ i.a)) { data := #[41] }))], [(pre (fitS (catZ (catZ (catZ (catZ (catZ (catZ (nameZ i.op) { data := #[32] }) (numZ i.rd)) { data := #[44, 32] }) (digZ i.imm)) { data := #[40] }) (numZ i.a)) { data := #[41] }), true), (pre (fitS (catZ (catZ (catZ (catZ (catZ (nameZ i.op) { data := #[32] }) (numZ i.rd)) { data := #[44, 32] }) (digZ i.imm)) { data := #[40] }) (numZ i.a)), true), (pre (fitS (catZ (catZ (catZ (catZ (nameZ i.op) { data := #[32] }) (numZ i.rd)) { data := #[44, 32] }) (digZ i.imm)) { data := #[40] }), true), (pre (fitS (catZ (catZ (catZ (nameZ i.op) { data := #[32] }) (numZ i.rd)) { data := #[44, 32] }) (digZ i.imm)), true), (pre (fitS (catZ (catZ (nameZ i.op) { data := #[32] }) (numZ i.rd)) { data := #[44, 32] }), true), (pre (fitS (catZ (nameZ i.op) { data := #[32] }) (numZ i.rd)), true), (pre (fitS (nameZ i.op) { data := #[32] }), true), (i.op == 4, true), (formZ i.op == 11, false), (formZ i.op == 10, false), (formZ i.op == 9, false), (formZ i.op == 6, false), (formZ i.op == 5, false), (formZ i.op == 4, false), (formZ i.op == 2, false), (formZ i.op == 1, false), (formZ i.op == 0, false), (pre (i64B i.imm), true), (pre (rg32B i.b), true), (pre (rg32B i.a), true), (pre (rg32B i.rd), true), (i.rl, false), (i.aq, false), (i.rl, false), (i.aq, false), (!mayB i, false)], []) := by kernel_rfl
theorem tx_m (i : In) : simF env6t 1000 10 [] [false, false, false, false, false, false, false, false, false, false, false, false, false, false, false, true] 8 [[true, true, true, true, true, true, true]] [.inl (inV i)] = some (false, [Sum.inl (Value.string (catZ (catZ (catZ (catZ (catZ (catZ (catZ (nameZ i.op) { data := #[32] }) (numZ i.rd)) { data := #[44, 32] }) (digZ i.imm)) { data := #[40] }) (numZ i.a)) { data := #[41] }))], [(pre (fitS (catZ (catZ (catZ (catZ (catZ (catZ (nameZ i.op) { data := #[32] }) (numZ i.rd)) { data := #[44, 32] }) (digZ i.imm)) { data := #[40] }) (numZ i.a)) { data := #[41] }), true), (pre (fitS (catZ (catZ (catZ (catZ (catZ (nameZ i.op) { data := #[32] }) (numZ i.rd)) { data := #[44, 32] }) (digZ i.imm)) { data := #[40] }) (numZ i.a)), true), (pre (fitS (catZ (catZ (catZ (catZ (nameZ i.op) { data := #[32] }) (numZ i.rd)) { data := #[44, 32] }) (digZ i.imm)) { data := #[40] }), true), (pre (fitS (catZ (catZ (catZ (nameZ i.op) { data := #[32] }) (numZ i.rd)) { data := #[44, 32] }) (digZ i.imm)), true), (pre (fitS (catZ (catZ (nameZ i.op) { data := #[32] }) (numZ i.rd)) { data := #[44, 32] }), true), (pre (fitS (catZ (nameZ i.op) { data := #[32] }) (numZ i.rd)), true), (pre (fitS (nameZ i.op) { data := #[32] }), true), (readZ i.op, true), (i.op == 4, false), (formZ i.op == 11, false), (formZ i.op == 10, false), (formZ i.op == 9, false), (formZ i.op == 6, false), (formZ i.op == 5, false), (formZ i.op == 4, false), (formZ i.op == 2, false), (formZ i.op == 1, false), (formZ i.op == 0, false), (pre (i64B i.imm), true), (pre (rg32B i.b), true), (pre (rg32B i.a), true), (pre (rg32B i.rd), true), (i.rl, false), (i.aq, false), (i.rl, false), (i.aq, false), (!mayB i, false)], []) := by kernel_rfl
theorem tx_i (i : In) : simF env6t 1000 10 [] [false, false, false, false, false, false, false, false, false, false, false, false, false, false, false, false] 8 [[true, true, true, true, true, true, true]] [.inl (inV i)] = some (false, [Sum.inl (Value.string (catZ (catZ (catZ (catZ (catZ (catZ (nameZ i.op) { data := #[32] }) (numZ i.rd)) { data := #[44, 32] }) (numZ i.a)) { data := #[44, 32] }) (digZ i.imm)))], [(pre (fitS (catZ (catZ (catZ (catZ (catZ (nameZ i.op) { data := #[32] }) (numZ i.rd)) { data := #[44, 32] }) (numZ i.a)) { data := #[44, 32] }) (digZ i.imm)), true), (pre (fitS (catZ (catZ (catZ (catZ (nameZ i.op) { data := #[32] }) (numZ i.rd)) { data := #[44, 32] }) (numZ i.a)) { data := #[44, 32] }), true), (pre (fitS (catZ (catZ (catZ (nameZ i.op) { data := #[32] }) (numZ i.rd)) { data := #[44, 32] }) (numZ i.a)), true), (pre (fitS (catZ (catZ (nameZ i.op) { data := #[32] }) (numZ i.rd)) { data := #[44, 32] }), true), (pre (fitS (catZ (nameZ i.op) { data := #[32] }) (numZ i.rd)), true), (pre (fitS (nameZ i.op) { data := #[32] }), true), (readZ i.op, false), (i.op == 4, false), (formZ i.op == 11, false), (formZ i.op == 10, false), (formZ i.op == 9, false), (formZ i.op == 6, false), (formZ i.op == 5, false), (formZ i.op == 4, false), (formZ i.op == 2, false), (formZ i.op == 1, false), (formZ i.op == 0, false), (pre (i64B i.imm), true), (pre (rg32B i.b), true), (pre (rg32B i.a), true), (pre (rg32B i.rd), true), (i.rl, false), (i.aq, false), (i.rl, false), (i.aq, false), (!mayB i, false)], []) := by kernel_rfl
--@s2end
end Go.Proofs.YtgcglmnbkilfhaaGreatDoor
