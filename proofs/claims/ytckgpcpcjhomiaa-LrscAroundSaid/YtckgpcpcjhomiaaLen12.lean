/- Layer 12: lrsc.Length. -/
import Derived.Test.YtckgpcpcjhomiaaSkip12
import Derived.Test.YtckgpcpcjhomiaaRef12
namespace Go.Proofs.Ytckgpcpcjhomiaa
open Go.RowKit Sim S2
set_option linter.unusedVariables false
set_option linter.unusedSimpArgs false
/-- How many of a list's instructions may be of the loop that begins at p. -/
noncomputable def cuN (n p : Nat) : Nat := (minZ ((p : Int) + 16) (n : Int)).toNat - (p : Int).toNat
theorem cuN_eq {n p : Nat} (h : p < n) : cuN n p = if p + 16 ≤ n then 16 else n - p := by
  unfold cuN
  rw [minZ_eq, Int.toNat_natCast]
  by_cases h1 : (n : Int) < (p : Int) + 16
  · rw [if_pos h1, Int.toNat_natCast]
    by_cases h2 : p + 16 ≤ n
    · omega
    · rw [if_neg h2]
  · rw [if_neg h1, if_pos (by omega)]
    omega
noncomputable def cuE (n : Nat) (f : Nat → In) (p : Nat) : LE := { insE n f with n := cuN n p, el := fun j => (insE n f).el ((p : Int).toNat + j), own := false, dead := false, opn := true }
theorem cuE_ins (n : Nat) (f : Nat → In) (p j : Nat) : insL (cuE n f p) j = f (p + j) := by
  show decC (inC (f ((p : Int).toNat + j))) = f (p + j)
  rw [Int.toNat_natCast]; rfl
theorem cuE_isO (n : Nat) (f : Nat → In) (p : Nat) (hn : n ≤ 1000000000000) (hp : p < n) : isOIn (cuE n f p) :=
  ⟨rfl, rfl, rfl, rfl, fun _ _ => rfl, by show cuN n p ≤ _; rw [cuN_eq hp]; split <;> omega⟩
/-- How long the loop is that begins with the first of these instructions; 0: there is none. -/
def sG (M : Nat) (g : Nat → In) : Nat := skipN (kpB M g (g 0).a) M 1
def qG (M : Nat) (g : Nat → In) : Nat := skipN (plB M g) M (sG M g + 1)
def lenG (M : Nat) (g : Nat → In) : Int :=
  bif !(mayB (g 0) && (resI (g 0) && keepI (g 0).a (g 0))) then 0 else
  bif !(decide (sG M g < M) && (mayB (g (sG M g)) && (conI (g (sG M g)) && ((wideB (g (sG M g)).op == wideB (g 0).op) && ((g (sG M g)).a == (g 0).a))))) then 0 else
  bif !(decide (qG M g < M) && (mayB (g (qG M g)) && (leadI (g (qG M g)) && ((g (qG M g)).imm == -4 * (qG M g : Int))))) then 0 else (qG M g : Int) + 1
def lenH (f : Nat → In) (p M s q : Nat) : Int :=
  bif !(mayB (f p) && (resI (f p) && keepI (f p).a (f p))) then 0 else
  bif !(decide (s < M) && (mayB (f (p + s)) && (conI (f (p + s)) && ((wideB (f (p + s)).op == wideB (f p).op) && ((f (p + s)).a == (f p).a))))) then 0 else
  bif !(decide (q < M) && (mayB (f (p + q)) && (leadI (f (p + q)) && ((f (p + q)).imm == -4 * (q : Int))))) then 0 else (q : Int) + 1
theorem lenG_eq (f : Nat → In) (p M : Nat) : lenG M (fun j => f (p + j)) = lenH f p M (sG M fun j => f (p + j)) (qG M fun j => f (p + j)) := rfl
theorem lenE_ex : ∃ h : Nat → (Nat → In) → Int → Int, ∀ n f p, h n f p = if 0 ≤ p ∧ p < (n : Int) then lenG (cuN n p.toNat) (fun j => f (p.toNat + j)) else 0 := ⟨_, fun _ _ _ => rfl⟩
/-- What Length answers. -/
noncomputable def lenE : Nat → (Nat → In) → Int → Int := Classical.choose lenE_ex
theorem lenE_eq (n : Nat) (f : Nat → In) (p : Int) : lenE n f p = if 0 ≤ p ∧ p < (n : Int) then lenG (cuN n p.toNat) (fun j => f (p.toNat + j)) else 0 := Classical.choose_spec lenE_ex n f p
theorem kpB_congr {n : Nat} {f g : Nat → In} {r : Int} (h : ∀ i, f i = g i) (i : Nat) : kpB n f r i = kpB n g r i := by unfold kpB; rw [h i]
theorem plB_congr {n : Nat} {f g : Nat → In} (h : ∀ i, f i = g i) (i : Nat) : plB n f i = plB n g i := by unfold plB; rw [h i]
theorem LRet.val {P : Program} {f : FuncId} {vals : List Value} {w : World} {x y : Int} (e : y = x) (h : LRet P f vals false [.inl (.int .i64 x)] w) : LRet P f vals false [.inl (.int .i64 y)] w := by rw [e]; exact h
theorem ksE_cu (n : Nat) (f : Nat → In) (p : Nat) : ksE (cuE n f p) (f p).a 1 = (sG (cuN n p) (fun j => f (p + j)) : Int) := by
  rw [ksE_eq]
  show ((skipN (kpB (cuN n p) (insL (cuE n f p)) (f p).a) (cuN n p) 1 : Nat) : Int) = _
  rw [skipN_congr (fun i => kpB_congr (cuE_ins n f p) i)]; rfl
theorem psE_cu (n : Nat) (f : Nat → In) (p : Nat) : psE (cuE n f p) ((sG (cuN n p) (fun j => f (p + j)) : Int) + 1).toNat = (qG (cuN n p) (fun j => f (p + j)) : Int) := by
  rw [psE_eq]
  show ((skipN (plB (cuN n p) (insL (cuE n f p))) (cuN n p) ((sG (cuN n p) (fun j => f (p + j)) : Int) + 1).toNat : Nat) : Int) = _
  rw [skipN_congr (fun i => plB_congr (cuE_ins n f p) i), show ((sG (cuN n p) (fun j => f (p + j)) : Int) + 1).toNat = sG (cuN n p) (fun j => f (p + j)) + 1 by omega]; rfl
theorem cut_ok {n p : Nat} (hp : p < n) : pre (decide (0 ≤ (p : Int) ∧ (p : Int) ≤ minZ ((p : Int) + 16) (n : Int) ∧ minZ ((p : Int) + 16) (n : Int) ≤ (n : Int))) = true := by
  rw [minZ_eq]
  unfold pre
  refine decide_eq_true ?_
  split <;> omega
theorem ob_dec {a b : Nat} {c : Bool} (h : decide (a < b) = c) : decide ((a : Int) < (b : Int)) = c := by
  rw [← h]; exact decide_eq_decide.mpr (by omega)
set_option maxRecDepth 10000 in
theorem length_in {gl : Gl} (n : Nat) (f : Nat → In) (p : Nat) (hn : n ≤ 1000000000000) (hp : p < n) (w : World) (vals : List Value) (hG : GlobOk gl w) (ha : ArgsOk w [.inr (insE n f), .inl (.int .i64 p)] vals) :
    LRet Try.prog 7 vals false [.inl (.int .i64 (lenG (cuN n p) (fun j => f (p + j))))] w := by
  have hM := cuN_eq hp
  have hM1 : 1 ≤ cuN n p := by rw [hM]; split <;> omega
  have hM2 : cuN n p ≤ 16 := by rw [hM]; split <;> omega
  have hS := ksE_cu n f p
  have hQ := psE_cu n f p
  rw [lenG_eq]
  have hs : sG (cuN n p) (fun j => f (p + j)) ≤ 1 + cuN n p := skipN_le _ _ _
  have hq : qG (cuN n p) (fun j => f (p + j)) ≤ sG (cuN n p) (fun j => f (p + j)) + 1 + cuN n p := skipN_le _ _ _
  clear hM
  generalize sG (cuN n p) (fun j => f (p + j)) = s at *
  generalize qG (cuN n p) (fun j => f (p + j)) = q at *
  cases h0 : (mayB (f p))
  case' false =>
    refine LRet.val (x := 0) (by simp [lenH, h0]) ?_
    refine fn_ok (enL_ok gl) (fuel := 1000) (d := 30) (plan := []) (orc := [false, false, true, false]) (fls := [[], [true]]) (res := [.inl (.int .i64 (0))]) (l := [(mayB (f ((p : Int).toNat + 0)), false), (pre (decide (0 < (cuN n p))), true), (pre (idxB 0 (cuN n p)), true), (decide ((0 : Int) < ((cuN n p) : Int)), true), (pre (decide (0 < (cuN n p))), true), (pre (decide (0 < (cuN n p))), true), (pre (idxB 0 (cuN n p)), true), (pre (decide (0 ≤ (p : Int) ∧ (p : Int) ≤ minZ ((p : Int) + 16) (n : Int) ∧ minZ ((p : Int) + 16) (n : Int) ≤ (n : Int))), true), (pre (inI ((p : Int) + 16)), true), (decide ((p : Int) ≥ (n : Int)), false), (decide ((p : Int) < 0), false)]) (tr := []) (by kernel_rfl) ?_ Try.func7 w vals hG ha (fun t ht => by cases ht)
    simp only [Int.toNat_natCast, Nat.add_zero, hS, hQ]
    refine all_cons ?_ <| all_cons ?_ <| all_cons ?_ <| all_cons ?_ <| all_cons ?_ <| all_cons ?_ <| all_cons ?_ <| all_cons ?_ <| all_cons ?_ <| all_cons ?_ <| all_cons ?_ <| all_nil
    · assumption
    · exact ob_lt (by omega)
    · exact ob_idx (by omega)
    · exact ob_yes (by omega)
    · exact ob_lt (by omega)
    · exact ob_lt (by omega)
    · exact ob_idx (by omega)
    · exact cut_ok hp
    · exact ob_inI (by omega)
    · exact ob_no (by omega)
    · exact ob_no (by omega)
  case' true =>
    cases h1 : (resI (f p))
    case' false =>
      refine LRet.val (x := 0) (by simp [lenH, h0, h1]) ?_
      refine fn_ok (enL_ok gl) (fuel := 1000) (d := 30) (plan := []) (orc := [false, false, true, true, false]) (fls := [[], [true]]) (res := [.inl (.int .i64 (0))]) (l := [(resI (f ((p : Int).toNat + 0)), false), (pre (decide (0 < (cuN n p))), true), (pre (idxB 0 (cuN n p)), true), (mayB (f ((p : Int).toNat + 0)), true), (pre (decide (0 < (cuN n p))), true), (pre (idxB 0 (cuN n p)), true), (decide ((0 : Int) < ((cuN n p) : Int)), true), (pre (decide (0 < (cuN n p))), true), (pre (decide (0 < (cuN n p))), true), (pre (idxB 0 (cuN n p)), true), (pre (decide (0 ≤ (p : Int) ∧ (p : Int) ≤ minZ ((p : Int) + 16) (n : Int) ∧ minZ ((p : Int) + 16) (n : Int) ≤ (n : Int))), true), (pre (inI ((p : Int) + 16)), true), (decide ((p : Int) ≥ (n : Int)), false), (decide ((p : Int) < 0), false)]) (tr := []) (by kernel_rfl) ?_ Try.func7 w vals hG ha (fun t ht => by cases ht)
      simp only [Int.toNat_natCast, Nat.add_zero, hS, hQ]
      refine all_cons ?_ <| all_cons ?_ <| all_cons ?_ <| all_cons ?_ <| all_cons ?_ <| all_cons ?_ <| all_cons ?_ <| all_cons ?_ <| all_cons ?_ <| all_cons ?_ <| all_cons ?_ <| all_cons ?_ <| all_cons ?_ <| all_cons ?_ <| all_nil
      · assumption
      · exact ob_lt (by omega)
      · exact ob_idx (by omega)
      · assumption
      · exact ob_lt (by omega)
      · exact ob_idx (by omega)
      · exact ob_yes (by omega)
      · exact ob_lt (by omega)
      · exact ob_lt (by omega)
      · exact ob_idx (by omega)
      · exact cut_ok hp
      · exact ob_inI (by omega)
      · exact ob_no (by omega)
      · exact ob_no (by omega)
    case' true =>
      cases h2 : (keepI (f p).a (f p))
      case' false =>
        refine LRet.val (x := 0) (by simp [lenH, h0, h1, h2]) ?_
        refine fn_ok (enL_ok gl) (fuel := 1000) (d := 30) (plan := []) (orc := [false, false, true, true, true, true]) (fls := [[], [true]]) (res := [.inl (.int .i64 (0))]) (l := [(!(keepI (f ((p : Int).toNat + 0)).a (f ((p : Int).toNat + 0))), true), (true, true), (resI (f ((p : Int).toNat + 0)), true), (pre (decide (0 < (cuN n p))), true), (pre (idxB 0 (cuN n p)), true), (mayB (f ((p : Int).toNat + 0)), true), (pre (decide (0 < (cuN n p))), true), (pre (idxB 0 (cuN n p)), true), (decide ((0 : Int) < ((cuN n p) : Int)), true), (pre (decide (0 < (cuN n p))), true), (pre (decide (0 < (cuN n p))), true), (pre (idxB 0 (cuN n p)), true), (pre (decide (0 ≤ (p : Int) ∧ (p : Int) ≤ minZ ((p : Int) + 16) (n : Int) ∧ minZ ((p : Int) + 16) (n : Int) ≤ (n : Int))), true), (pre (inI ((p : Int) + 16)), true), (decide ((p : Int) ≥ (n : Int)), false), (decide ((p : Int) < 0), false)]) (tr := []) (by kernel_rfl) ?_ Try.func7 w vals hG ha (fun t ht => by cases ht)
        simp only [Int.toNat_natCast, Nat.add_zero, hS, hQ]
        refine all_cons ?_ <| all_cons ?_ <| all_cons ?_ <| all_cons ?_ <| all_cons ?_ <| all_cons ?_ <| all_cons ?_ <| all_cons ?_ <| all_cons ?_ <| all_cons ?_ <| all_cons ?_ <| all_cons ?_ <| all_cons ?_ <| all_cons ?_ <| all_cons ?_ <| all_cons ?_ <| all_nil
        · rw [h2]; rfl
        · exact rfl
        · assumption
        · exact ob_lt (by omega)
        · exact ob_idx (by omega)
        · assumption
        · exact ob_lt (by omega)
        · exact ob_idx (by omega)
        · exact ob_yes (by omega)
        · exact ob_lt (by omega)
        · exact ob_lt (by omega)
        · exact ob_idx (by omega)
        · exact cut_ok hp
        · exact ob_inI (by omega)
        · exact ob_no (by omega)
        · exact ob_no (by omega)
      case' true =>
        cases h3 : (decide (s < cuN n p))
        case' false =>
          refine LRet.val (x := 0) (by simp [lenH, h0, h1, h2, h3]) ?_
          refine fn_ok (enL_ok gl) (fuel := 1000) (d := 30) (plan := []) (orc := [false, false, true, true, true, false, false]) (fls := [[], [true]]) (res := [.inl (.int .i64 (0))]) (l := [(decide ((ksE (cuE n f p) (f ((p : Int).toNat + 0)).a 1) < ((cuN n p) : Int)), false), (pre (decide (0 < (cuN n p))), true), (pre (idxB 0 (cuN n p)), true), (pre (propB (isOIn (cuE n f p) ∧ (0 : Int) ≤ 1)), true), (!(keepI (f ((p : Int).toNat + 0)).a (f ((p : Int).toNat + 0))), false), (true, true), (resI (f ((p : Int).toNat + 0)), true), (pre (decide (0 < (cuN n p))), true), (pre (idxB 0 (cuN n p)), true), (mayB (f ((p : Int).toNat + 0)), true), (pre (decide (0 < (cuN n p))), true), (pre (idxB 0 (cuN n p)), true), (decide ((0 : Int) < ((cuN n p) : Int)), true), (pre (decide (0 < (cuN n p))), true), (pre (decide (0 < (cuN n p))), true), (pre (idxB 0 (cuN n p)), true), (pre (decide (0 ≤ (p : Int) ∧ (p : Int) ≤ minZ ((p : Int) + 16) (n : Int) ∧ minZ ((p : Int) + 16) (n : Int) ≤ (n : Int))), true), (pre (inI ((p : Int) + 16)), true), (decide ((p : Int) ≥ (n : Int)), false), (decide ((p : Int) < 0), false)]) (tr := []) (by kernel_rfl) ?_ Try.func7 w vals hG ha (fun t ht => by cases ht)
          simp only [Int.toNat_natCast, Nat.add_zero, hS, hQ]
          refine all_cons ?_ <| all_cons ?_ <| all_cons ?_ <| all_cons ?_ <| all_cons ?_ <| all_cons ?_ <| all_cons ?_ <| all_cons ?_ <| all_cons ?_ <| all_cons ?_ <| all_cons ?_ <| all_cons ?_ <| all_cons ?_ <| all_cons ?_ <| all_cons ?_ <| all_cons ?_ <| all_cons ?_ <| all_cons ?_ <| all_cons ?_ <| all_cons ?_ <| all_nil
          · exact ob_dec h3
          · exact ob_lt (by omega)
          · exact ob_idx (by omega)
          · exact propB_ok.mpr ⟨cuE_isO n f p hn hp, by decide⟩
          · rw [h2]; rfl
          · exact rfl
          · assumption
          · exact ob_lt (by omega)
          · exact ob_idx (by omega)
          · assumption
          · exact ob_lt (by omega)
          · exact ob_idx (by omega)
          · exact ob_yes (by omega)
          · exact ob_lt (by omega)
          · exact ob_lt (by omega)
          · exact ob_idx (by omega)
          · exact cut_ok hp
          · exact ob_inI (by omega)
          · exact ob_no (by omega)
          · exact ob_no (by omega)
        case' true =>
          have h3' := of_decide_eq_true h3
          cases h4 : (mayB (f (p + s)))
          case' false =>
            refine LRet.val (x := 0) (by simp [lenH, h0, h1, h2, h3, h4]) ?_
            refine fn_ok (enL_ok gl) (fuel := 1000) (d := 30) (plan := []) (orc := [false, false, true, true, true, false, true, false]) (fls := [[], [true]]) (res := [.inl (.int .i64 (0))]) (l := [(mayB (f ((p : Int).toNat + (ksE (cuE n f p) (f ((p : Int).toNat + 0)).a 1).toNat)), false), (pre (decide ((ksE (cuE n f p) (f ((p : Int).toNat + 0)).a 1).toNat < (cuN n p))), true), (pre (idxB (ksE (cuE n f p) (f ((p : Int).toNat + 0)).a 1) (cuN n p)), true), (decide ((ksE (cuE n f p) (f ((p : Int).toNat + 0)).a 1) < ((cuN n p) : Int)), true), (pre (decide (0 < (cuN n p))), true), (pre (idxB 0 (cuN n p)), true), (pre (propB (isOIn (cuE n f p) ∧ (0 : Int) ≤ 1)), true), (!(keepI (f ((p : Int).toNat + 0)).a (f ((p : Int).toNat + 0))), false), (true, true), (resI (f ((p : Int).toNat + 0)), true), (pre (decide (0 < (cuN n p))), true), (pre (idxB 0 (cuN n p)), true), (mayB (f ((p : Int).toNat + 0)), true), (pre (decide (0 < (cuN n p))), true), (pre (idxB 0 (cuN n p)), true), (decide ((0 : Int) < ((cuN n p) : Int)), true), (pre (decide (0 < (cuN n p))), true), (pre (decide (0 < (cuN n p))), true), (pre (idxB 0 (cuN n p)), true), (pre (decide (0 ≤ (p : Int) ∧ (p : Int) ≤ minZ ((p : Int) + 16) (n : Int) ∧ minZ ((p : Int) + 16) (n : Int) ≤ (n : Int))), true), (pre (inI ((p : Int) + 16)), true), (decide ((p : Int) ≥ (n : Int)), false), (decide ((p : Int) < 0), false)]) (tr := []) (by kernel_rfl) ?_ Try.func7 w vals hG ha (fun t ht => by cases ht)
            simp only [Int.toNat_natCast, Nat.add_zero, hS, hQ]
            refine all_cons ?_ <| all_cons ?_ <| all_cons ?_ <| all_cons ?_ <| all_cons ?_ <| all_cons ?_ <| all_cons ?_ <| all_cons ?_ <| all_cons ?_ <| all_cons ?_ <| all_cons ?_ <| all_cons ?_ <| all_cons ?_ <| all_cons ?_ <| all_cons ?_ <| all_cons ?_ <| all_cons ?_ <| all_cons ?_ <| all_cons ?_ <| all_cons ?_ <| all_cons ?_ <| all_cons ?_ <| all_cons ?_ <| all_nil
            · assumption
            · exact ob_lt (by omega)
            · exact ob_idx (by omega)
            · exact ob_dec h3
            · exact ob_lt (by omega)
            · exact ob_idx (by omega)
            · exact propB_ok.mpr ⟨cuE_isO n f p hn hp, by decide⟩
            · rw [h2]; rfl
            · exact rfl
            · assumption
            · exact ob_lt (by omega)
            · exact ob_idx (by omega)
            · assumption
            · exact ob_lt (by omega)
            · exact ob_idx (by omega)
            · exact ob_yes (by omega)
            · exact ob_lt (by omega)
            · exact ob_lt (by omega)
            · exact ob_idx (by omega)
            · exact cut_ok hp
            · exact ob_inI (by omega)
            · exact ob_no (by omega)
            · exact ob_no (by omega)
          case' true =>
            cases h5 : (conI (f (p + s)))
            case' false =>
              refine LRet.val (x := 0) (by simp [lenH, h0, h1, h2, h3, h4, h5]) ?_
              refine fn_ok (enL_ok gl) (fuel := 1000) (d := 30) (plan := []) (orc := [false, false, true, true, true, false, true, true, false]) (fls := [[], [true]]) (res := [.inl (.int .i64 (0))]) (l := [(conI (f ((p : Int).toNat + (ksE (cuE n f p) (f ((p : Int).toNat + 0)).a 1).toNat)), false), (pre (decide ((ksE (cuE n f p) (f ((p : Int).toNat + 0)).a 1).toNat < (cuN n p))), true), (pre (idxB (ksE (cuE n f p) (f ((p : Int).toNat + 0)).a 1) (cuN n p)), true), (mayB (f ((p : Int).toNat + (ksE (cuE n f p) (f ((p : Int).toNat + 0)).a 1).toNat)), true), (pre (decide ((ksE (cuE n f p) (f ((p : Int).toNat + 0)).a 1).toNat < (cuN n p))), true), (pre (idxB (ksE (cuE n f p) (f ((p : Int).toNat + 0)).a 1) (cuN n p)), true), (decide ((ksE (cuE n f p) (f ((p : Int).toNat + 0)).a 1) < ((cuN n p) : Int)), true), (pre (decide (0 < (cuN n p))), true), (pre (idxB 0 (cuN n p)), true), (pre (propB (isOIn (cuE n f p) ∧ (0 : Int) ≤ 1)), true), (!(keepI (f ((p : Int).toNat + 0)).a (f ((p : Int).toNat + 0))), false), (true, true), (resI (f ((p : Int).toNat + 0)), true), (pre (decide (0 < (cuN n p))), true), (pre (idxB 0 (cuN n p)), true), (mayB (f ((p : Int).toNat + 0)), true), (pre (decide (0 < (cuN n p))), true), (pre (idxB 0 (cuN n p)), true), (decide ((0 : Int) < ((cuN n p) : Int)), true), (pre (decide (0 < (cuN n p))), true), (pre (decide (0 < (cuN n p))), true), (pre (idxB 0 (cuN n p)), true), (pre (decide (0 ≤ (p : Int) ∧ (p : Int) ≤ minZ ((p : Int) + 16) (n : Int) ∧ minZ ((p : Int) + 16) (n : Int) ≤ (n : Int))), true), (pre (inI ((p : Int) + 16)), true), (decide ((p : Int) ≥ (n : Int)), false), (decide ((p : Int) < 0), false)]) (tr := []) (by kernel_rfl) ?_ Try.func7 w vals hG ha (fun t ht => by cases ht)
              simp only [Int.toNat_natCast, Nat.add_zero, hS, hQ]
              refine all_cons ?_ <| all_cons ?_ <| all_cons ?_ <| all_cons ?_ <| all_cons ?_ <| all_cons ?_ <| all_cons ?_ <| all_cons ?_ <| all_cons ?_ <| all_cons ?_ <| all_cons ?_ <| all_cons ?_ <| all_cons ?_ <| all_cons ?_ <| all_cons ?_ <| all_cons ?_ <| all_cons ?_ <| all_cons ?_ <| all_cons ?_ <| all_cons ?_ <| all_cons ?_ <| all_cons ?_ <| all_cons ?_ <| all_cons ?_ <| all_cons ?_ <| all_cons ?_ <| all_nil
              · assumption
              · exact ob_lt (by omega)
              · exact ob_idx (by omega)
              · assumption
              · exact ob_lt (by omega)
              · exact ob_idx (by omega)
              · exact ob_dec h3
              · exact ob_lt (by omega)
              · exact ob_idx (by omega)
              · exact propB_ok.mpr ⟨cuE_isO n f p hn hp, by decide⟩
              · rw [h2]; rfl
              · exact rfl
              · assumption
              · exact ob_lt (by omega)
              · exact ob_idx (by omega)
              · assumption
              · exact ob_lt (by omega)
              · exact ob_idx (by omega)
              · exact ob_yes (by omega)
              · exact ob_lt (by omega)
              · exact ob_lt (by omega)
              · exact ob_idx (by omega)
              · exact cut_ok hp
              · exact ob_inI (by omega)
              · exact ob_no (by omega)
              · exact ob_no (by omega)
            case' true =>
              cases h6 : (wideB (f (p + s)).op == wideB (f p).op)
              case' false =>
                refine LRet.val (x := 0) (by simp [lenH, h0, h1, h2, h3, h4, h5, h6]) ?_
                refine fn_ok (enL_ok gl) (fuel := 1000) (d := 30) (plan := []) (orc := [false, false, true, true, true, false, true, true, true, false]) (fls := [[], [true]]) (res := [.inl (.int .i64 (0))]) (l := [(wideB (f ((p : Int).toNat + (ksE (cuE n f p) (f ((p : Int).toNat + 0)).a 1).toNat)).op == wideB (f ((p : Int).toNat + 0)).op, false), (conI (f ((p : Int).toNat + (ksE (cuE n f p) (f ((p : Int).toNat + 0)).a 1).toNat)), true), (pre (decide ((ksE (cuE n f p) (f ((p : Int).toNat + 0)).a 1).toNat < (cuN n p))), true), (pre (idxB (ksE (cuE n f p) (f ((p : Int).toNat + 0)).a 1) (cuN n p)), true), (mayB (f ((p : Int).toNat + (ksE (cuE n f p) (f ((p : Int).toNat + 0)).a 1).toNat)), true), (pre (decide ((ksE (cuE n f p) (f ((p : Int).toNat + 0)).a 1).toNat < (cuN n p))), true), (pre (idxB (ksE (cuE n f p) (f ((p : Int).toNat + 0)).a 1) (cuN n p)), true), (decide ((ksE (cuE n f p) (f ((p : Int).toNat + 0)).a 1) < ((cuN n p) : Int)), true), (pre (decide (0 < (cuN n p))), true), (pre (idxB 0 (cuN n p)), true), (pre (propB (isOIn (cuE n f p) ∧ (0 : Int) ≤ 1)), true), (!(keepI (f ((p : Int).toNat + 0)).a (f ((p : Int).toNat + 0))), false), (true, true), (resI (f ((p : Int).toNat + 0)), true), (pre (decide (0 < (cuN n p))), true), (pre (idxB 0 (cuN n p)), true), (mayB (f ((p : Int).toNat + 0)), true), (pre (decide (0 < (cuN n p))), true), (pre (idxB 0 (cuN n p)), true), (decide ((0 : Int) < ((cuN n p) : Int)), true), (pre (decide (0 < (cuN n p))), true), (pre (decide (0 < (cuN n p))), true), (pre (idxB 0 (cuN n p)), true), (pre (decide (0 ≤ (p : Int) ∧ (p : Int) ≤ minZ ((p : Int) + 16) (n : Int) ∧ minZ ((p : Int) + 16) (n : Int) ≤ (n : Int))), true), (pre (inI ((p : Int) + 16)), true), (decide ((p : Int) ≥ (n : Int)), false), (decide ((p : Int) < 0), false)]) (tr := []) (by kernel_rfl) ?_ Try.func7 w vals hG ha (fun t ht => by cases ht)
                simp only [Int.toNat_natCast, Nat.add_zero, hS, hQ]
                refine all_cons ?_ <| all_cons ?_ <| all_cons ?_ <| all_cons ?_ <| all_cons ?_ <| all_cons ?_ <| all_cons ?_ <| all_cons ?_ <| all_cons ?_ <| all_cons ?_ <| all_cons ?_ <| all_cons ?_ <| all_cons ?_ <| all_cons ?_ <| all_cons ?_ <| all_cons ?_ <| all_cons ?_ <| all_cons ?_ <| all_cons ?_ <| all_cons ?_ <| all_cons ?_ <| all_cons ?_ <| all_cons ?_ <| all_cons ?_ <| all_cons ?_ <| all_cons ?_ <| all_cons ?_ <| all_nil
                · assumption
                · assumption
                · exact ob_lt (by omega)
                · exact ob_idx (by omega)
                · assumption
                · exact ob_lt (by omega)
                · exact ob_idx (by omega)
                · exact ob_dec h3
                · exact ob_lt (by omega)
                · exact ob_idx (by omega)
                · exact propB_ok.mpr ⟨cuE_isO n f p hn hp, by decide⟩
                · rw [h2]; rfl
                · exact rfl
                · assumption
                · exact ob_lt (by omega)
                · exact ob_idx (by omega)
                · assumption
                · exact ob_lt (by omega)
                · exact ob_idx (by omega)
                · exact ob_yes (by omega)
                · exact ob_lt (by omega)
                · exact ob_lt (by omega)
                · exact ob_idx (by omega)
                · exact cut_ok hp
                · exact ob_inI (by omega)
                · exact ob_no (by omega)
                · exact ob_no (by omega)
              case' true =>
                cases h7 : ((f (p + s)).a == (f p).a)
                case' false =>
                  refine LRet.val (x := 0) (by simp [lenH, h0, h1, h2, h3, h4, h5, h6, h7]) ?_
                  refine fn_ok (enL_ok gl) (fuel := 1000) (d := 30) (plan := []) (orc := [false, false, true, true, true, false, true, true, true, true, true]) (fls := [[], [true]]) (res := [.inl (.int .i64 (0))]) (l := [(!((f ((p : Int).toNat + (ksE (cuE n f p) (f ((p : Int).toNat + 0)).a 1).toNat)).a == (f ((p : Int).toNat + 0)).a), true), (wideB (f ((p : Int).toNat + (ksE (cuE n f p) (f ((p : Int).toNat + 0)).a 1).toNat)).op == wideB (f ((p : Int).toNat + 0)).op, true), (conI (f ((p : Int).toNat + (ksE (cuE n f p) (f ((p : Int).toNat + 0)).a 1).toNat)), true), (pre (decide ((ksE (cuE n f p) (f ((p : Int).toNat + 0)).a 1).toNat < (cuN n p))), true), (pre (idxB (ksE (cuE n f p) (f ((p : Int).toNat + 0)).a 1) (cuN n p)), true), (mayB (f ((p : Int).toNat + (ksE (cuE n f p) (f ((p : Int).toNat + 0)).a 1).toNat)), true), (pre (decide ((ksE (cuE n f p) (f ((p : Int).toNat + 0)).a 1).toNat < (cuN n p))), true), (pre (idxB (ksE (cuE n f p) (f ((p : Int).toNat + 0)).a 1) (cuN n p)), true), (decide ((ksE (cuE n f p) (f ((p : Int).toNat + 0)).a 1) < ((cuN n p) : Int)), true), (pre (decide (0 < (cuN n p))), true), (pre (idxB 0 (cuN n p)), true), (pre (propB (isOIn (cuE n f p) ∧ (0 : Int) ≤ 1)), true), (!(keepI (f ((p : Int).toNat + 0)).a (f ((p : Int).toNat + 0))), false), (true, true), (resI (f ((p : Int).toNat + 0)), true), (pre (decide (0 < (cuN n p))), true), (pre (idxB 0 (cuN n p)), true), (mayB (f ((p : Int).toNat + 0)), true), (pre (decide (0 < (cuN n p))), true), (pre (idxB 0 (cuN n p)), true), (decide ((0 : Int) < ((cuN n p) : Int)), true), (pre (decide (0 < (cuN n p))), true), (pre (decide (0 < (cuN n p))), true), (pre (idxB 0 (cuN n p)), true), (pre (decide (0 ≤ (p : Int) ∧ (p : Int) ≤ minZ ((p : Int) + 16) (n : Int) ∧ minZ ((p : Int) + 16) (n : Int) ≤ (n : Int))), true), (pre (inI ((p : Int) + 16)), true), (decide ((p : Int) ≥ (n : Int)), false), (decide ((p : Int) < 0), false)]) (tr := []) (by kernel_rfl) ?_ Try.func7 w vals hG ha (fun t ht => by cases ht)
                  simp only [Int.toNat_natCast, Nat.add_zero, hS, hQ]
                  refine all_cons ?_ <| all_cons ?_ <| all_cons ?_ <| all_cons ?_ <| all_cons ?_ <| all_cons ?_ <| all_cons ?_ <| all_cons ?_ <| all_cons ?_ <| all_cons ?_ <| all_cons ?_ <| all_cons ?_ <| all_cons ?_ <| all_cons ?_ <| all_cons ?_ <| all_cons ?_ <| all_cons ?_ <| all_cons ?_ <| all_cons ?_ <| all_cons ?_ <| all_cons ?_ <| all_cons ?_ <| all_cons ?_ <| all_cons ?_ <| all_cons ?_ <| all_cons ?_ <| all_cons ?_ <| all_cons ?_ <| all_nil
                  · rw [h7]; rfl
                  · assumption
                  · assumption
                  · exact ob_lt (by omega)
                  · exact ob_idx (by omega)
                  · assumption
                  · exact ob_lt (by omega)
                  · exact ob_idx (by omega)
                  · exact ob_dec h3
                  · exact ob_lt (by omega)
                  · exact ob_idx (by omega)
                  · exact propB_ok.mpr ⟨cuE_isO n f p hn hp, by decide⟩
                  · rw [h2]; rfl
                  · exact rfl
                  · assumption
                  · exact ob_lt (by omega)
                  · exact ob_idx (by omega)
                  · assumption
                  · exact ob_lt (by omega)
                  · exact ob_idx (by omega)
                  · exact ob_yes (by omega)
                  · exact ob_lt (by omega)
                  · exact ob_lt (by omega)
                  · exact ob_idx (by omega)
                  · exact cut_ok hp
                  · exact ob_inI (by omega)
                  · exact ob_no (by omega)
                  · exact ob_no (by omega)
                case' true =>
                  cases h8 : (decide (q < cuN n p))
                  case' false =>
                    refine LRet.val (x := 0) (by simp [lenH, h0, h1, h2, h3, h4, h5, h6, h7, h8]) ?_
                    refine fn_ok (enL_ok gl) (fuel := 1000) (d := 30) (plan := []) (orc := [false, false, true, true, true, false, true, true, true, true, false, false]) (fls := [[], [true]]) (res := [.inl (.int .i64 (0))]) (l := [(decide ((psE (cuE n f p) ((ksE (cuE n f p) (f ((p : Int).toNat + 0)).a 1) + 1).toNat) < ((cuN n p) : Int)), false), (pre (inI (-4 * (psE (cuE n f p) ((ksE (cuE n f p) (f ((p : Int).toNat + 0)).a 1) + 1).toNat))), true), (pre (propB (isOIn (cuE n f p) ∧ 0 ≤ (ksE (cuE n f p) (f ((p : Int).toNat + 0)).a 1) + 1)), true), (pre (inI ((ksE (cuE n f p) (f ((p : Int).toNat + 0)).a 1) + 1)), true), (!((f ((p : Int).toNat + (ksE (cuE n f p) (f ((p : Int).toNat + 0)).a 1).toNat)).a == (f ((p : Int).toNat + 0)).a), false), (wideB (f ((p : Int).toNat + (ksE (cuE n f p) (f ((p : Int).toNat + 0)).a 1).toNat)).op == wideB (f ((p : Int).toNat + 0)).op, true), (conI (f ((p : Int).toNat + (ksE (cuE n f p) (f ((p : Int).toNat + 0)).a 1).toNat)), true), (pre (decide ((ksE (cuE n f p) (f ((p : Int).toNat + 0)).a 1).toNat < (cuN n p))), true), (pre (idxB (ksE (cuE n f p) (f ((p : Int).toNat + 0)).a 1) (cuN n p)), true), (mayB (f ((p : Int).toNat + (ksE (cuE n f p) (f ((p : Int).toNat + 0)).a 1).toNat)), true), (pre (decide ((ksE (cuE n f p) (f ((p : Int).toNat + 0)).a 1).toNat < (cuN n p))), true), (pre (idxB (ksE (cuE n f p) (f ((p : Int).toNat + 0)).a 1) (cuN n p)), true), (decide ((ksE (cuE n f p) (f ((p : Int).toNat + 0)).a 1) < ((cuN n p) : Int)), true), (pre (decide (0 < (cuN n p))), true), (pre (idxB 0 (cuN n p)), true), (pre (propB (isOIn (cuE n f p) ∧ (0 : Int) ≤ 1)), true), (!(keepI (f ((p : Int).toNat + 0)).a (f ((p : Int).toNat + 0))), false), (true, true), (resI (f ((p : Int).toNat + 0)), true), (pre (decide (0 < (cuN n p))), true), (pre (idxB 0 (cuN n p)), true), (mayB (f ((p : Int).toNat + 0)), true), (pre (decide (0 < (cuN n p))), true), (pre (idxB 0 (cuN n p)), true), (decide ((0 : Int) < ((cuN n p) : Int)), true), (pre (decide (0 < (cuN n p))), true), (pre (decide (0 < (cuN n p))), true), (pre (idxB 0 (cuN n p)), true), (pre (decide (0 ≤ (p : Int) ∧ (p : Int) ≤ minZ ((p : Int) + 16) (n : Int) ∧ minZ ((p : Int) + 16) (n : Int) ≤ (n : Int))), true), (pre (inI ((p : Int) + 16)), true), (decide ((p : Int) ≥ (n : Int)), false), (decide ((p : Int) < 0), false)]) (tr := []) (by kernel_rfl) ?_ Try.func7 w vals hG ha (fun t ht => by cases ht)
                    simp only [Int.toNat_natCast, Nat.add_zero, hS, hQ]
                    refine all_cons ?_ <| all_cons ?_ <| all_cons ?_ <| all_cons ?_ <| all_cons ?_ <| all_cons ?_ <| all_cons ?_ <| all_cons ?_ <| all_cons ?_ <| all_cons ?_ <| all_cons ?_ <| all_cons ?_ <| all_cons ?_ <| all_cons ?_ <| all_cons ?_ <| all_cons ?_ <| all_cons ?_ <| all_cons ?_ <| all_cons ?_ <| all_cons ?_ <| all_cons ?_ <| all_cons ?_ <| all_cons ?_ <| all_cons ?_ <| all_cons ?_ <| all_cons ?_ <| all_cons ?_ <| all_cons ?_ <| all_cons ?_ <| all_cons ?_ <| all_cons ?_ <| all_cons ?_ <| all_nil
                    · exact ob_dec h8
                    · exact ob_inI (by omega)
                    · exact propB_ok.mpr ⟨cuE_isO n f p hn hp, by omega⟩
                    · exact ob_inI (by omega)
                    · rw [h7]; rfl
                    · assumption
                    · assumption
                    · exact ob_lt (by omega)
                    · exact ob_idx (by omega)
                    · assumption
                    · exact ob_lt (by omega)
                    · exact ob_idx (by omega)
                    · exact ob_dec h3
                    · exact ob_lt (by omega)
                    · exact ob_idx (by omega)
                    · exact propB_ok.mpr ⟨cuE_isO n f p hn hp, by decide⟩
                    · rw [h2]; rfl
                    · exact rfl
                    · assumption
                    · exact ob_lt (by omega)
                    · exact ob_idx (by omega)
                    · assumption
                    · exact ob_lt (by omega)
                    · exact ob_idx (by omega)
                    · exact ob_yes (by omega)
                    · exact ob_lt (by omega)
                    · exact ob_lt (by omega)
                    · exact ob_idx (by omega)
                    · exact cut_ok hp
                    · exact ob_inI (by omega)
                    · exact ob_no (by omega)
                    · exact ob_no (by omega)
                  case' true =>
                    have h8' := of_decide_eq_true h8
                    cases h9 : (mayB (f (p + q)))
                    case' false =>
                      refine LRet.val (x := 0) (by simp [lenH, h0, h1, h2, h3, h4, h5, h6, h7, h8, h9]) ?_
                      refine fn_ok (enL_ok gl) (fuel := 1000) (d := 30) (plan := []) (orc := [false, false, true, true, true, false, true, true, true, true, false, true, false]) (fls := [[], [true]]) (res := [.inl (.int .i64 (0))]) (l := [(mayB (f ((p : Int).toNat + (psE (cuE n f p) ((ksE (cuE n f p) (f ((p : Int).toNat + 0)).a 1) + 1).toNat).toNat)), false), (pre (decide ((psE (cuE n f p) ((ksE (cuE n f p) (f ((p : Int).toNat + 0)).a 1) + 1).toNat).toNat < (cuN n p))), true), (pre (idxB (psE (cuE n f p) ((ksE (cuE n f p) (f ((p : Int).toNat + 0)).a 1) + 1).toNat) (cuN n p)), true), (decide ((psE (cuE n f p) ((ksE (cuE n f p) (f ((p : Int).toNat + 0)).a 1) + 1).toNat) < ((cuN n p) : Int)), true), (pre (inI (-4 * (psE (cuE n f p) ((ksE (cuE n f p) (f ((p : Int).toNat + 0)).a 1) + 1).toNat))), true), (pre (propB (isOIn (cuE n f p) ∧ 0 ≤ (ksE (cuE n f p) (f ((p : Int).toNat + 0)).a 1) + 1)), true), (pre (inI ((ksE (cuE n f p) (f ((p : Int).toNat + 0)).a 1) + 1)), true), (!((f ((p : Int).toNat + (ksE (cuE n f p) (f ((p : Int).toNat + 0)).a 1).toNat)).a == (f ((p : Int).toNat + 0)).a), false), (wideB (f ((p : Int).toNat + (ksE (cuE n f p) (f ((p : Int).toNat + 0)).a 1).toNat)).op == wideB (f ((p : Int).toNat + 0)).op, true), (conI (f ((p : Int).toNat + (ksE (cuE n f p) (f ((p : Int).toNat + 0)).a 1).toNat)), true), (pre (decide ((ksE (cuE n f p) (f ((p : Int).toNat + 0)).a 1).toNat < (cuN n p))), true), (pre (idxB (ksE (cuE n f p) (f ((p : Int).toNat + 0)).a 1) (cuN n p)), true), (mayB (f ((p : Int).toNat + (ksE (cuE n f p) (f ((p : Int).toNat + 0)).a 1).toNat)), true), (pre (decide ((ksE (cuE n f p) (f ((p : Int).toNat + 0)).a 1).toNat < (cuN n p))), true), (pre (idxB (ksE (cuE n f p) (f ((p : Int).toNat + 0)).a 1) (cuN n p)), true), (decide ((ksE (cuE n f p) (f ((p : Int).toNat + 0)).a 1) < ((cuN n p) : Int)), true), (pre (decide (0 < (cuN n p))), true), (pre (idxB 0 (cuN n p)), true), (pre (propB (isOIn (cuE n f p) ∧ (0 : Int) ≤ 1)), true), (!(keepI (f ((p : Int).toNat + 0)).a (f ((p : Int).toNat + 0))), false), (true, true), (resI (f ((p : Int).toNat + 0)), true), (pre (decide (0 < (cuN n p))), true), (pre (idxB 0 (cuN n p)), true), (mayB (f ((p : Int).toNat + 0)), true), (pre (decide (0 < (cuN n p))), true), (pre (idxB 0 (cuN n p)), true), (decide ((0 : Int) < ((cuN n p) : Int)), true), (pre (decide (0 < (cuN n p))), true), (pre (decide (0 < (cuN n p))), true), (pre (idxB 0 (cuN n p)), true), (pre (decide (0 ≤ (p : Int) ∧ (p : Int) ≤ minZ ((p : Int) + 16) (n : Int) ∧ minZ ((p : Int) + 16) (n : Int) ≤ (n : Int))), true), (pre (inI ((p : Int) + 16)), true), (decide ((p : Int) ≥ (n : Int)), false), (decide ((p : Int) < 0), false)]) (tr := []) (by kernel_rfl) ?_ Try.func7 w vals hG ha (fun t ht => by cases ht)
                      simp only [Int.toNat_natCast, Nat.add_zero, hS, hQ]
                      refine all_cons ?_ <| all_cons ?_ <| all_cons ?_ <| all_cons ?_ <| all_cons ?_ <| all_cons ?_ <| all_cons ?_ <| all_cons ?_ <| all_cons ?_ <| all_cons ?_ <| all_cons ?_ <| all_cons ?_ <| all_cons ?_ <| all_cons ?_ <| all_cons ?_ <| all_cons ?_ <| all_cons ?_ <| all_cons ?_ <| all_cons ?_ <| all_cons ?_ <| all_cons ?_ <| all_cons ?_ <| all_cons ?_ <| all_cons ?_ <| all_cons ?_ <| all_cons ?_ <| all_cons ?_ <| all_cons ?_ <| all_cons ?_ <| all_cons ?_ <| all_cons ?_ <| all_cons ?_ <| all_cons ?_ <| all_cons ?_ <| all_cons ?_ <| all_nil
                      · assumption
                      · exact ob_lt (by omega)
                      · exact ob_idx (by omega)
                      · exact ob_dec h8
                      · exact ob_inI (by omega)
                      · exact propB_ok.mpr ⟨cuE_isO n f p hn hp, by omega⟩
                      · exact ob_inI (by omega)
                      · rw [h7]; rfl
                      · assumption
                      · assumption
                      · exact ob_lt (by omega)
                      · exact ob_idx (by omega)
                      · assumption
                      · exact ob_lt (by omega)
                      · exact ob_idx (by omega)
                      · exact ob_dec h3
                      · exact ob_lt (by omega)
                      · exact ob_idx (by omega)
                      · exact propB_ok.mpr ⟨cuE_isO n f p hn hp, by decide⟩
                      · rw [h2]; rfl
                      · exact rfl
                      · assumption
                      · exact ob_lt (by omega)
                      · exact ob_idx (by omega)
                      · assumption
                      · exact ob_lt (by omega)
                      · exact ob_idx (by omega)
                      · exact ob_yes (by omega)
                      · exact ob_lt (by omega)
                      · exact ob_lt (by omega)
                      · exact ob_idx (by omega)
                      · exact cut_ok hp
                      · exact ob_inI (by omega)
                      · exact ob_no (by omega)
                      · exact ob_no (by omega)
                    case' true =>
                      cases h10 : (leadI (f (p + q)))
                      case' false =>
                        refine LRet.val (x := 0) (by simp [lenH, h0, h1, h2, h3, h4, h5, h6, h7, h8, h9, h10]) ?_
                        refine fn_ok (enL_ok gl) (fuel := 1000) (d := 30) (plan := []) (orc := [false, false, true, true, true, false, true, true, true, true, false, true, true, false]) (fls := [[], [true]]) (res := [.inl (.int .i64 (0))]) (l := [(leadI (f ((p : Int).toNat + (psE (cuE n f p) ((ksE (cuE n f p) (f ((p : Int).toNat + 0)).a 1) + 1).toNat).toNat)), false), (pre (decide ((psE (cuE n f p) ((ksE (cuE n f p) (f ((p : Int).toNat + 0)).a 1) + 1).toNat).toNat < (cuN n p))), true), (pre (idxB (psE (cuE n f p) ((ksE (cuE n f p) (f ((p : Int).toNat + 0)).a 1) + 1).toNat) (cuN n p)), true), (mayB (f ((p : Int).toNat + (psE (cuE n f p) ((ksE (cuE n f p) (f ((p : Int).toNat + 0)).a 1) + 1).toNat).toNat)), true), (pre (decide ((psE (cuE n f p) ((ksE (cuE n f p) (f ((p : Int).toNat + 0)).a 1) + 1).toNat).toNat < (cuN n p))), true), (pre (idxB (psE (cuE n f p) ((ksE (cuE n f p) (f ((p : Int).toNat + 0)).a 1) + 1).toNat) (cuN n p)), true), (decide ((psE (cuE n f p) ((ksE (cuE n f p) (f ((p : Int).toNat + 0)).a 1) + 1).toNat) < ((cuN n p) : Int)), true), (pre (inI (-4 * (psE (cuE n f p) ((ksE (cuE n f p) (f ((p : Int).toNat + 0)).a 1) + 1).toNat))), true), (pre (propB (isOIn (cuE n f p) ∧ 0 ≤ (ksE (cuE n f p) (f ((p : Int).toNat + 0)).a 1) + 1)), true), (pre (inI ((ksE (cuE n f p) (f ((p : Int).toNat + 0)).a 1) + 1)), true), (!((f ((p : Int).toNat + (ksE (cuE n f p) (f ((p : Int).toNat + 0)).a 1).toNat)).a == (f ((p : Int).toNat + 0)).a), false), (wideB (f ((p : Int).toNat + (ksE (cuE n f p) (f ((p : Int).toNat + 0)).a 1).toNat)).op == wideB (f ((p : Int).toNat + 0)).op, true), (conI (f ((p : Int).toNat + (ksE (cuE n f p) (f ((p : Int).toNat + 0)).a 1).toNat)), true), (pre (decide ((ksE (cuE n f p) (f ((p : Int).toNat + 0)).a 1).toNat < (cuN n p))), true), (pre (idxB (ksE (cuE n f p) (f ((p : Int).toNat + 0)).a 1) (cuN n p)), true), (mayB (f ((p : Int).toNat + (ksE (cuE n f p) (f ((p : Int).toNat + 0)).a 1).toNat)), true), (pre (decide ((ksE (cuE n f p) (f ((p : Int).toNat + 0)).a 1).toNat < (cuN n p))), true), (pre (idxB (ksE (cuE n f p) (f ((p : Int).toNat + 0)).a 1) (cuN n p)), true), (decide ((ksE (cuE n f p) (f ((p : Int).toNat + 0)).a 1) < ((cuN n p) : Int)), true), (pre (decide (0 < (cuN n p))), true), (pre (idxB 0 (cuN n p)), true), (pre (propB (isOIn (cuE n f p) ∧ (0 : Int) ≤ 1)), true), (!(keepI (f ((p : Int).toNat + 0)).a (f ((p : Int).toNat + 0))), false), (true, true), (resI (f ((p : Int).toNat + 0)), true), (pre (decide (0 < (cuN n p))), true), (pre (idxB 0 (cuN n p)), true), (mayB (f ((p : Int).toNat + 0)), true), (pre (decide (0 < (cuN n p))), true), (pre (idxB 0 (cuN n p)), true), (decide ((0 : Int) < ((cuN n p) : Int)), true), (pre (decide (0 < (cuN n p))), true), (pre (decide (0 < (cuN n p))), true), (pre (idxB 0 (cuN n p)), true), (pre (decide (0 ≤ (p : Int) ∧ (p : Int) ≤ minZ ((p : Int) + 16) (n : Int) ∧ minZ ((p : Int) + 16) (n : Int) ≤ (n : Int))), true), (pre (inI ((p : Int) + 16)), true), (decide ((p : Int) ≥ (n : Int)), false), (decide ((p : Int) < 0), false)]) (tr := []) (by kernel_rfl) ?_ Try.func7 w vals hG ha (fun t ht => by cases ht)
                        simp only [Int.toNat_natCast, Nat.add_zero, hS, hQ]
                        refine all_cons ?_ <| all_cons ?_ <| all_cons ?_ <| all_cons ?_ <| all_cons ?_ <| all_cons ?_ <| all_cons ?_ <| all_cons ?_ <| all_cons ?_ <| all_cons ?_ <| all_cons ?_ <| all_cons ?_ <| all_cons ?_ <| all_cons ?_ <| all_cons ?_ <| all_cons ?_ <| all_cons ?_ <| all_cons ?_ <| all_cons ?_ <| all_cons ?_ <| all_cons ?_ <| all_cons ?_ <| all_cons ?_ <| all_cons ?_ <| all_cons ?_ <| all_cons ?_ <| all_cons ?_ <| all_cons ?_ <| all_cons ?_ <| all_cons ?_ <| all_cons ?_ <| all_cons ?_ <| all_cons ?_ <| all_cons ?_ <| all_cons ?_ <| all_cons ?_ <| all_cons ?_ <| all_cons ?_ <| all_nil
                        · assumption
                        · exact ob_lt (by omega)
                        · exact ob_idx (by omega)
                        · assumption
                        · exact ob_lt (by omega)
                        · exact ob_idx (by omega)
                        · exact ob_dec h8
                        · exact ob_inI (by omega)
                        · exact propB_ok.mpr ⟨cuE_isO n f p hn hp, by omega⟩
                        · exact ob_inI (by omega)
                        · rw [h7]; rfl
                        · assumption
                        · assumption
                        · exact ob_lt (by omega)
                        · exact ob_idx (by omega)
                        · assumption
                        · exact ob_lt (by omega)
                        · exact ob_idx (by omega)
                        · exact ob_dec h3
                        · exact ob_lt (by omega)
                        · exact ob_idx (by omega)
                        · exact propB_ok.mpr ⟨cuE_isO n f p hn hp, by decide⟩
                        · rw [h2]; rfl
                        · exact rfl
                        · assumption
                        · exact ob_lt (by omega)
                        · exact ob_idx (by omega)
                        · assumption
                        · exact ob_lt (by omega)
                        · exact ob_idx (by omega)
                        · exact ob_yes (by omega)
                        · exact ob_lt (by omega)
                        · exact ob_lt (by omega)
                        · exact ob_idx (by omega)
                        · exact cut_ok hp
                        · exact ob_inI (by omega)
                        · exact ob_no (by omega)
                        · exact ob_no (by omega)
                      case' true =>
                        cases h11 : ((f (p + q)).imm == -4 * (q : Int))
                        case' false =>
                          refine LRet.val (x := 0) (by simp [lenH, h0, h1, h2, h3, h4, h5, h6, h7, h8, h9, h10, h11]) ?_
                          refine fn_ok (enL_ok gl) (fuel := 1000) (d := 30) (plan := []) (orc := [false, false, true, true, true, false, true, true, true, true, false, true, true, true, true]) (fls := [[], [true]]) (res := [.inl (.int .i64 (0))]) (l := [(!((f ((p : Int).toNat + (psE (cuE n f p) ((ksE (cuE n f p) (f ((p : Int).toNat + 0)).a 1) + 1).toNat).toNat)).imm == -4 * (psE (cuE n f p) ((ksE (cuE n f p) (f ((p : Int).toNat + 0)).a 1) + 1).toNat)), true), (leadI (f ((p : Int).toNat + (psE (cuE n f p) ((ksE (cuE n f p) (f ((p : Int).toNat + 0)).a 1) + 1).toNat).toNat)), true), (pre (decide ((psE (cuE n f p) ((ksE (cuE n f p) (f ((p : Int).toNat + 0)).a 1) + 1).toNat).toNat < (cuN n p))), true), (pre (idxB (psE (cuE n f p) ((ksE (cuE n f p) (f ((p : Int).toNat + 0)).a 1) + 1).toNat) (cuN n p)), true), (mayB (f ((p : Int).toNat + (psE (cuE n f p) ((ksE (cuE n f p) (f ((p : Int).toNat + 0)).a 1) + 1).toNat).toNat)), true), (pre (decide ((psE (cuE n f p) ((ksE (cuE n f p) (f ((p : Int).toNat + 0)).a 1) + 1).toNat).toNat < (cuN n p))), true), (pre (idxB (psE (cuE n f p) ((ksE (cuE n f p) (f ((p : Int).toNat + 0)).a 1) + 1).toNat) (cuN n p)), true), (decide ((psE (cuE n f p) ((ksE (cuE n f p) (f ((p : Int).toNat + 0)).a 1) + 1).toNat) < ((cuN n p) : Int)), true), (pre (inI (-4 * (psE (cuE n f p) ((ksE (cuE n f p) (f ((p : Int).toNat + 0)).a 1) + 1).toNat))), true), (pre (propB (isOIn (cuE n f p) ∧ 0 ≤ (ksE (cuE n f p) (f ((p : Int).toNat + 0)).a 1) + 1)), true), (pre (inI ((ksE (cuE n f p) (f ((p : Int).toNat + 0)).a 1) + 1)), true), (!((f ((p : Int).toNat + (ksE (cuE n f p) (f ((p : Int).toNat + 0)).a 1).toNat)).a == (f ((p : Int).toNat + 0)).a), false), (wideB (f ((p : Int).toNat + (ksE (cuE n f p) (f ((p : Int).toNat + 0)).a 1).toNat)).op == wideB (f ((p : Int).toNat + 0)).op, true), (conI (f ((p : Int).toNat + (ksE (cuE n f p) (f ((p : Int).toNat + 0)).a 1).toNat)), true), (pre (decide ((ksE (cuE n f p) (f ((p : Int).toNat + 0)).a 1).toNat < (cuN n p))), true), (pre (idxB (ksE (cuE n f p) (f ((p : Int).toNat + 0)).a 1) (cuN n p)), true), (mayB (f ((p : Int).toNat + (ksE (cuE n f p) (f ((p : Int).toNat + 0)).a 1).toNat)), true), (pre (decide ((ksE (cuE n f p) (f ((p : Int).toNat + 0)).a 1).toNat < (cuN n p))), true), (pre (idxB (ksE (cuE n f p) (f ((p : Int).toNat + 0)).a 1) (cuN n p)), true), (decide ((ksE (cuE n f p) (f ((p : Int).toNat + 0)).a 1) < ((cuN n p) : Int)), true), (pre (decide (0 < (cuN n p))), true), (pre (idxB 0 (cuN n p)), true), (pre (propB (isOIn (cuE n f p) ∧ (0 : Int) ≤ 1)), true), (!(keepI (f ((p : Int).toNat + 0)).a (f ((p : Int).toNat + 0))), false), (true, true), (resI (f ((p : Int).toNat + 0)), true), (pre (decide (0 < (cuN n p))), true), (pre (idxB 0 (cuN n p)), true), (mayB (f ((p : Int).toNat + 0)), true), (pre (decide (0 < (cuN n p))), true), (pre (idxB 0 (cuN n p)), true), (decide ((0 : Int) < ((cuN n p) : Int)), true), (pre (decide (0 < (cuN n p))), true), (pre (decide (0 < (cuN n p))), true), (pre (idxB 0 (cuN n p)), true), (pre (decide (0 ≤ (p : Int) ∧ (p : Int) ≤ minZ ((p : Int) + 16) (n : Int) ∧ minZ ((p : Int) + 16) (n : Int) ≤ (n : Int))), true), (pre (inI ((p : Int) + 16)), true), (decide ((p : Int) ≥ (n : Int)), false), (decide ((p : Int) < 0), false)]) (tr := []) (by kernel_rfl) ?_ Try.func7 w vals hG ha (fun t ht => by cases ht)
                          simp only [Int.toNat_natCast, Nat.add_zero, hS, hQ]
                          refine all_cons ?_ <| all_cons ?_ <| all_cons ?_ <| all_cons ?_ <| all_cons ?_ <| all_cons ?_ <| all_cons ?_ <| all_cons ?_ <| all_cons ?_ <| all_cons ?_ <| all_cons ?_ <| all_cons ?_ <| all_cons ?_ <| all_cons ?_ <| all_cons ?_ <| all_cons ?_ <| all_cons ?_ <| all_cons ?_ <| all_cons ?_ <| all_cons ?_ <| all_cons ?_ <| all_cons ?_ <| all_cons ?_ <| all_cons ?_ <| all_cons ?_ <| all_cons ?_ <| all_cons ?_ <| all_cons ?_ <| all_cons ?_ <| all_cons ?_ <| all_cons ?_ <| all_cons ?_ <| all_cons ?_ <| all_cons ?_ <| all_cons ?_ <| all_cons ?_ <| all_cons ?_ <| all_cons ?_ <| all_cons ?_ <| all_nil
                          · rw [h11]; rfl
                          · assumption
                          · exact ob_lt (by omega)
                          · exact ob_idx (by omega)
                          · assumption
                          · exact ob_lt (by omega)
                          · exact ob_idx (by omega)
                          · exact ob_dec h8
                          · exact ob_inI (by omega)
                          · exact propB_ok.mpr ⟨cuE_isO n f p hn hp, by omega⟩
                          · exact ob_inI (by omega)
                          · rw [h7]; rfl
                          · assumption
                          · assumption
                          · exact ob_lt (by omega)
                          · exact ob_idx (by omega)
                          · assumption
                          · exact ob_lt (by omega)
                          · exact ob_idx (by omega)
                          · exact ob_dec h3
                          · exact ob_lt (by omega)
                          · exact ob_idx (by omega)
                          · exact propB_ok.mpr ⟨cuE_isO n f p hn hp, by decide⟩
                          · rw [h2]; rfl
                          · exact rfl
                          · assumption
                          · exact ob_lt (by omega)
                          · exact ob_idx (by omega)
                          · assumption
                          · exact ob_lt (by omega)
                          · exact ob_idx (by omega)
                          · exact ob_yes (by omega)
                          · exact ob_lt (by omega)
                          · exact ob_lt (by omega)
                          · exact ob_idx (by omega)
                          · exact cut_ok hp
                          · exact ob_inI (by omega)
                          · exact ob_no (by omega)
                          · exact ob_no (by omega)
                        case' true =>
                          refine LRet.val (x := (psE (cuE n f p) ((ksE (cuE n f p) (f ((p : Int).toNat + 0)).a 1) + 1).toNat) + 1) (by simp only [Int.toNat_natCast, Nat.add_zero, hS, hQ]; simp [lenH, h0, h1, h2, h3, h4, h5, h6, h7, h8, h9, h10, h11]) ?_
                          refine fn_ok (enL_ok gl) (fuel := 1000) (d := 30) (plan := []) (orc := [false, false, true, true, true, false, true, true, true, true, false, true, true, true, false]) (fls := [[], [true]]) (res := [.inl (.int .i64 ((psE (cuE n f p) ((ksE (cuE n f p) (f ((p : Int).toNat + 0)).a 1) + 1).toNat) + 1))]) (l := [(pre (inI ((psE (cuE n f p) ((ksE (cuE n f p) (f ((p : Int).toNat + 0)).a 1) + 1).toNat) + 1)), true), (!((f ((p : Int).toNat + (psE (cuE n f p) ((ksE (cuE n f p) (f ((p : Int).toNat + 0)).a 1) + 1).toNat).toNat)).imm == -4 * (psE (cuE n f p) ((ksE (cuE n f p) (f ((p : Int).toNat + 0)).a 1) + 1).toNat)), false), (leadI (f ((p : Int).toNat + (psE (cuE n f p) ((ksE (cuE n f p) (f ((p : Int).toNat + 0)).a 1) + 1).toNat).toNat)), true), (pre (decide ((psE (cuE n f p) ((ksE (cuE n f p) (f ((p : Int).toNat + 0)).a 1) + 1).toNat).toNat < (cuN n p))), true), (pre (idxB (psE (cuE n f p) ((ksE (cuE n f p) (f ((p : Int).toNat + 0)).a 1) + 1).toNat) (cuN n p)), true), (mayB (f ((p : Int).toNat + (psE (cuE n f p) ((ksE (cuE n f p) (f ((p : Int).toNat + 0)).a 1) + 1).toNat).toNat)), true), (pre (decide ((psE (cuE n f p) ((ksE (cuE n f p) (f ((p : Int).toNat + 0)).a 1) + 1).toNat).toNat < (cuN n p))), true), (pre (idxB (psE (cuE n f p) ((ksE (cuE n f p) (f ((p : Int).toNat + 0)).a 1) + 1).toNat) (cuN n p)), true), (decide ((psE (cuE n f p) ((ksE (cuE n f p) (f ((p : Int).toNat + 0)).a 1) + 1).toNat) < ((cuN n p) : Int)), true), (pre (inI (-4 * (psE (cuE n f p) ((ksE (cuE n f p) (f ((p : Int).toNat + 0)).a 1) + 1).toNat))), true), (pre (propB (isOIn (cuE n f p) ∧ 0 ≤ (ksE (cuE n f p) (f ((p : Int).toNat + 0)).a 1) + 1)), true), (pre (inI ((ksE (cuE n f p) (f ((p : Int).toNat + 0)).a 1) + 1)), true), (!((f ((p : Int).toNat + (ksE (cuE n f p) (f ((p : Int).toNat + 0)).a 1).toNat)).a == (f ((p : Int).toNat + 0)).a), false), (wideB (f ((p : Int).toNat + (ksE (cuE n f p) (f ((p : Int).toNat + 0)).a 1).toNat)).op == wideB (f ((p : Int).toNat + 0)).op, true), (conI (f ((p : Int).toNat + (ksE (cuE n f p) (f ((p : Int).toNat + 0)).a 1).toNat)), true), (pre (decide ((ksE (cuE n f p) (f ((p : Int).toNat + 0)).a 1).toNat < (cuN n p))), true), (pre (idxB (ksE (cuE n f p) (f ((p : Int).toNat + 0)).a 1) (cuN n p)), true), (mayB (f ((p : Int).toNat + (ksE (cuE n f p) (f ((p : Int).toNat + 0)).a 1).toNat)), true), (pre (decide ((ksE (cuE n f p) (f ((p : Int).toNat + 0)).a 1).toNat < (cuN n p))), true), (pre (idxB (ksE (cuE n f p) (f ((p : Int).toNat + 0)).a 1) (cuN n p)), true), (decide ((ksE (cuE n f p) (f ((p : Int).toNat + 0)).a 1) < ((cuN n p) : Int)), true), (pre (decide (0 < (cuN n p))), true), (pre (idxB 0 (cuN n p)), true), (pre (propB (isOIn (cuE n f p) ∧ (0 : Int) ≤ 1)), true), (!(keepI (f ((p : Int).toNat + 0)).a (f ((p : Int).toNat + 0))), false), (true, true), (resI (f ((p : Int).toNat + 0)), true), (pre (decide (0 < (cuN n p))), true), (pre (idxB 0 (cuN n p)), true), (mayB (f ((p : Int).toNat + 0)), true), (pre (decide (0 < (cuN n p))), true), (pre (idxB 0 (cuN n p)), true), (decide ((0 : Int) < ((cuN n p) : Int)), true), (pre (decide (0 < (cuN n p))), true), (pre (decide (0 < (cuN n p))), true), (pre (idxB 0 (cuN n p)), true), (pre (decide (0 ≤ (p : Int) ∧ (p : Int) ≤ minZ ((p : Int) + 16) (n : Int) ∧ minZ ((p : Int) + 16) (n : Int) ≤ (n : Int))), true), (pre (inI ((p : Int) + 16)), true), (decide ((p : Int) ≥ (n : Int)), false), (decide ((p : Int) < 0), false)]) (tr := []) (by kernel_rfl) ?_ Try.func7 w vals hG ha (fun t ht => by cases ht)
                          simp only [Int.toNat_natCast, Nat.add_zero, hS, hQ]
                          refine all_cons ?_ <| all_cons ?_ <| all_cons ?_ <| all_cons ?_ <| all_cons ?_ <| all_cons ?_ <| all_cons ?_ <| all_cons ?_ <| all_cons ?_ <| all_cons ?_ <| all_cons ?_ <| all_cons ?_ <| all_cons ?_ <| all_cons ?_ <| all_cons ?_ <| all_cons ?_ <| all_cons ?_ <| all_cons ?_ <| all_cons ?_ <| all_cons ?_ <| all_cons ?_ <| all_cons ?_ <| all_cons ?_ <| all_cons ?_ <| all_cons ?_ <| all_cons ?_ <| all_cons ?_ <| all_cons ?_ <| all_cons ?_ <| all_cons ?_ <| all_cons ?_ <| all_cons ?_ <| all_cons ?_ <| all_cons ?_ <| all_cons ?_ <| all_cons ?_ <| all_cons ?_ <| all_cons ?_ <| all_cons ?_ <| all_cons ?_ <| all_nil
                          · exact ob_inI (by omega)
                          · rw [h11]; rfl
                          · assumption
                          · exact ob_lt (by omega)
                          · exact ob_idx (by omega)
                          · assumption
                          · exact ob_lt (by omega)
                          · exact ob_idx (by omega)
                          · exact ob_dec h8
                          · exact ob_inI (by omega)
                          · exact propB_ok.mpr ⟨cuE_isO n f p hn hp, by omega⟩
                          · exact ob_inI (by omega)
                          · rw [h7]; rfl
                          · assumption
                          · assumption
                          · exact ob_lt (by omega)
                          · exact ob_idx (by omega)
                          · assumption
                          · exact ob_lt (by omega)
                          · exact ob_idx (by omega)
                          · exact ob_dec h3
                          · exact ob_lt (by omega)
                          · exact ob_idx (by omega)
                          · exact propB_ok.mpr ⟨cuE_isO n f p hn hp, by decide⟩
                          · rw [h2]; rfl
                          · exact rfl
                          · assumption
                          · exact ob_lt (by omega)
                          · exact ob_idx (by omega)
                          · assumption
                          · exact ob_lt (by omega)
                          · exact ob_idx (by omega)
                          · exact ob_yes (by omega)
                          · exact ob_lt (by omega)
                          · exact ob_lt (by omega)
                          · exact ob_idx (by omega)
                          · exact cut_ok hp
                          · exact ob_inI (by omega)
                          · exact ob_no (by omega)
                          · exact ob_no (by omega)
theorem length_ret {gl : Gl} (n : Nat) (f : Nat → In) (p : Int) (hn : n ≤ 1000000000000) (w : World) (vals : List Value) (hG : GlobOk gl w) (ha : ArgsOk w [.inr (insE n f), .inl (.int .i64 p)] vals) :
    LRet Try.prog 7 vals false [.inl (.int .i64 (lenE n f p))] w := by
  rw [lenE_eq]
  by_cases h0 : p < 0
  · rw [if_neg (by omega)]
    refine fn_ok (enL_ok gl) (fuel := 1000) (d := 30) (plan := []) (orc := [true]) (fls := [[], [true]]) (l := [(decide (p < 0), true)]) (tr := []) (by kernel_rfl) ?_ Try.func7 w vals hG ha (fun t ht => by cases ht)
    exact all_cons (ob_yes h0) all_nil
  · by_cases h1 : p < (n : Int)
    · obtain ⟨p, rfl⟩ := Int.eq_ofNat_of_zero_le (show 0 ≤ p by omega)
      rw [if_pos (by omega), Int.toNat_natCast]
      exact length_in n f p hn (by omega) w vals hG ha
    · rw [if_neg (by omega)]
      refine fn_ok (enL_ok gl) (fuel := 1000) (d := 30) (plan := []) (orc := [false, true]) (fls := [[], [true]]) (l := [(decide (p ≥ (n : Int)), true), (decide (p < 0), false)]) (tr := []) (by kernel_rfl) ?_ Try.func7 w vals hG ha (fun t ht => by cases ht)
      exact all_cons (ob_yes (by omega)) <| all_cons (ob_no h0) all_nil
noncomputable def lLen (n : Nat) (f : Nat → In) : LTab := lrow 7 fun args => match args with
  | [.inr e, .inl (.int .i64 p)] => some (false, [.inl (.int .i64 (lenE n f p))], pre (propB (isIn e n f)))
  | _ => none
theorem lLen_ok {gl : Gl} (n : Nat) (f : Nat → In) : LTabOk Try.prog gl (lLen n f) := .row fun args tup res h w vals hG ha => by
  split at h
  · rename_i e p
    simp only [Option.some.injEq, Prod.mk.injEq] at h
    obtain ⟨rfl, rfl, hp⟩ := h
    have he := propB_ok.mp hp
    match vals, ha with
    | [u, v], ha => exact length_ret n f p he.2.2.2 w [u, v] hG ⟨InB.ins ha.1 he, ha.2⟩
    | [], ha => exact ha.elim
    | [_], ha => exact ha.2.elim
    | _ :: _ :: _ :: _, ha => exact ha.2.2.elim
  · cases h
end Go.Proofs.Ytckgpcpcjhomiaa
