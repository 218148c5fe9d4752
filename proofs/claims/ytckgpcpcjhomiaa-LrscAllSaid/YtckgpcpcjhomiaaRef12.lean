/- Layer 12: the reference: loop, Length, All. -/
import Derived.Test.YtckgpcpcjhomiaaKnd12
import Derived.Test.YtckgpcpcjhomiaaS2I
import Derived.Test.YtckgpcpcjhomiaaInsE
namespace Go.Proofs.Ytckgpcpcjhomiaa
open Go.RowKit Sim S2
set_option linter.unusedVariables false
set_option linter.unusedSimpArgs false
def tabR : Tab := orT tRefMay <| orT tHasRd <| orT tReserves <| orT tCond <| orT tReckons tTurns
theorem tabR_ok {gl : Gl} : TabOk Try.prog gl tabR := tRefMay_ok.or (tHasRd_ok.or (tReserves_ok.or (tCond_ok.or (tReckons_ok.or tTurns_ok))))
noncomputable def enR (gl : Gl) : S2.Env := envk Try.prog gl true tabR noP noL
theorem enR_ok (gl : Gl) : CallOk (enR gl) := envk_ok (nw := true) tabR_ok (.none _ _) (.none _ _)
def lpP : List Nat := [0, 1, 0, 1]
noncomputable def lpC : Code := codeAt (codeOf Try.prog 20) (0 :: lpP)
def lpS (n : Nat) (f : Nat → In) (p c e i : Nat) : S2.St := { tmps := [(0, .c 0), (1, .inl ([true], .int .i64 p)), (2, .inl ([true], .int .i64 c)), (3, .inl ([true], .int .i64 e)), (9, .inl ([true], .int .i64 i))], own := ⟨[], [insE n f]⟩, lo := 0, llo := 0, mem := true, orc := [], obl := [] }
def lpQ : Pick := { ts := [0, 1, 2, 3, 9], bs := [], ls := [0], opn := [1, 2, 3, 9] }
def lpZ : Pick := { ts := [8], bs := [], ls := [] }
def lpF : S2.St := { tmps := [(8, .inl ([], .bool false))], own := ⟨[], []⟩, lo := 0, llo := 0, mem := true, orc := [], obl := [] }
/-- What the reference asks of the instruction at i. -/
def okR (f : Nat → In) (p c e i : Nat) : Bool :=
  bif !mayB (f i) then false else
  bif (i : Int) == (p : Int) then !(rdF (formZ (f i).op) && ((f i).rd != 0 && (f i).rd == (f p).a)) else
  bif decide ((i : Int) < (c : Int)) then !((rdF (formZ (f i).op) && ((f i).rd != 0 && (f i).rd == (f p).a)) || (!recR (f i) && !(turnR (f i) && decide ((f i).imm > 0)))) else
  bif (i : Int) == (c : Int) then !(!conI (f i) || ((f i).a != (f p).a || !(((f i).op == 67) == ((f p).op == 66)))) else
  bif decide ((i : Int) < (e : Int)) then !(!recR (f i) && !(turnR (f i) && decide ((f i).imm > 0))) else
  !(!turnR (f i) || (f i).imm != 4 * ((p : Int) - (e : Int)))
theorem lp_val {gl : Gl} {w : World} {n : Nat} {f : Nat → In} {p c e i : Nat} (b : Bool) (h : okR f p c e i = b) (hs : S2.Sem (enR gl) w 127 lpC (lpS n f p c e i) (bif b then none else some none) (bif b then lpS n f p c e (i + 1) else lpF)) : S2.Sem (enR gl) w 127 lpC (lpS n f p c e i) (bif okR f p c e i then none else some none) (bif okR f p c e i then lpS n f p c e (i + 1) else lpF) := by rw [h]; exact hs
set_option maxRecDepth 10000 in
theorem lp_round (gl : Gl) (n : Nat) (f : Nat → In) (p c e i : Nat) (hn : n ≤ 1000000000000) (hp : p ≤ i) (hi : i ≤ e) (he : e < n) (w : World) (hG : GlobOk gl w) : S2.Sem (enR gl) w 127 lpC (lpS n f p c e i) (bif okR f p c e i then none else some none) (bif okR f p c e i then lpS n f p c e (i + 1) else lpF) := by
  cases h1 : (rdF (formZ (f i).op))
  case' false =>
    cases h2 : (!mayB (f i))
    case' false =>
      cases h3 : ((i : Int) == (p : Int))
      case' false =>
        cases h4 : (decide ((i : Int) < (c : Int)))
        case' false =>
          cases h5 : ((i : Int) == (c : Int))
          case' false =>
            cases h6 : (decide ((i : Int) < (e : Int)))
            case' false =>
              cases h7 : (!turnR (f i))
              case' false =>
                cases h8 : ((f i).imm != 4 * ((p : Int) - (e : Int)))
                case' false =>
                  refine lp_val true (by (try simp only [bne, Bool.not_eq_true', Bool.not_eq_false', Bool.not_eq_true, Bool.not_eq_false] at h1 h2 h3 h4 h5 h6 h7 h8); simp only [okR, bne, h1, h2, h3, h4, h5, h6, h7, h8, Bool.not_true, Bool.not_false, cond_true, cond_false, Bool.true_and, Bool.false_and, Bool.and_true, Bool.and_false, Bool.or_true, Bool.true_or, Bool.or_false, Bool.false_or]) ?_
                  refine sem_iter (enR_ok gl) hG (p := lpQ) (fuel := 1000) [true, false, false, false, false, false, false, false, false] [(pre (inI ((i : Int) + 1)), true), ((f ((i : Int)).toNat).imm != 4 * ((p : Int) - (e : Int)), false), (pre (inI (4 * ((p : Int) - (e : Int)))), true), (pre (inI ((p : Int) - (e : Int))), true), (!turnR (f ((i : Int)).toNat), false), (decide ((i : Int) < (e : Int)), false), ((i : Int) == (c : Int), false), (decide ((i : Int) < (c : Int)), false), ((i : Int) == (p : Int), false), (!mayB (f ((i : Int)).toNat), false), (rdF (formZ (f ((i : Int)).toNat).op), false), (pre (decide (((i : Int)).toNat < n)), true), (pre (idxB ((i : Int)) n), true), (decide ((i : Int) ≤ (e : Int)), true)] (by kernel_rfl) (by kernel_rfl) ?_
                  try simp only [Int.toNat_natCast]
                  refine all_cons ?_ <| all_cons ?_ <| all_cons ?_ <| all_cons ?_ <| all_cons ?_ <| all_cons ?_ <| all_cons ?_ <| all_cons ?_ <| all_cons ?_ <| all_cons ?_ <| all_cons ?_ <| all_cons ?_ <| all_cons ?_ <| all_cons ?_ <| all_nil
                  · exact ob_inI (by omega)
                  · assumption
                  · exact ob_inI (by omega)
                  · exact ob_inI (by omega)
                  · assumption
                  · assumption
                  · assumption
                  · assumption
                  · assumption
                  · assumption
                  · assumption
                  · exact ob_lt (by omega)
                  · exact ob_idx (by omega)
                  · exact ob_yes (by omega)
                case' true =>
                  refine lp_val false (by (try simp only [bne, Bool.not_eq_true', Bool.not_eq_false', Bool.not_eq_true, Bool.not_eq_false] at h1 h2 h3 h4 h5 h6 h7 h8); simp only [okR, bne, h1, h2, h3, h4, h5, h6, h7, h8, Bool.not_true, Bool.not_false, cond_true, cond_false, Bool.true_and, Bool.false_and, Bool.and_true, Bool.and_false, Bool.or_true, Bool.true_or, Bool.or_false, Bool.false_or]) ?_
                  refine sem_iter (enR_ok gl) hG (p := lpZ) (fuel := 1000) [true, false, false, false, false, false, false, false, true] [((f ((i : Int)).toNat).imm != 4 * ((p : Int) - (e : Int)), true), (pre (inI (4 * ((p : Int) - (e : Int)))), true), (pre (inI ((p : Int) - (e : Int))), true), (!turnR (f ((i : Int)).toNat), false), (decide ((i : Int) < (e : Int)), false), ((i : Int) == (c : Int), false), (decide ((i : Int) < (c : Int)), false), ((i : Int) == (p : Int), false), (!mayB (f ((i : Int)).toNat), false), (rdF (formZ (f ((i : Int)).toNat).op), false), (pre (decide (((i : Int)).toNat < n)), true), (pre (idxB ((i : Int)) n), true), (decide ((i : Int) ≤ (e : Int)), true)] (by kernel_rfl) (by kernel_rfl) ?_
                  try simp only [Int.toNat_natCast]
                  refine all_cons ?_ <| all_cons ?_ <| all_cons ?_ <| all_cons ?_ <| all_cons ?_ <| all_cons ?_ <| all_cons ?_ <| all_cons ?_ <| all_cons ?_ <| all_cons ?_ <| all_cons ?_ <| all_cons ?_ <| all_cons ?_ <| all_nil
                  · assumption
                  · exact ob_inI (by omega)
                  · exact ob_inI (by omega)
                  · assumption
                  · assumption
                  · assumption
                  · assumption
                  · assumption
                  · assumption
                  · assumption
                  · exact ob_lt (by omega)
                  · exact ob_idx (by omega)
                  · exact ob_yes (by omega)
              case' true =>
                refine lp_val false (by (try simp only [bne, Bool.not_eq_true', Bool.not_eq_false', Bool.not_eq_true, Bool.not_eq_false] at h1 h2 h3 h4 h5 h6 h7); simp only [okR, bne, h1, h2, h3, h4, h5, h6, h7, Bool.not_true, Bool.not_false, cond_true, cond_false, Bool.true_and, Bool.false_and, Bool.and_true, Bool.and_false, Bool.or_true, Bool.true_or, Bool.or_false, Bool.false_or]) ?_
                refine sem_iter (enR_ok gl) hG (p := lpZ) (fuel := 1000) [true, false, false, false, false, false, false, true] [(!turnR (f ((i : Int)).toNat), true), (decide ((i : Int) < (e : Int)), false), ((i : Int) == (c : Int), false), (decide ((i : Int) < (c : Int)), false), ((i : Int) == (p : Int), false), (!mayB (f ((i : Int)).toNat), false), (rdF (formZ (f ((i : Int)).toNat).op), false), (pre (decide (((i : Int)).toNat < n)), true), (pre (idxB ((i : Int)) n), true), (decide ((i : Int) ≤ (e : Int)), true)] (by kernel_rfl) (by kernel_rfl) ?_
                try simp only [Int.toNat_natCast]
                refine all_cons ?_ <| all_cons ?_ <| all_cons ?_ <| all_cons ?_ <| all_cons ?_ <| all_cons ?_ <| all_cons ?_ <| all_cons ?_ <| all_cons ?_ <| all_cons ?_ <| all_nil
                · assumption
                · assumption
                · assumption
                · assumption
                · assumption
                · assumption
                · assumption
                · exact ob_lt (by omega)
                · exact ob_idx (by omega)
                · exact ob_yes (by omega)
            case' true =>
              cases h7 : (!recR (f i))
              case' false =>
                refine lp_val true (by (try simp only [bne, Bool.not_eq_true', Bool.not_eq_false', Bool.not_eq_true, Bool.not_eq_false] at h1 h2 h3 h4 h5 h6 h7); simp only [okR, bne, h1, h2, h3, h4, h5, h6, h7, Bool.not_true, Bool.not_false, cond_true, cond_false, Bool.true_and, Bool.false_and, Bool.and_true, Bool.and_false, Bool.or_true, Bool.true_or, Bool.or_false, Bool.false_or]) ?_
                refine sem_iter (enR_ok gl) hG (p := lpQ) (fuel := 1000) [true, false, false, false, false, false, true, false] [(pre (inI ((i : Int) + 1)), true), (!recR (f ((i : Int)).toNat), false), (decide ((i : Int) < (e : Int)), true), ((i : Int) == (c : Int), false), (decide ((i : Int) < (c : Int)), false), ((i : Int) == (p : Int), false), (!mayB (f ((i : Int)).toNat), false), (rdF (formZ (f ((i : Int)).toNat).op), false), (pre (decide (((i : Int)).toNat < n)), true), (pre (idxB ((i : Int)) n), true), (decide ((i : Int) ≤ (e : Int)), true)] (by kernel_rfl) (by kernel_rfl) ?_
                try simp only [Int.toNat_natCast]
                refine all_cons ?_ <| all_cons ?_ <| all_cons ?_ <| all_cons ?_ <| all_cons ?_ <| all_cons ?_ <| all_cons ?_ <| all_cons ?_ <| all_cons ?_ <| all_cons ?_ <| all_cons ?_ <| all_nil
                · exact ob_inI (by omega)
                · assumption
                · assumption
                · assumption
                · assumption
                · assumption
                · assumption
                · assumption
                · exact ob_lt (by omega)
                · exact ob_idx (by omega)
                · exact ob_yes (by omega)
              case' true =>
                cases h8 : (turnR (f i))
                case' false =>
                  refine lp_val false (by (try simp only [bne, Bool.not_eq_true', Bool.not_eq_false', Bool.not_eq_true, Bool.not_eq_false] at h1 h2 h3 h4 h5 h6 h7 h8); simp only [okR, bne, h1, h2, h3, h4, h5, h6, h7, h8, Bool.not_true, Bool.not_false, cond_true, cond_false, Bool.true_and, Bool.false_and, Bool.and_true, Bool.and_false, Bool.or_true, Bool.true_or, Bool.or_false, Bool.false_or]) ?_
                  refine sem_iter (enR_ok gl) hG (p := lpZ) (fuel := 1000) [true, false, false, false, false, false, true, true, false] [(turnR (f ((i : Int)).toNat), false), (!recR (f ((i : Int)).toNat), true), (decide ((i : Int) < (e : Int)), true), ((i : Int) == (c : Int), false), (decide ((i : Int) < (c : Int)), false), ((i : Int) == (p : Int), false), (!mayB (f ((i : Int)).toNat), false), (rdF (formZ (f ((i : Int)).toNat).op), false), (pre (decide (((i : Int)).toNat < n)), true), (pre (idxB ((i : Int)) n), true), (decide ((i : Int) ≤ (e : Int)), true)] (by kernel_rfl) (by kernel_rfl) ?_
                  try simp only [Int.toNat_natCast]
                  refine all_cons ?_ <| all_cons ?_ <| all_cons ?_ <| all_cons ?_ <| all_cons ?_ <| all_cons ?_ <| all_cons ?_ <| all_cons ?_ <| all_cons ?_ <| all_cons ?_ <| all_cons ?_ <| all_nil
                  · assumption
                  · assumption
                  · assumption
                  · assumption
                  · assumption
                  · assumption
                  · assumption
                  · assumption
                  · exact ob_lt (by omega)
                  · exact ob_idx (by omega)
                  · exact ob_yes (by omega)
                case' true =>
                  cases h9 : (!decide ((f i).imm > 0))
                  case' false =>
                    refine lp_val true (by (try simp only [bne, Bool.not_eq_true', Bool.not_eq_false', Bool.not_eq_true, Bool.not_eq_false] at h1 h2 h3 h4 h5 h6 h7 h8 h9); simp only [okR, bne, h1, h2, h3, h4, h5, h6, h7, h8, h9, Bool.not_true, Bool.not_false, cond_true, cond_false, Bool.true_and, Bool.false_and, Bool.and_true, Bool.and_false, Bool.or_true, Bool.true_or, Bool.or_false, Bool.false_or]) ?_
                    refine sem_iter (enR_ok gl) hG (p := lpQ) (fuel := 1000) [true, false, false, false, false, false, true, true, true, false] [(pre (inI ((i : Int) + 1)), true), (!decide ((f ((i : Int)).toNat).imm > 0), false), (turnR (f ((i : Int)).toNat), true), (!recR (f ((i : Int)).toNat), true), (decide ((i : Int) < (e : Int)), true), ((i : Int) == (c : Int), false), (decide ((i : Int) < (c : Int)), false), ((i : Int) == (p : Int), false), (!mayB (f ((i : Int)).toNat), false), (rdF (formZ (f ((i : Int)).toNat).op), false), (pre (decide (((i : Int)).toNat < n)), true), (pre (idxB ((i : Int)) n), true), (decide ((i : Int) ≤ (e : Int)), true)] (by kernel_rfl) (by kernel_rfl) ?_
                    try simp only [Int.toNat_natCast]
                    refine all_cons ?_ <| all_cons ?_ <| all_cons ?_ <| all_cons ?_ <| all_cons ?_ <| all_cons ?_ <| all_cons ?_ <| all_cons ?_ <| all_cons ?_ <| all_cons ?_ <| all_cons ?_ <| all_cons ?_ <| all_cons ?_ <| all_nil
                    · exact ob_inI (by omega)
                    · assumption
                    · assumption
                    · assumption
                    · assumption
                    · assumption
                    · assumption
                    · assumption
                    · assumption
                    · assumption
                    · exact ob_lt (by omega)
                    · exact ob_idx (by omega)
                    · exact ob_yes (by omega)
                  case' true =>
                    refine lp_val false (by (try simp only [bne, Bool.not_eq_true', Bool.not_eq_false', Bool.not_eq_true, Bool.not_eq_false] at h1 h2 h3 h4 h5 h6 h7 h8 h9); simp only [okR, bne, h1, h2, h3, h4, h5, h6, h7, h8, h9, Bool.not_true, Bool.not_false, cond_true, cond_false, Bool.true_and, Bool.false_and, Bool.and_true, Bool.and_false, Bool.or_true, Bool.true_or, Bool.or_false, Bool.false_or]) ?_
                    refine sem_iter (enR_ok gl) hG (p := lpZ) (fuel := 1000) [true, false, false, false, false, false, true, true, true, true] [(!decide ((f ((i : Int)).toNat).imm > 0), true), (turnR (f ((i : Int)).toNat), true), (!recR (f ((i : Int)).toNat), true), (decide ((i : Int) < (e : Int)), true), ((i : Int) == (c : Int), false), (decide ((i : Int) < (c : Int)), false), ((i : Int) == (p : Int), false), (!mayB (f ((i : Int)).toNat), false), (rdF (formZ (f ((i : Int)).toNat).op), false), (pre (decide (((i : Int)).toNat < n)), true), (pre (idxB ((i : Int)) n), true), (decide ((i : Int) ≤ (e : Int)), true)] (by kernel_rfl) (by kernel_rfl) ?_
                    try simp only [Int.toNat_natCast]
                    refine all_cons ?_ <| all_cons ?_ <| all_cons ?_ <| all_cons ?_ <| all_cons ?_ <| all_cons ?_ <| all_cons ?_ <| all_cons ?_ <| all_cons ?_ <| all_cons ?_ <| all_cons ?_ <| all_cons ?_ <| all_nil
                    · assumption
                    · assumption
                    · assumption
                    · assumption
                    · assumption
                    · assumption
                    · assumption
                    · assumption
                    · assumption
                    · exact ob_lt (by omega)
                    · exact ob_idx (by omega)
                    · exact ob_yes (by omega)
          case' true =>
            cases h6 : (!conI (f i))
            case' false =>
              cases h7 : ((f i).a != (f p).a)
              case' false =>
                cases h8 : (!((f i).op == 67) == ((f p).op == 66))
                case' false =>
                  refine lp_val true (by (try simp only [bne, Bool.not_eq_true', Bool.not_eq_false', Bool.not_eq_true, Bool.not_eq_false] at h1 h2 h3 h4 h5 h6 h7 h8); simp only [okR, bne, h1, h2, h3, h4, h5, h6, h7, h8, Bool.not_true, Bool.not_false, cond_true, cond_false, Bool.true_and, Bool.false_and, Bool.and_true, Bool.and_false, Bool.or_true, Bool.true_or, Bool.or_false, Bool.false_or]) ?_
                  refine sem_iter (enR_ok gl) hG (p := lpQ) (fuel := 1000) [true, false, false, false, false, true, false, false, false] [(pre (inI ((i : Int) + 1)), true), (!((f ((i : Int)).toNat).op == 67) == ((f ((p : Int)).toNat).op == 66), false), (pre (decide (((p : Int)).toNat < n)), true), (pre (decide (((p : Int)).toNat < n)), true), (pre (idxB ((p : Int)) n), true), ((f ((i : Int)).toNat).a != (f ((p : Int)).toNat).a, false), (pre (decide (((p : Int)).toNat < n)), true), (pre (decide (((p : Int)).toNat < n)), true), (pre (idxB ((p : Int)) n), true), (!conI (f ((i : Int)).toNat), false), ((i : Int) == (c : Int), true), (decide ((i : Int) < (c : Int)), false), ((i : Int) == (p : Int), false), (!mayB (f ((i : Int)).toNat), false), (rdF (formZ (f ((i : Int)).toNat).op), false), (pre (decide (((i : Int)).toNat < n)), true), (pre (idxB ((i : Int)) n), true), (decide ((i : Int) ≤ (e : Int)), true)] (by kernel_rfl) (by kernel_rfl) ?_
                  try simp only [Int.toNat_natCast]
                  refine all_cons ?_ <| all_cons ?_ <| all_cons ?_ <| all_cons ?_ <| all_cons ?_ <| all_cons ?_ <| all_cons ?_ <| all_cons ?_ <| all_cons ?_ <| all_cons ?_ <| all_cons ?_ <| all_cons ?_ <| all_cons ?_ <| all_cons ?_ <| all_cons ?_ <| all_cons ?_ <| all_cons ?_ <| all_cons ?_ <| all_nil
                  · exact ob_inI (by omega)
                  · assumption
                  · exact ob_lt (by omega)
                  · exact ob_lt (by omega)
                  · exact ob_idx (by omega)
                  · assumption
                  · exact ob_lt (by omega)
                  · exact ob_lt (by omega)
                  · exact ob_idx (by omega)
                  · assumption
                  · assumption
                  · assumption
                  · assumption
                  · assumption
                  · assumption
                  · exact ob_lt (by omega)
                  · exact ob_idx (by omega)
                  · exact ob_yes (by omega)
                case' true =>
                  refine lp_val false (by (try simp only [bne, Bool.not_eq_true', Bool.not_eq_false', Bool.not_eq_true, Bool.not_eq_false] at h1 h2 h3 h4 h5 h6 h7 h8); simp only [okR, bne, h1, h2, h3, h4, h5, h6, h7, h8, Bool.not_true, Bool.not_false, cond_true, cond_false, Bool.true_and, Bool.false_and, Bool.and_true, Bool.and_false, Bool.or_true, Bool.true_or, Bool.or_false, Bool.false_or]) ?_
                  refine sem_iter (enR_ok gl) hG (p := lpZ) (fuel := 1000) [true, false, false, false, false, true, false, false, true] [(!((f ((i : Int)).toNat).op == 67) == ((f ((p : Int)).toNat).op == 66), true), (pre (decide (((p : Int)).toNat < n)), true), (pre (decide (((p : Int)).toNat < n)), true), (pre (idxB ((p : Int)) n), true), ((f ((i : Int)).toNat).a != (f ((p : Int)).toNat).a, false), (pre (decide (((p : Int)).toNat < n)), true), (pre (decide (((p : Int)).toNat < n)), true), (pre (idxB ((p : Int)) n), true), (!conI (f ((i : Int)).toNat), false), ((i : Int) == (c : Int), true), (decide ((i : Int) < (c : Int)), false), ((i : Int) == (p : Int), false), (!mayB (f ((i : Int)).toNat), false), (rdF (formZ (f ((i : Int)).toNat).op), false), (pre (decide (((i : Int)).toNat < n)), true), (pre (idxB ((i : Int)) n), true), (decide ((i : Int) ≤ (e : Int)), true)] (by kernel_rfl) (by kernel_rfl) ?_
                  try simp only [Int.toNat_natCast]
                  refine all_cons ?_ <| all_cons ?_ <| all_cons ?_ <| all_cons ?_ <| all_cons ?_ <| all_cons ?_ <| all_cons ?_ <| all_cons ?_ <| all_cons ?_ <| all_cons ?_ <| all_cons ?_ <| all_cons ?_ <| all_cons ?_ <| all_cons ?_ <| all_cons ?_ <| all_cons ?_ <| all_cons ?_ <| all_nil
                  · assumption
                  · exact ob_lt (by omega)
                  · exact ob_lt (by omega)
                  · exact ob_idx (by omega)
                  · assumption
                  · exact ob_lt (by omega)
                  · exact ob_lt (by omega)
                  · exact ob_idx (by omega)
                  · assumption
                  · assumption
                  · assumption
                  · assumption
                  · assumption
                  · assumption
                  · exact ob_lt (by omega)
                  · exact ob_idx (by omega)
                  · exact ob_yes (by omega)
              case' true =>
                refine lp_val false (by (try simp only [bne, Bool.not_eq_true', Bool.not_eq_false', Bool.not_eq_true, Bool.not_eq_false] at h1 h2 h3 h4 h5 h6 h7); simp only [okR, bne, h1, h2, h3, h4, h5, h6, h7, Bool.not_true, Bool.not_false, cond_true, cond_false, Bool.true_and, Bool.false_and, Bool.and_true, Bool.and_false, Bool.or_true, Bool.true_or, Bool.or_false, Bool.false_or]) ?_
                refine sem_iter (enR_ok gl) hG (p := lpZ) (fuel := 1000) [true, false, false, false, false, true, false, true] [((f ((i : Int)).toNat).a != (f ((p : Int)).toNat).a, true), (pre (decide (((p : Int)).toNat < n)), true), (pre (decide (((p : Int)).toNat < n)), true), (pre (idxB ((p : Int)) n), true), (!conI (f ((i : Int)).toNat), false), ((i : Int) == (c : Int), true), (decide ((i : Int) < (c : Int)), false), ((i : Int) == (p : Int), false), (!mayB (f ((i : Int)).toNat), false), (rdF (formZ (f ((i : Int)).toNat).op), false), (pre (decide (((i : Int)).toNat < n)), true), (pre (idxB ((i : Int)) n), true), (decide ((i : Int) ≤ (e : Int)), true)] (by kernel_rfl) (by kernel_rfl) ?_
                try simp only [Int.toNat_natCast]
                refine all_cons ?_ <| all_cons ?_ <| all_cons ?_ <| all_cons ?_ <| all_cons ?_ <| all_cons ?_ <| all_cons ?_ <| all_cons ?_ <| all_cons ?_ <| all_cons ?_ <| all_cons ?_ <| all_cons ?_ <| all_cons ?_ <| all_nil
                · assumption
                · exact ob_lt (by omega)
                · exact ob_lt (by omega)
                · exact ob_idx (by omega)
                · assumption
                · assumption
                · assumption
                · assumption
                · assumption
                · assumption
                · exact ob_lt (by omega)
                · exact ob_idx (by omega)
                · exact ob_yes (by omega)
            case' true =>
              refine lp_val false (by (try simp only [bne, Bool.not_eq_true', Bool.not_eq_false', Bool.not_eq_true, Bool.not_eq_false] at h1 h2 h3 h4 h5 h6); simp only [okR, bne, h1, h2, h3, h4, h5, h6, Bool.not_true, Bool.not_false, cond_true, cond_false, Bool.true_and, Bool.false_and, Bool.and_true, Bool.and_false, Bool.or_true, Bool.true_or, Bool.or_false, Bool.false_or]) ?_
              refine sem_iter (enR_ok gl) hG (p := lpZ) (fuel := 1000) [true, false, false, false, false, true, true] [(!conI (f ((i : Int)).toNat), true), ((i : Int) == (c : Int), true), (decide ((i : Int) < (c : Int)), false), ((i : Int) == (p : Int), false), (!mayB (f ((i : Int)).toNat), false), (rdF (formZ (f ((i : Int)).toNat).op), false), (pre (decide (((i : Int)).toNat < n)), true), (pre (idxB ((i : Int)) n), true), (decide ((i : Int) ≤ (e : Int)), true)] (by kernel_rfl) (by kernel_rfl) ?_
              try simp only [Int.toNat_natCast]
              refine all_cons ?_ <| all_cons ?_ <| all_cons ?_ <| all_cons ?_ <| all_cons ?_ <| all_cons ?_ <| all_cons ?_ <| all_cons ?_ <| all_cons ?_ <| all_nil
              · assumption
              · assumption
              · assumption
              · assumption
              · assumption
              · assumption
              · exact ob_lt (by omega)
              · exact ob_idx (by omega)
              · exact ob_yes (by omega)
        case' true =>
          cases h5 : (!recR (f i))
          case' false =>
            refine lp_val true (by (try simp only [bne, Bool.not_eq_true', Bool.not_eq_false', Bool.not_eq_true, Bool.not_eq_false] at h1 h2 h3 h4 h5); simp only [okR, bne, h1, h2, h3, h4, h5, Bool.not_true, Bool.not_false, cond_true, cond_false, Bool.true_and, Bool.false_and, Bool.and_true, Bool.and_false, Bool.or_true, Bool.true_or, Bool.or_false, Bool.false_or]) ?_
            refine sem_iter (enR_ok gl) hG (p := lpQ) (fuel := 1000) [true, false, false, false, true, false] [(pre (inI ((i : Int) + 1)), true), (!recR (f ((i : Int)).toNat), false), (decide ((i : Int) < (c : Int)), true), ((i : Int) == (p : Int), false), (!mayB (f ((i : Int)).toNat), false), (rdF (formZ (f ((i : Int)).toNat).op), false), (pre (decide (((i : Int)).toNat < n)), true), (pre (idxB ((i : Int)) n), true), (decide ((i : Int) ≤ (e : Int)), true)] (by kernel_rfl) (by kernel_rfl) ?_
            try simp only [Int.toNat_natCast]
            refine all_cons ?_ <| all_cons ?_ <| all_cons ?_ <| all_cons ?_ <| all_cons ?_ <| all_cons ?_ <| all_cons ?_ <| all_cons ?_ <| all_cons ?_ <| all_nil
            · exact ob_inI (by omega)
            · assumption
            · assumption
            · assumption
            · assumption
            · assumption
            · exact ob_lt (by omega)
            · exact ob_idx (by omega)
            · exact ob_yes (by omega)
          case' true =>
            cases h6 : (turnR (f i))
            case' false =>
              refine lp_val false (by (try simp only [bne, Bool.not_eq_true', Bool.not_eq_false', Bool.not_eq_true, Bool.not_eq_false] at h1 h2 h3 h4 h5 h6); simp only [okR, bne, h1, h2, h3, h4, h5, h6, Bool.not_true, Bool.not_false, cond_true, cond_false, Bool.true_and, Bool.false_and, Bool.and_true, Bool.and_false, Bool.or_true, Bool.true_or, Bool.or_false, Bool.false_or]) ?_
              refine sem_iter (enR_ok gl) hG (p := lpZ) (fuel := 1000) [true, false, false, false, true, true, false] [(turnR (f ((i : Int)).toNat), false), (!recR (f ((i : Int)).toNat), true), (decide ((i : Int) < (c : Int)), true), ((i : Int) == (p : Int), false), (!mayB (f ((i : Int)).toNat), false), (rdF (formZ (f ((i : Int)).toNat).op), false), (pre (decide (((i : Int)).toNat < n)), true), (pre (idxB ((i : Int)) n), true), (decide ((i : Int) ≤ (e : Int)), true)] (by kernel_rfl) (by kernel_rfl) ?_
              try simp only [Int.toNat_natCast]
              refine all_cons ?_ <| all_cons ?_ <| all_cons ?_ <| all_cons ?_ <| all_cons ?_ <| all_cons ?_ <| all_cons ?_ <| all_cons ?_ <| all_cons ?_ <| all_nil
              · assumption
              · assumption
              · assumption
              · assumption
              · assumption
              · assumption
              · exact ob_lt (by omega)
              · exact ob_idx (by omega)
              · exact ob_yes (by omega)
            case' true =>
              cases h7 : (!decide ((f i).imm > 0))
              case' false =>
                refine lp_val true (by (try simp only [bne, Bool.not_eq_true', Bool.not_eq_false', Bool.not_eq_true, Bool.not_eq_false] at h1 h2 h3 h4 h5 h6 h7); simp only [okR, bne, h1, h2, h3, h4, h5, h6, h7, Bool.not_true, Bool.not_false, cond_true, cond_false, Bool.true_and, Bool.false_and, Bool.and_true, Bool.and_false, Bool.or_true, Bool.true_or, Bool.or_false, Bool.false_or]) ?_
                refine sem_iter (enR_ok gl) hG (p := lpQ) (fuel := 1000) [true, false, false, false, true, true, true, false] [(pre (inI ((i : Int) + 1)), true), (!decide ((f ((i : Int)).toNat).imm > 0), false), (turnR (f ((i : Int)).toNat), true), (!recR (f ((i : Int)).toNat), true), (decide ((i : Int) < (c : Int)), true), ((i : Int) == (p : Int), false), (!mayB (f ((i : Int)).toNat), false), (rdF (formZ (f ((i : Int)).toNat).op), false), (pre (decide (((i : Int)).toNat < n)), true), (pre (idxB ((i : Int)) n), true), (decide ((i : Int) ≤ (e : Int)), true)] (by kernel_rfl) (by kernel_rfl) ?_
                try simp only [Int.toNat_natCast]
                refine all_cons ?_ <| all_cons ?_ <| all_cons ?_ <| all_cons ?_ <| all_cons ?_ <| all_cons ?_ <| all_cons ?_ <| all_cons ?_ <| all_cons ?_ <| all_cons ?_ <| all_cons ?_ <| all_nil
                · exact ob_inI (by omega)
                · assumption
                · assumption
                · assumption
                · assumption
                · assumption
                · assumption
                · assumption
                · exact ob_lt (by omega)
                · exact ob_idx (by omega)
                · exact ob_yes (by omega)
              case' true =>
                refine lp_val false (by (try simp only [bne, Bool.not_eq_true', Bool.not_eq_false', Bool.not_eq_true, Bool.not_eq_false] at h1 h2 h3 h4 h5 h6 h7); simp only [okR, bne, h1, h2, h3, h4, h5, h6, h7, Bool.not_true, Bool.not_false, cond_true, cond_false, Bool.true_and, Bool.false_and, Bool.and_true, Bool.and_false, Bool.or_true, Bool.true_or, Bool.or_false, Bool.false_or]) ?_
                refine sem_iter (enR_ok gl) hG (p := lpZ) (fuel := 1000) [true, false, false, false, true, true, true, true] [(!decide ((f ((i : Int)).toNat).imm > 0), true), (turnR (f ((i : Int)).toNat), true), (!recR (f ((i : Int)).toNat), true), (decide ((i : Int) < (c : Int)), true), ((i : Int) == (p : Int), false), (!mayB (f ((i : Int)).toNat), false), (rdF (formZ (f ((i : Int)).toNat).op), false), (pre (decide (((i : Int)).toNat < n)), true), (pre (idxB ((i : Int)) n), true), (decide ((i : Int) ≤ (e : Int)), true)] (by kernel_rfl) (by kernel_rfl) ?_
                try simp only [Int.toNat_natCast]
                refine all_cons ?_ <| all_cons ?_ <| all_cons ?_ <| all_cons ?_ <| all_cons ?_ <| all_cons ?_ <| all_cons ?_ <| all_cons ?_ <| all_cons ?_ <| all_cons ?_ <| all_nil
                · assumption
                · assumption
                · assumption
                · assumption
                · assumption
                · assumption
                · assumption
                · exact ob_lt (by omega)
                · exact ob_idx (by omega)
                · exact ob_yes (by omega)
      case' true =>
        refine lp_val true (by (try simp only [bne, Bool.not_eq_true', Bool.not_eq_false', Bool.not_eq_true, Bool.not_eq_false] at h1 h2 h3); simp only [okR, bne, h1, h2, h3, Bool.not_true, Bool.not_false, cond_true, cond_false, Bool.true_and, Bool.false_and, Bool.and_true, Bool.and_false, Bool.or_true, Bool.true_or, Bool.or_false, Bool.false_or]) ?_
        refine sem_iter (enR_ok gl) hG (p := lpQ) (fuel := 1000) [true, false, false, true] [(pre (inI ((i : Int) + 1)), true), ((i : Int) == (p : Int), true), (!mayB (f ((i : Int)).toNat), false), (rdF (formZ (f ((i : Int)).toNat).op), false), (pre (decide (((i : Int)).toNat < n)), true), (pre (idxB ((i : Int)) n), true), (decide ((i : Int) ≤ (e : Int)), true)] (by kernel_rfl) (by kernel_rfl) ?_
        try simp only [Int.toNat_natCast]
        refine all_cons ?_ <| all_cons ?_ <| all_cons ?_ <| all_cons ?_ <| all_cons ?_ <| all_cons ?_ <| all_cons ?_ <| all_nil
        · exact ob_inI (by omega)
        · assumption
        · assumption
        · assumption
        · exact ob_lt (by omega)
        · exact ob_idx (by omega)
        · exact ob_yes (by omega)
    case' true =>
      refine lp_val false (by (try simp only [bne, Bool.not_eq_true', Bool.not_eq_false', Bool.not_eq_true, Bool.not_eq_false] at h1 h2); simp only [okR, bne, h1, h2, Bool.not_true, Bool.not_false, cond_true, cond_false, Bool.true_and, Bool.false_and, Bool.and_true, Bool.and_false, Bool.or_true, Bool.true_or, Bool.or_false, Bool.false_or]) ?_
      refine sem_iter (enR_ok gl) hG (p := lpZ) (fuel := 1000) [true, false, true] [(!mayB (f ((i : Int)).toNat), true), (rdF (formZ (f ((i : Int)).toNat).op), false), (pre (decide (((i : Int)).toNat < n)), true), (pre (idxB ((i : Int)) n), true), (decide ((i : Int) ≤ (e : Int)), true)] (by kernel_rfl) (by kernel_rfl) ?_
      try simp only [Int.toNat_natCast]
      refine all_cons ?_ <| all_cons ?_ <| all_cons ?_ <| all_cons ?_ <| all_cons ?_ <| all_nil
      · assumption
      · assumption
      · exact ob_lt (by omega)
      · exact ob_idx (by omega)
      · exact ob_yes (by omega)
  case' true =>
    cases h2 : ((f i).rd != 0)
    case' false =>
      cases h3 : (!mayB (f i))
      case' false =>
        cases h4 : ((i : Int) == (p : Int))
        case' false =>
          cases h5 : (decide ((i : Int) < (c : Int)))
          case' false =>
            cases h6 : ((i : Int) == (c : Int))
            case' false =>
              cases h7 : (decide ((i : Int) < (e : Int)))
              case' false =>
                cases h8 : (!turnR (f i))
                case' false =>
                  cases h9 : ((f i).imm != 4 * ((p : Int) - (e : Int)))
                  case' false =>
                    refine lp_val true (by (try simp only [bne, Bool.not_eq_true', Bool.not_eq_false', Bool.not_eq_true, Bool.not_eq_false] at h1 h2 h3 h4 h5 h6 h7 h8 h9); simp only [okR, bne, h1, h2, h3, h4, h5, h6, h7, h8, h9, Bool.not_true, Bool.not_false, cond_true, cond_false, Bool.true_and, Bool.false_and, Bool.and_true, Bool.and_false, Bool.or_true, Bool.true_or, Bool.or_false, Bool.false_or]) ?_
                    refine sem_iter (enR_ok gl) hG (p := lpQ) (fuel := 1000) [true, true, false, false, false, false, false, false, false, false] [(pre (inI ((i : Int) + 1)), true), ((f ((i : Int)).toNat).imm != 4 * ((p : Int) - (e : Int)), false), (pre (inI (4 * ((p : Int) - (e : Int)))), true), (pre (inI ((p : Int) - (e : Int))), true), (!turnR (f ((i : Int)).toNat), false), (decide ((i : Int) < (e : Int)), false), ((i : Int) == (c : Int), false), (decide ((i : Int) < (c : Int)), false), ((i : Int) == (p : Int), false), (!mayB (f ((i : Int)).toNat), false), ((f ((i : Int)).toNat).rd != 0, false), (rdF (formZ (f ((i : Int)).toNat).op), true), (pre (decide (((i : Int)).toNat < n)), true), (pre (idxB ((i : Int)) n), true), (decide ((i : Int) ≤ (e : Int)), true)] (by kernel_rfl) (by kernel_rfl) ?_
                    try simp only [Int.toNat_natCast]
                    refine all_cons ?_ <| all_cons ?_ <| all_cons ?_ <| all_cons ?_ <| all_cons ?_ <| all_cons ?_ <| all_cons ?_ <| all_cons ?_ <| all_cons ?_ <| all_cons ?_ <| all_cons ?_ <| all_cons ?_ <| all_cons ?_ <| all_cons ?_ <| all_cons ?_ <| all_nil
                    · exact ob_inI (by omega)
                    · assumption
                    · exact ob_inI (by omega)
                    · exact ob_inI (by omega)
                    · assumption
                    · assumption
                    · assumption
                    · assumption
                    · assumption
                    · assumption
                    · assumption
                    · assumption
                    · exact ob_lt (by omega)
                    · exact ob_idx (by omega)
                    · exact ob_yes (by omega)
                  case' true =>
                    refine lp_val false (by (try simp only [bne, Bool.not_eq_true', Bool.not_eq_false', Bool.not_eq_true, Bool.not_eq_false] at h1 h2 h3 h4 h5 h6 h7 h8 h9); simp only [okR, bne, h1, h2, h3, h4, h5, h6, h7, h8, h9, Bool.not_true, Bool.not_false, cond_true, cond_false, Bool.true_and, Bool.false_and, Bool.and_true, Bool.and_false, Bool.or_true, Bool.true_or, Bool.or_false, Bool.false_or]) ?_
                    refine sem_iter (enR_ok gl) hG (p := lpZ) (fuel := 1000) [true, true, false, false, false, false, false, false, false, true] [((f ((i : Int)).toNat).imm != 4 * ((p : Int) - (e : Int)), true), (pre (inI (4 * ((p : Int) - (e : Int)))), true), (pre (inI ((p : Int) - (e : Int))), true), (!turnR (f ((i : Int)).toNat), false), (decide ((i : Int) < (e : Int)), false), ((i : Int) == (c : Int), false), (decide ((i : Int) < (c : Int)), false), ((i : Int) == (p : Int), false), (!mayB (f ((i : Int)).toNat), false), ((f ((i : Int)).toNat).rd != 0, false), (rdF (formZ (f ((i : Int)).toNat).op), true), (pre (decide (((i : Int)).toNat < n)), true), (pre (idxB ((i : Int)) n), true), (decide ((i : Int) ≤ (e : Int)), true)] (by kernel_rfl) (by kernel_rfl) ?_
                    try simp only [Int.toNat_natCast]
                    refine all_cons ?_ <| all_cons ?_ <| all_cons ?_ <| all_cons ?_ <| all_cons ?_ <| all_cons ?_ <| all_cons ?_ <| all_cons ?_ <| all_cons ?_ <| all_cons ?_ <| all_cons ?_ <| all_cons ?_ <| all_cons ?_ <| all_cons ?_ <| all_nil
                    · assumption
                    · exact ob_inI (by omega)
                    · exact ob_inI (by omega)
                    · assumption
                    · assumption
                    · assumption
                    · assumption
                    · assumption
                    · assumption
                    · assumption
                    · assumption
                    · exact ob_lt (by omega)
                    · exact ob_idx (by omega)
                    · exact ob_yes (by omega)
                case' true =>
                  refine lp_val false (by (try simp only [bne, Bool.not_eq_true', Bool.not_eq_false', Bool.not_eq_true, Bool.not_eq_false] at h1 h2 h3 h4 h5 h6 h7 h8); simp only [okR, bne, h1, h2, h3, h4, h5, h6, h7, h8, Bool.not_true, Bool.not_false, cond_true, cond_false, Bool.true_and, Bool.false_and, Bool.and_true, Bool.and_false, Bool.or_true, Bool.true_or, Bool.or_false, Bool.false_or]) ?_
                  refine sem_iter (enR_ok gl) hG (p := lpZ) (fuel := 1000) [true, true, false, false, false, false, false, false, true] [(!turnR (f ((i : Int)).toNat), true), (decide ((i : Int) < (e : Int)), false), ((i : Int) == (c : Int), false), (decide ((i : Int) < (c : Int)), false), ((i : Int) == (p : Int), false), (!mayB (f ((i : Int)).toNat), false), ((f ((i : Int)).toNat).rd != 0, false), (rdF (formZ (f ((i : Int)).toNat).op), true), (pre (decide (((i : Int)).toNat < n)), true), (pre (idxB ((i : Int)) n), true), (decide ((i : Int) ≤ (e : Int)), true)] (by kernel_rfl) (by kernel_rfl) ?_
                  try simp only [Int.toNat_natCast]
                  refine all_cons ?_ <| all_cons ?_ <| all_cons ?_ <| all_cons ?_ <| all_cons ?_ <| all_cons ?_ <| all_cons ?_ <| all_cons ?_ <| all_cons ?_ <| all_cons ?_ <| all_cons ?_ <| all_nil
                  · assumption
                  · assumption
                  · assumption
                  · assumption
                  · assumption
                  · assumption
                  · assumption
                  · assumption
                  · exact ob_lt (by omega)
                  · exact ob_idx (by omega)
                  · exact ob_yes (by omega)
              case' true =>
                cases h8 : (!recR (f i))
                case' false =>
                  refine lp_val true (by (try simp only [bne, Bool.not_eq_true', Bool.not_eq_false', Bool.not_eq_true, Bool.not_eq_false] at h1 h2 h3 h4 h5 h6 h7 h8); simp only [okR, bne, h1, h2, h3, h4, h5, h6, h7, h8, Bool.not_true, Bool.not_false, cond_true, cond_false, Bool.true_and, Bool.false_and, Bool.and_true, Bool.and_false, Bool.or_true, Bool.true_or, Bool.or_false, Bool.false_or]) ?_
                  refine sem_iter (enR_ok gl) hG (p := lpQ) (fuel := 1000) [true, true, false, false, false, false, false, true, false] [(pre (inI ((i : Int) + 1)), true), (!recR (f ((i : Int)).toNat), false), (decide ((i : Int) < (e : Int)), true), ((i : Int) == (c : Int), false), (decide ((i : Int) < (c : Int)), false), ((i : Int) == (p : Int), false), (!mayB (f ((i : Int)).toNat), false), ((f ((i : Int)).toNat).rd != 0, false), (rdF (formZ (f ((i : Int)).toNat).op), true), (pre (decide (((i : Int)).toNat < n)), true), (pre (idxB ((i : Int)) n), true), (decide ((i : Int) ≤ (e : Int)), true)] (by kernel_rfl) (by kernel_rfl) ?_
                  try simp only [Int.toNat_natCast]
                  refine all_cons ?_ <| all_cons ?_ <| all_cons ?_ <| all_cons ?_ <| all_cons ?_ <| all_cons ?_ <| all_cons ?_ <| all_cons ?_ <| all_cons ?_ <| all_cons ?_ <| all_cons ?_ <| all_cons ?_ <| all_nil
                  · exact ob_inI (by omega)
                  · assumption
                  · assumption
                  · assumption
                  · assumption
                  · assumption
                  · assumption
                  · assumption
                  · assumption
                  · exact ob_lt (by omega)
                  · exact ob_idx (by omega)
                  · exact ob_yes (by omega)
                case' true =>
                  cases h9 : (turnR (f i))
                  case' false =>
                    refine lp_val false (by (try simp only [bne, Bool.not_eq_true', Bool.not_eq_false', Bool.not_eq_true, Bool.not_eq_false] at h1 h2 h3 h4 h5 h6 h7 h8 h9); simp only [okR, bne, h1, h2, h3, h4, h5, h6, h7, h8, h9, Bool.not_true, Bool.not_false, cond_true, cond_false, Bool.true_and, Bool.false_and, Bool.and_true, Bool.and_false, Bool.or_true, Bool.true_or, Bool.or_false, Bool.false_or]) ?_
                    refine sem_iter (enR_ok gl) hG (p := lpZ) (fuel := 1000) [true, true, false, false, false, false, false, true, true, false] [(turnR (f ((i : Int)).toNat), false), (!recR (f ((i : Int)).toNat), true), (decide ((i : Int) < (e : Int)), true), ((i : Int) == (c : Int), false), (decide ((i : Int) < (c : Int)), false), ((i : Int) == (p : Int), false), (!mayB (f ((i : Int)).toNat), false), ((f ((i : Int)).toNat).rd != 0, false), (rdF (formZ (f ((i : Int)).toNat).op), true), (pre (decide (((i : Int)).toNat < n)), true), (pre (idxB ((i : Int)) n), true), (decide ((i : Int) ≤ (e : Int)), true)] (by kernel_rfl) (by kernel_rfl) ?_
                    try simp only [Int.toNat_natCast]
                    refine all_cons ?_ <| all_cons ?_ <| all_cons ?_ <| all_cons ?_ <| all_cons ?_ <| all_cons ?_ <| all_cons ?_ <| all_cons ?_ <| all_cons ?_ <| all_cons ?_ <| all_cons ?_ <| all_cons ?_ <| all_nil
                    · assumption
                    · assumption
                    · assumption
                    · assumption
                    · assumption
                    · assumption
                    · assumption
                    · assumption
                    · assumption
                    · exact ob_lt (by omega)
                    · exact ob_idx (by omega)
                    · exact ob_yes (by omega)
                  case' true =>
                    cases h10 : (!decide ((f i).imm > 0))
                    case' false =>
                      refine lp_val true (by (try simp only [bne, Bool.not_eq_true', Bool.not_eq_false', Bool.not_eq_true, Bool.not_eq_false] at h1 h2 h3 h4 h5 h6 h7 h8 h9 h10); simp only [okR, bne, h1, h2, h3, h4, h5, h6, h7, h8, h9, h10, Bool.not_true, Bool.not_false, cond_true, cond_false, Bool.true_and, Bool.false_and, Bool.and_true, Bool.and_false, Bool.or_true, Bool.true_or, Bool.or_false, Bool.false_or]) ?_
                      refine sem_iter (enR_ok gl) hG (p := lpQ) (fuel := 1000) [true, true, false, false, false, false, false, true, true, true, false] [(pre (inI ((i : Int) + 1)), true), (!decide ((f ((i : Int)).toNat).imm > 0), false), (turnR (f ((i : Int)).toNat), true), (!recR (f ((i : Int)).toNat), true), (decide ((i : Int) < (e : Int)), true), ((i : Int) == (c : Int), false), (decide ((i : Int) < (c : Int)), false), ((i : Int) == (p : Int), false), (!mayB (f ((i : Int)).toNat), false), ((f ((i : Int)).toNat).rd != 0, false), (rdF (formZ (f ((i : Int)).toNat).op), true), (pre (decide (((i : Int)).toNat < n)), true), (pre (idxB ((i : Int)) n), true), (decide ((i : Int) ≤ (e : Int)), true)] (by kernel_rfl) (by kernel_rfl) ?_
                      try simp only [Int.toNat_natCast]
                      refine all_cons ?_ <| all_cons ?_ <| all_cons ?_ <| all_cons ?_ <| all_cons ?_ <| all_cons ?_ <| all_cons ?_ <| all_cons ?_ <| all_cons ?_ <| all_cons ?_ <| all_cons ?_ <| all_cons ?_ <| all_cons ?_ <| all_cons ?_ <| all_nil
                      · exact ob_inI (by omega)
                      · assumption
                      · assumption
                      · assumption
                      · assumption
                      · assumption
                      · assumption
                      · assumption
                      · assumption
                      · assumption
                      · assumption
                      · exact ob_lt (by omega)
                      · exact ob_idx (by omega)
                      · exact ob_yes (by omega)
                    case' true =>
                      refine lp_val false (by (try simp only [bne, Bool.not_eq_true', Bool.not_eq_false', Bool.not_eq_true, Bool.not_eq_false] at h1 h2 h3 h4 h5 h6 h7 h8 h9 h10); simp only [okR, bne, h1, h2, h3, h4, h5, h6, h7, h8, h9, h10, Bool.not_true, Bool.not_false, cond_true, cond_false, Bool.true_and, Bool.false_and, Bool.and_true, Bool.and_false, Bool.or_true, Bool.true_or, Bool.or_false, Bool.false_or]) ?_
                      refine sem_iter (enR_ok gl) hG (p := lpZ) (fuel := 1000) [true, true, false, false, false, false, false, true, true, true, true] [(!decide ((f ((i : Int)).toNat).imm > 0), true), (turnR (f ((i : Int)).toNat), true), (!recR (f ((i : Int)).toNat), true), (decide ((i : Int) < (e : Int)), true), ((i : Int) == (c : Int), false), (decide ((i : Int) < (c : Int)), false), ((i : Int) == (p : Int), false), (!mayB (f ((i : Int)).toNat), false), ((f ((i : Int)).toNat).rd != 0, false), (rdF (formZ (f ((i : Int)).toNat).op), true), (pre (decide (((i : Int)).toNat < n)), true), (pre (idxB ((i : Int)) n), true), (decide ((i : Int) ≤ (e : Int)), true)] (by kernel_rfl) (by kernel_rfl) ?_
                      try simp only [Int.toNat_natCast]
                      refine all_cons ?_ <| all_cons ?_ <| all_cons ?_ <| all_cons ?_ <| all_cons ?_ <| all_cons ?_ <| all_cons ?_ <| all_cons ?_ <| all_cons ?_ <| all_cons ?_ <| all_cons ?_ <| all_cons ?_ <| all_cons ?_ <| all_nil
                      · assumption
                      · assumption
                      · assumption
                      · assumption
                      · assumption
                      · assumption
                      · assumption
                      · assumption
                      · assumption
                      · assumption
                      · exact ob_lt (by omega)
                      · exact ob_idx (by omega)
                      · exact ob_yes (by omega)
            case' true =>
              cases h7 : (!conI (f i))
              case' false =>
                cases h8 : ((f i).a != (f p).a)
                case' false =>
                  cases h9 : (!((f i).op == 67) == ((f p).op == 66))
                  case' false =>
                    refine lp_val true (by (try simp only [bne, Bool.not_eq_true', Bool.not_eq_false', Bool.not_eq_true, Bool.not_eq_false] at h1 h2 h3 h4 h5 h6 h7 h8 h9); simp only [okR, bne, h1, h2, h3, h4, h5, h6, h7, h8, h9, Bool.not_true, Bool.not_false, cond_true, cond_false, Bool.true_and, Bool.false_and, Bool.and_true, Bool.and_false, Bool.or_true, Bool.true_or, Bool.or_false, Bool.false_or]) ?_
                    refine sem_iter (enR_ok gl) hG (p := lpQ) (fuel := 1000) [true, true, false, false, false, false, true, false, false, false] [(pre (inI ((i : Int) + 1)), true), (!((f ((i : Int)).toNat).op == 67) == ((f ((p : Int)).toNat).op == 66), false), (pre (decide (((p : Int)).toNat < n)), true), (pre (decide (((p : Int)).toNat < n)), true), (pre (idxB ((p : Int)) n), true), ((f ((i : Int)).toNat).a != (f ((p : Int)).toNat).a, false), (pre (decide (((p : Int)).toNat < n)), true), (pre (decide (((p : Int)).toNat < n)), true), (pre (idxB ((p : Int)) n), true), (!conI (f ((i : Int)).toNat), false), ((i : Int) == (c : Int), true), (decide ((i : Int) < (c : Int)), false), ((i : Int) == (p : Int), false), (!mayB (f ((i : Int)).toNat), false), ((f ((i : Int)).toNat).rd != 0, false), (rdF (formZ (f ((i : Int)).toNat).op), true), (pre (decide (((i : Int)).toNat < n)), true), (pre (idxB ((i : Int)) n), true), (decide ((i : Int) ≤ (e : Int)), true)] (by kernel_rfl) (by kernel_rfl) ?_
                    try simp only [Int.toNat_natCast]
                    refine all_cons ?_ <| all_cons ?_ <| all_cons ?_ <| all_cons ?_ <| all_cons ?_ <| all_cons ?_ <| all_cons ?_ <| all_cons ?_ <| all_cons ?_ <| all_cons ?_ <| all_cons ?_ <| all_cons ?_ <| all_cons ?_ <| all_cons ?_ <| all_cons ?_ <| all_cons ?_ <| all_cons ?_ <| all_cons ?_ <| all_cons ?_ <| all_nil
                    · exact ob_inI (by omega)
                    · assumption
                    · exact ob_lt (by omega)
                    · exact ob_lt (by omega)
                    · exact ob_idx (by omega)
                    · assumption
                    · exact ob_lt (by omega)
                    · exact ob_lt (by omega)
                    · exact ob_idx (by omega)
                    · assumption
                    · assumption
                    · assumption
                    · assumption
                    · assumption
                    · assumption
                    · assumption
                    · exact ob_lt (by omega)
                    · exact ob_idx (by omega)
                    · exact ob_yes (by omega)
                  case' true =>
                    refine lp_val false (by (try simp only [bne, Bool.not_eq_true', Bool.not_eq_false', Bool.not_eq_true, Bool.not_eq_false] at h1 h2 h3 h4 h5 h6 h7 h8 h9); simp only [okR, bne, h1, h2, h3, h4, h5, h6, h7, h8, h9, Bool.not_true, Bool.not_false, cond_true, cond_false, Bool.true_and, Bool.false_and, Bool.and_true, Bool.and_false, Bool.or_true, Bool.true_or, Bool.or_false, Bool.false_or]) ?_
                    refine sem_iter (enR_ok gl) hG (p := lpZ) (fuel := 1000) [true, true, false, false, false, false, true, false, false, true] [(!((f ((i : Int)).toNat).op == 67) == ((f ((p : Int)).toNat).op == 66), true), (pre (decide (((p : Int)).toNat < n)), true), (pre (decide (((p : Int)).toNat < n)), true), (pre (idxB ((p : Int)) n), true), ((f ((i : Int)).toNat).a != (f ((p : Int)).toNat).a, false), (pre (decide (((p : Int)).toNat < n)), true), (pre (decide (((p : Int)).toNat < n)), true), (pre (idxB ((p : Int)) n), true), (!conI (f ((i : Int)).toNat), false), ((i : Int) == (c : Int), true), (decide ((i : Int) < (c : Int)), false), ((i : Int) == (p : Int), false), (!mayB (f ((i : Int)).toNat), false), ((f ((i : Int)).toNat).rd != 0, false), (rdF (formZ (f ((i : Int)).toNat).op), true), (pre (decide (((i : Int)).toNat < n)), true), (pre (idxB ((i : Int)) n), true), (decide ((i : Int) ≤ (e : Int)), true)] (by kernel_rfl) (by kernel_rfl) ?_
                    try simp only [Int.toNat_natCast]
                    refine all_cons ?_ <| all_cons ?_ <| all_cons ?_ <| all_cons ?_ <| all_cons ?_ <| all_cons ?_ <| all_cons ?_ <| all_cons ?_ <| all_cons ?_ <| all_cons ?_ <| all_cons ?_ <| all_cons ?_ <| all_cons ?_ <| all_cons ?_ <| all_cons ?_ <| all_cons ?_ <| all_cons ?_ <| all_cons ?_ <| all_nil
                    · assumption
                    · exact ob_lt (by omega)
                    · exact ob_lt (by omega)
                    · exact ob_idx (by omega)
                    · assumption
                    · exact ob_lt (by omega)
                    · exact ob_lt (by omega)
                    · exact ob_idx (by omega)
                    · assumption
                    · assumption
                    · assumption
                    · assumption
                    · assumption
                    · assumption
                    · assumption
                    · exact ob_lt (by omega)
                    · exact ob_idx (by omega)
                    · exact ob_yes (by omega)
                case' true =>
                  refine lp_val false (by (try simp only [bne, Bool.not_eq_true', Bool.not_eq_false', Bool.not_eq_true, Bool.not_eq_false] at h1 h2 h3 h4 h5 h6 h7 h8); simp only [okR, bne, h1, h2, h3, h4, h5, h6, h7, h8, Bool.not_true, Bool.not_false, cond_true, cond_false, Bool.true_and, Bool.false_and, Bool.and_true, Bool.and_false, Bool.or_true, Bool.true_or, Bool.or_false, Bool.false_or]) ?_
                  refine sem_iter (enR_ok gl) hG (p := lpZ) (fuel := 1000) [true, true, false, false, false, false, true, false, true] [((f ((i : Int)).toNat).a != (f ((p : Int)).toNat).a, true), (pre (decide (((p : Int)).toNat < n)), true), (pre (decide (((p : Int)).toNat < n)), true), (pre (idxB ((p : Int)) n), true), (!conI (f ((i : Int)).toNat), false), ((i : Int) == (c : Int), true), (decide ((i : Int) < (c : Int)), false), ((i : Int) == (p : Int), false), (!mayB (f ((i : Int)).toNat), false), ((f ((i : Int)).toNat).rd != 0, false), (rdF (formZ (f ((i : Int)).toNat).op), true), (pre (decide (((i : Int)).toNat < n)), true), (pre (idxB ((i : Int)) n), true), (decide ((i : Int) ≤ (e : Int)), true)] (by kernel_rfl) (by kernel_rfl) ?_
                  try simp only [Int.toNat_natCast]
                  refine all_cons ?_ <| all_cons ?_ <| all_cons ?_ <| all_cons ?_ <| all_cons ?_ <| all_cons ?_ <| all_cons ?_ <| all_cons ?_ <| all_cons ?_ <| all_cons ?_ <| all_cons ?_ <| all_cons ?_ <| all_cons ?_ <| all_cons ?_ <| all_nil
                  · assumption
                  · exact ob_lt (by omega)
                  · exact ob_lt (by omega)
                  · exact ob_idx (by omega)
                  · assumption
                  · assumption
                  · assumption
                  · assumption
                  · assumption
                  · assumption
                  · assumption
                  · exact ob_lt (by omega)
                  · exact ob_idx (by omega)
                  · exact ob_yes (by omega)
              case' true =>
                refine lp_val false (by (try simp only [bne, Bool.not_eq_true', Bool.not_eq_false', Bool.not_eq_true, Bool.not_eq_false] at h1 h2 h3 h4 h5 h6 h7); simp only [okR, bne, h1, h2, h3, h4, h5, h6, h7, Bool.not_true, Bool.not_false, cond_true, cond_false, Bool.true_and, Bool.false_and, Bool.and_true, Bool.and_false, Bool.or_true, Bool.true_or, Bool.or_false, Bool.false_or]) ?_
                refine sem_iter (enR_ok gl) hG (p := lpZ) (fuel := 1000) [true, true, false, false, false, false, true, true] [(!conI (f ((i : Int)).toNat), true), ((i : Int) == (c : Int), true), (decide ((i : Int) < (c : Int)), false), ((i : Int) == (p : Int), false), (!mayB (f ((i : Int)).toNat), false), ((f ((i : Int)).toNat).rd != 0, false), (rdF (formZ (f ((i : Int)).toNat).op), true), (pre (decide (((i : Int)).toNat < n)), true), (pre (idxB ((i : Int)) n), true), (decide ((i : Int) ≤ (e : Int)), true)] (by kernel_rfl) (by kernel_rfl) ?_
                try simp only [Int.toNat_natCast]
                refine all_cons ?_ <| all_cons ?_ <| all_cons ?_ <| all_cons ?_ <| all_cons ?_ <| all_cons ?_ <| all_cons ?_ <| all_cons ?_ <| all_cons ?_ <| all_cons ?_ <| all_nil
                · assumption
                · assumption
                · assumption
                · assumption
                · assumption
                · assumption
                · assumption
                · exact ob_lt (by omega)
                · exact ob_idx (by omega)
                · exact ob_yes (by omega)
          case' true =>
            cases h6 : (!recR (f i))
            case' false =>
              refine lp_val true (by (try simp only [bne, Bool.not_eq_true', Bool.not_eq_false', Bool.not_eq_true, Bool.not_eq_false] at h1 h2 h3 h4 h5 h6); simp only [okR, bne, h1, h2, h3, h4, h5, h6, Bool.not_true, Bool.not_false, cond_true, cond_false, Bool.true_and, Bool.false_and, Bool.and_true, Bool.and_false, Bool.or_true, Bool.true_or, Bool.or_false, Bool.false_or]) ?_
              refine sem_iter (enR_ok gl) hG (p := lpQ) (fuel := 1000) [true, true, false, false, false, true, false] [(pre (inI ((i : Int) + 1)), true), (!recR (f ((i : Int)).toNat), false), (decide ((i : Int) < (c : Int)), true), ((i : Int) == (p : Int), false), (!mayB (f ((i : Int)).toNat), false), ((f ((i : Int)).toNat).rd != 0, false), (rdF (formZ (f ((i : Int)).toNat).op), true), (pre (decide (((i : Int)).toNat < n)), true), (pre (idxB ((i : Int)) n), true), (decide ((i : Int) ≤ (e : Int)), true)] (by kernel_rfl) (by kernel_rfl) ?_
              try simp only [Int.toNat_natCast]
              refine all_cons ?_ <| all_cons ?_ <| all_cons ?_ <| all_cons ?_ <| all_cons ?_ <| all_cons ?_ <| all_cons ?_ <| all_cons ?_ <| all_cons ?_ <| all_cons ?_ <| all_nil
              · exact ob_inI (by omega)
              · assumption
              · assumption
              · assumption
              · assumption
              · assumption
              · assumption
              · exact ob_lt (by omega)
              · exact ob_idx (by omega)
              · exact ob_yes (by omega)
            case' true =>
              cases h7 : (turnR (f i))
              case' false =>
                refine lp_val false (by (try simp only [bne, Bool.not_eq_true', Bool.not_eq_false', Bool.not_eq_true, Bool.not_eq_false] at h1 h2 h3 h4 h5 h6 h7); simp only [okR, bne, h1, h2, h3, h4, h5, h6, h7, Bool.not_true, Bool.not_false, cond_true, cond_false, Bool.true_and, Bool.false_and, Bool.and_true, Bool.and_false, Bool.or_true, Bool.true_or, Bool.or_false, Bool.false_or]) ?_
                refine sem_iter (enR_ok gl) hG (p := lpZ) (fuel := 1000) [true, true, false, false, false, true, true, false] [(turnR (f ((i : Int)).toNat), false), (!recR (f ((i : Int)).toNat), true), (decide ((i : Int) < (c : Int)), true), ((i : Int) == (p : Int), false), (!mayB (f ((i : Int)).toNat), false), ((f ((i : Int)).toNat).rd != 0, false), (rdF (formZ (f ((i : Int)).toNat).op), true), (pre (decide (((i : Int)).toNat < n)), true), (pre (idxB ((i : Int)) n), true), (decide ((i : Int) ≤ (e : Int)), true)] (by kernel_rfl) (by kernel_rfl) ?_
                try simp only [Int.toNat_natCast]
                refine all_cons ?_ <| all_cons ?_ <| all_cons ?_ <| all_cons ?_ <| all_cons ?_ <| all_cons ?_ <| all_cons ?_ <| all_cons ?_ <| all_cons ?_ <| all_cons ?_ <| all_nil
                · assumption
                · assumption
                · assumption
                · assumption
                · assumption
                · assumption
                · assumption
                · exact ob_lt (by omega)
                · exact ob_idx (by omega)
                · exact ob_yes (by omega)
              case' true =>
                cases h8 : (!decide ((f i).imm > 0))
                case' false =>
                  refine lp_val true (by (try simp only [bne, Bool.not_eq_true', Bool.not_eq_false', Bool.not_eq_true, Bool.not_eq_false] at h1 h2 h3 h4 h5 h6 h7 h8); simp only [okR, bne, h1, h2, h3, h4, h5, h6, h7, h8, Bool.not_true, Bool.not_false, cond_true, cond_false, Bool.true_and, Bool.false_and, Bool.and_true, Bool.and_false, Bool.or_true, Bool.true_or, Bool.or_false, Bool.false_or]) ?_
                  refine sem_iter (enR_ok gl) hG (p := lpQ) (fuel := 1000) [true, true, false, false, false, true, true, true, false] [(pre (inI ((i : Int) + 1)), true), (!decide ((f ((i : Int)).toNat).imm > 0), false), (turnR (f ((i : Int)).toNat), true), (!recR (f ((i : Int)).toNat), true), (decide ((i : Int) < (c : Int)), true), ((i : Int) == (p : Int), false), (!mayB (f ((i : Int)).toNat), false), ((f ((i : Int)).toNat).rd != 0, false), (rdF (formZ (f ((i : Int)).toNat).op), true), (pre (decide (((i : Int)).toNat < n)), true), (pre (idxB ((i : Int)) n), true), (decide ((i : Int) ≤ (e : Int)), true)] (by kernel_rfl) (by kernel_rfl) ?_
                  try simp only [Int.toNat_natCast]
                  refine all_cons ?_ <| all_cons ?_ <| all_cons ?_ <| all_cons ?_ <| all_cons ?_ <| all_cons ?_ <| all_cons ?_ <| all_cons ?_ <| all_cons ?_ <| all_cons ?_ <| all_cons ?_ <| all_cons ?_ <| all_nil
                  · exact ob_inI (by omega)
                  · assumption
                  · assumption
                  · assumption
                  · assumption
                  · assumption
                  · assumption
                  · assumption
                  · assumption
                  · exact ob_lt (by omega)
                  · exact ob_idx (by omega)
                  · exact ob_yes (by omega)
                case' true =>
                  refine lp_val false (by (try simp only [bne, Bool.not_eq_true', Bool.not_eq_false', Bool.not_eq_true, Bool.not_eq_false] at h1 h2 h3 h4 h5 h6 h7 h8); simp only [okR, bne, h1, h2, h3, h4, h5, h6, h7, h8, Bool.not_true, Bool.not_false, cond_true, cond_false, Bool.true_and, Bool.false_and, Bool.and_true, Bool.and_false, Bool.or_true, Bool.true_or, Bool.or_false, Bool.false_or]) ?_
                  refine sem_iter (enR_ok gl) hG (p := lpZ) (fuel := 1000) [true, true, false, false, false, true, true, true, true] [(!decide ((f ((i : Int)).toNat).imm > 0), true), (turnR (f ((i : Int)).toNat), true), (!recR (f ((i : Int)).toNat), true), (decide ((i : Int) < (c : Int)), true), ((i : Int) == (p : Int), false), (!mayB (f ((i : Int)).toNat), false), ((f ((i : Int)).toNat).rd != 0, false), (rdF (formZ (f ((i : Int)).toNat).op), true), (pre (decide (((i : Int)).toNat < n)), true), (pre (idxB ((i : Int)) n), true), (decide ((i : Int) ≤ (e : Int)), true)] (by kernel_rfl) (by kernel_rfl) ?_
                  try simp only [Int.toNat_natCast]
                  refine all_cons ?_ <| all_cons ?_ <| all_cons ?_ <| all_cons ?_ <| all_cons ?_ <| all_cons ?_ <| all_cons ?_ <| all_cons ?_ <| all_cons ?_ <| all_cons ?_ <| all_cons ?_ <| all_nil
                  · assumption
                  · assumption
                  · assumption
                  · assumption
                  · assumption
                  · assumption
                  · assumption
                  · assumption
                  · exact ob_lt (by omega)
                  · exact ob_idx (by omega)
                  · exact ob_yes (by omega)
        case' true =>
          refine lp_val true (by (try simp only [bne, Bool.not_eq_true', Bool.not_eq_false', Bool.not_eq_true, Bool.not_eq_false] at h1 h2 h3 h4); simp only [okR, bne, h1, h2, h3, h4, Bool.not_true, Bool.not_false, cond_true, cond_false, Bool.true_and, Bool.false_and, Bool.and_true, Bool.and_false, Bool.or_true, Bool.true_or, Bool.or_false, Bool.false_or]) ?_
          refine sem_iter (enR_ok gl) hG (p := lpQ) (fuel := 1000) [true, true, false, false, true] [(pre (inI ((i : Int) + 1)), true), ((i : Int) == (p : Int), true), (!mayB (f ((i : Int)).toNat), false), ((f ((i : Int)).toNat).rd != 0, false), (rdF (formZ (f ((i : Int)).toNat).op), true), (pre (decide (((i : Int)).toNat < n)), true), (pre (idxB ((i : Int)) n), true), (decide ((i : Int) ≤ (e : Int)), true)] (by kernel_rfl) (by kernel_rfl) ?_
          try simp only [Int.toNat_natCast]
          refine all_cons ?_ <| all_cons ?_ <| all_cons ?_ <| all_cons ?_ <| all_cons ?_ <| all_cons ?_ <| all_cons ?_ <| all_cons ?_ <| all_nil
          · exact ob_inI (by omega)
          · assumption
          · assumption
          · assumption
          · assumption
          · exact ob_lt (by omega)
          · exact ob_idx (by omega)
          · exact ob_yes (by omega)
      case' true =>
        refine lp_val false (by (try simp only [bne, Bool.not_eq_true', Bool.not_eq_false', Bool.not_eq_true, Bool.not_eq_false] at h1 h2 h3); simp only [okR, bne, h1, h2, h3, Bool.not_true, Bool.not_false, cond_true, cond_false, Bool.true_and, Bool.false_and, Bool.and_true, Bool.and_false, Bool.or_true, Bool.true_or, Bool.or_false, Bool.false_or]) ?_
        refine sem_iter (enR_ok gl) hG (p := lpZ) (fuel := 1000) [true, true, false, true] [(!mayB (f ((i : Int)).toNat), true), ((f ((i : Int)).toNat).rd != 0, false), (rdF (formZ (f ((i : Int)).toNat).op), true), (pre (decide (((i : Int)).toNat < n)), true), (pre (idxB ((i : Int)) n), true), (decide ((i : Int) ≤ (e : Int)), true)] (by kernel_rfl) (by kernel_rfl) ?_
        try simp only [Int.toNat_natCast]
        refine all_cons ?_ <| all_cons ?_ <| all_cons ?_ <| all_cons ?_ <| all_cons ?_ <| all_cons ?_ <| all_nil
        · assumption
        · assumption
        · assumption
        · exact ob_lt (by omega)
        · exact ob_idx (by omega)
        · exact ob_yes (by omega)
    case' true =>
      cases h3 : (!mayB (f i))
      case' false =>
        cases h4 : ((i : Int) == (p : Int))
        case' false =>
          cases h5 : (decide ((i : Int) < (c : Int)))
          case' false =>
            cases h6 : ((i : Int) == (c : Int))
            case' false =>
              cases h7 : (decide ((i : Int) < (e : Int)))
              case' false =>
                cases h8 : (!turnR (f i))
                case' false =>
                  cases h9 : ((f i).imm != 4 * ((p : Int) - (e : Int)))
                  case' false =>
                    refine lp_val true (by (try simp only [bne, Bool.not_eq_true', Bool.not_eq_false', Bool.not_eq_true, Bool.not_eq_false] at h1 h2 h3 h4 h5 h6 h7 h8 h9); simp only [okR, bne, h1, h2, h3, h4, h5, h6, h7, h8, h9, Bool.not_true, Bool.not_false, cond_true, cond_false, Bool.true_and, Bool.false_and, Bool.and_true, Bool.and_false, Bool.or_true, Bool.true_or, Bool.or_false, Bool.false_or]) ?_
                    refine sem_iter (enR_ok gl) hG (p := lpQ) (fuel := 1000) [true, true, true, false, false, false, false, false, false, false] [(pre (inI ((i : Int) + 1)), true), ((f ((i : Int)).toNat).imm != 4 * ((p : Int) - (e : Int)), false), (pre (inI (4 * ((p : Int) - (e : Int)))), true), (pre (inI ((p : Int) - (e : Int))), true), (!turnR (f ((i : Int)).toNat), false), (decide ((i : Int) < (e : Int)), false), ((i : Int) == (c : Int), false), (decide ((i : Int) < (c : Int)), false), ((i : Int) == (p : Int), false), (!mayB (f ((i : Int)).toNat), false), (pre (decide (((p : Int)).toNat < n)), true), (pre (decide (((p : Int)).toNat < n)), true), (pre (idxB ((p : Int)) n), true), ((f ((i : Int)).toNat).rd != 0, true), (rdF (formZ (f ((i : Int)).toNat).op), true), (pre (decide (((i : Int)).toNat < n)), true), (pre (idxB ((i : Int)) n), true), (decide ((i : Int) ≤ (e : Int)), true)] (by kernel_rfl) (by kernel_rfl) ?_
                    try simp only [Int.toNat_natCast]
                    refine all_cons ?_ <| all_cons ?_ <| all_cons ?_ <| all_cons ?_ <| all_cons ?_ <| all_cons ?_ <| all_cons ?_ <| all_cons ?_ <| all_cons ?_ <| all_cons ?_ <| all_cons ?_ <| all_cons ?_ <| all_cons ?_ <| all_cons ?_ <| all_cons ?_ <| all_cons ?_ <| all_cons ?_ <| all_cons ?_ <| all_nil
                    · exact ob_inI (by omega)
                    · assumption
                    · exact ob_inI (by omega)
                    · exact ob_inI (by omega)
                    · assumption
                    · assumption
                    · assumption
                    · assumption
                    · assumption
                    · assumption
                    · exact ob_lt (by omega)
                    · exact ob_lt (by omega)
                    · exact ob_idx (by omega)
                    · assumption
                    · assumption
                    · exact ob_lt (by omega)
                    · exact ob_idx (by omega)
                    · exact ob_yes (by omega)
                  case' true =>
                    refine lp_val false (by (try simp only [bne, Bool.not_eq_true', Bool.not_eq_false', Bool.not_eq_true, Bool.not_eq_false] at h1 h2 h3 h4 h5 h6 h7 h8 h9); simp only [okR, bne, h1, h2, h3, h4, h5, h6, h7, h8, h9, Bool.not_true, Bool.not_false, cond_true, cond_false, Bool.true_and, Bool.false_and, Bool.and_true, Bool.and_false, Bool.or_true, Bool.true_or, Bool.or_false, Bool.false_or]) ?_
                    refine sem_iter (enR_ok gl) hG (p := lpZ) (fuel := 1000) [true, true, true, false, false, false, false, false, false, true] [((f ((i : Int)).toNat).imm != 4 * ((p : Int) - (e : Int)), true), (pre (inI (4 * ((p : Int) - (e : Int)))), true), (pre (inI ((p : Int) - (e : Int))), true), (!turnR (f ((i : Int)).toNat), false), (decide ((i : Int) < (e : Int)), false), ((i : Int) == (c : Int), false), (decide ((i : Int) < (c : Int)), false), ((i : Int) == (p : Int), false), (!mayB (f ((i : Int)).toNat), false), (pre (decide (((p : Int)).toNat < n)), true), (pre (decide (((p : Int)).toNat < n)), true), (pre (idxB ((p : Int)) n), true), ((f ((i : Int)).toNat).rd != 0, true), (rdF (formZ (f ((i : Int)).toNat).op), true), (pre (decide (((i : Int)).toNat < n)), true), (pre (idxB ((i : Int)) n), true), (decide ((i : Int) ≤ (e : Int)), true)] (by kernel_rfl) (by kernel_rfl) ?_
                    try simp only [Int.toNat_natCast]
                    refine all_cons ?_ <| all_cons ?_ <| all_cons ?_ <| all_cons ?_ <| all_cons ?_ <| all_cons ?_ <| all_cons ?_ <| all_cons ?_ <| all_cons ?_ <| all_cons ?_ <| all_cons ?_ <| all_cons ?_ <| all_cons ?_ <| all_cons ?_ <| all_cons ?_ <| all_cons ?_ <| all_cons ?_ <| all_nil
                    · assumption
                    · exact ob_inI (by omega)
                    · exact ob_inI (by omega)
                    · assumption
                    · assumption
                    · assumption
                    · assumption
                    · assumption
                    · assumption
                    · exact ob_lt (by omega)
                    · exact ob_lt (by omega)
                    · exact ob_idx (by omega)
                    · assumption
                    · assumption
                    · exact ob_lt (by omega)
                    · exact ob_idx (by omega)
                    · exact ob_yes (by omega)
                case' true =>
                  refine lp_val false (by (try simp only [bne, Bool.not_eq_true', Bool.not_eq_false', Bool.not_eq_true, Bool.not_eq_false] at h1 h2 h3 h4 h5 h6 h7 h8); simp only [okR, bne, h1, h2, h3, h4, h5, h6, h7, h8, Bool.not_true, Bool.not_false, cond_true, cond_false, Bool.true_and, Bool.false_and, Bool.and_true, Bool.and_false, Bool.or_true, Bool.true_or, Bool.or_false, Bool.false_or]) ?_
                  refine sem_iter (enR_ok gl) hG (p := lpZ) (fuel := 1000) [true, true, true, false, false, false, false, false, true] [(!turnR (f ((i : Int)).toNat), true), (decide ((i : Int) < (e : Int)), false), ((i : Int) == (c : Int), false), (decide ((i : Int) < (c : Int)), false), ((i : Int) == (p : Int), false), (!mayB (f ((i : Int)).toNat), false), (pre (decide (((p : Int)).toNat < n)), true), (pre (decide (((p : Int)).toNat < n)), true), (pre (idxB ((p : Int)) n), true), ((f ((i : Int)).toNat).rd != 0, true), (rdF (formZ (f ((i : Int)).toNat).op), true), (pre (decide (((i : Int)).toNat < n)), true), (pre (idxB ((i : Int)) n), true), (decide ((i : Int) ≤ (e : Int)), true)] (by kernel_rfl) (by kernel_rfl) ?_
                  try simp only [Int.toNat_natCast]
                  refine all_cons ?_ <| all_cons ?_ <| all_cons ?_ <| all_cons ?_ <| all_cons ?_ <| all_cons ?_ <| all_cons ?_ <| all_cons ?_ <| all_cons ?_ <| all_cons ?_ <| all_cons ?_ <| all_cons ?_ <| all_cons ?_ <| all_cons ?_ <| all_nil
                  · assumption
                  · assumption
                  · assumption
                  · assumption
                  · assumption
                  · assumption
                  · exact ob_lt (by omega)
                  · exact ob_lt (by omega)
                  · exact ob_idx (by omega)
                  · assumption
                  · assumption
                  · exact ob_lt (by omega)
                  · exact ob_idx (by omega)
                  · exact ob_yes (by omega)
              case' true =>
                cases h8 : (!recR (f i))
                case' false =>
                  refine lp_val true (by (try simp only [bne, Bool.not_eq_true', Bool.not_eq_false', Bool.not_eq_true, Bool.not_eq_false] at h1 h2 h3 h4 h5 h6 h7 h8); simp only [okR, bne, h1, h2, h3, h4, h5, h6, h7, h8, Bool.not_true, Bool.not_false, cond_true, cond_false, Bool.true_and, Bool.false_and, Bool.and_true, Bool.and_false, Bool.or_true, Bool.true_or, Bool.or_false, Bool.false_or]) ?_
                  refine sem_iter (enR_ok gl) hG (p := lpQ) (fuel := 1000) [true, true, true, false, false, false, false, true, false] [(pre (inI ((i : Int) + 1)), true), (!recR (f ((i : Int)).toNat), false), (decide ((i : Int) < (e : Int)), true), ((i : Int) == (c : Int), false), (decide ((i : Int) < (c : Int)), false), ((i : Int) == (p : Int), false), (!mayB (f ((i : Int)).toNat), false), (pre (decide (((p : Int)).toNat < n)), true), (pre (decide (((p : Int)).toNat < n)), true), (pre (idxB ((p : Int)) n), true), ((f ((i : Int)).toNat).rd != 0, true), (rdF (formZ (f ((i : Int)).toNat).op), true), (pre (decide (((i : Int)).toNat < n)), true), (pre (idxB ((i : Int)) n), true), (decide ((i : Int) ≤ (e : Int)), true)] (by kernel_rfl) (by kernel_rfl) ?_
                  try simp only [Int.toNat_natCast]
                  refine all_cons ?_ <| all_cons ?_ <| all_cons ?_ <| all_cons ?_ <| all_cons ?_ <| all_cons ?_ <| all_cons ?_ <| all_cons ?_ <| all_cons ?_ <| all_cons ?_ <| all_cons ?_ <| all_cons ?_ <| all_cons ?_ <| all_cons ?_ <| all_cons ?_ <| all_nil
                  · exact ob_inI (by omega)
                  · assumption
                  · assumption
                  · assumption
                  · assumption
                  · assumption
                  · assumption
                  · exact ob_lt (by omega)
                  · exact ob_lt (by omega)
                  · exact ob_idx (by omega)
                  · assumption
                  · assumption
                  · exact ob_lt (by omega)
                  · exact ob_idx (by omega)
                  · exact ob_yes (by omega)
                case' true =>
                  cases h9 : (turnR (f i))
                  case' false =>
                    refine lp_val false (by (try simp only [bne, Bool.not_eq_true', Bool.not_eq_false', Bool.not_eq_true, Bool.not_eq_false] at h1 h2 h3 h4 h5 h6 h7 h8 h9); simp only [okR, bne, h1, h2, h3, h4, h5, h6, h7, h8, h9, Bool.not_true, Bool.not_false, cond_true, cond_false, Bool.true_and, Bool.false_and, Bool.and_true, Bool.and_false, Bool.or_true, Bool.true_or, Bool.or_false, Bool.false_or]) ?_
                    refine sem_iter (enR_ok gl) hG (p := lpZ) (fuel := 1000) [true, true, true, false, false, false, false, true, true, false] [(turnR (f ((i : Int)).toNat), false), (!recR (f ((i : Int)).toNat), true), (decide ((i : Int) < (e : Int)), true), ((i : Int) == (c : Int), false), (decide ((i : Int) < (c : Int)), false), ((i : Int) == (p : Int), false), (!mayB (f ((i : Int)).toNat), false), (pre (decide (((p : Int)).toNat < n)), true), (pre (decide (((p : Int)).toNat < n)), true), (pre (idxB ((p : Int)) n), true), ((f ((i : Int)).toNat).rd != 0, true), (rdF (formZ (f ((i : Int)).toNat).op), true), (pre (decide (((i : Int)).toNat < n)), true), (pre (idxB ((i : Int)) n), true), (decide ((i : Int) ≤ (e : Int)), true)] (by kernel_rfl) (by kernel_rfl) ?_
                    try simp only [Int.toNat_natCast]
                    refine all_cons ?_ <| all_cons ?_ <| all_cons ?_ <| all_cons ?_ <| all_cons ?_ <| all_cons ?_ <| all_cons ?_ <| all_cons ?_ <| all_cons ?_ <| all_cons ?_ <| all_cons ?_ <| all_cons ?_ <| all_cons ?_ <| all_cons ?_ <| all_cons ?_ <| all_nil
                    · assumption
                    · assumption
                    · assumption
                    · assumption
                    · assumption
                    · assumption
                    · assumption
                    · exact ob_lt (by omega)
                    · exact ob_lt (by omega)
                    · exact ob_idx (by omega)
                    · assumption
                    · assumption
                    · exact ob_lt (by omega)
                    · exact ob_idx (by omega)
                    · exact ob_yes (by omega)
                  case' true =>
                    cases h10 : (!decide ((f i).imm > 0))
                    case' false =>
                      refine lp_val true (by (try simp only [bne, Bool.not_eq_true', Bool.not_eq_false', Bool.not_eq_true, Bool.not_eq_false] at h1 h2 h3 h4 h5 h6 h7 h8 h9 h10); simp only [okR, bne, h1, h2, h3, h4, h5, h6, h7, h8, h9, h10, Bool.not_true, Bool.not_false, cond_true, cond_false, Bool.true_and, Bool.false_and, Bool.and_true, Bool.and_false, Bool.or_true, Bool.true_or, Bool.or_false, Bool.false_or]) ?_
                      refine sem_iter (enR_ok gl) hG (p := lpQ) (fuel := 1000) [true, true, true, false, false, false, false, true, true, true, false] [(pre (inI ((i : Int) + 1)), true), (!decide ((f ((i : Int)).toNat).imm > 0), false), (turnR (f ((i : Int)).toNat), true), (!recR (f ((i : Int)).toNat), true), (decide ((i : Int) < (e : Int)), true), ((i : Int) == (c : Int), false), (decide ((i : Int) < (c : Int)), false), ((i : Int) == (p : Int), false), (!mayB (f ((i : Int)).toNat), false), (pre (decide (((p : Int)).toNat < n)), true), (pre (decide (((p : Int)).toNat < n)), true), (pre (idxB ((p : Int)) n), true), ((f ((i : Int)).toNat).rd != 0, true), (rdF (formZ (f ((i : Int)).toNat).op), true), (pre (decide (((i : Int)).toNat < n)), true), (pre (idxB ((i : Int)) n), true), (decide ((i : Int) ≤ (e : Int)), true)] (by kernel_rfl) (by kernel_rfl) ?_
                      try simp only [Int.toNat_natCast]
                      refine all_cons ?_ <| all_cons ?_ <| all_cons ?_ <| all_cons ?_ <| all_cons ?_ <| all_cons ?_ <| all_cons ?_ <| all_cons ?_ <| all_cons ?_ <| all_cons ?_ <| all_cons ?_ <| all_cons ?_ <| all_cons ?_ <| all_cons ?_ <| all_cons ?_ <| all_cons ?_ <| all_cons ?_ <| all_nil
                      · exact ob_inI (by omega)
                      · assumption
                      · assumption
                      · assumption
                      · assumption
                      · assumption
                      · assumption
                      · assumption
                      · assumption
                      · exact ob_lt (by omega)
                      · exact ob_lt (by omega)
                      · exact ob_idx (by omega)
                      · assumption
                      · assumption
                      · exact ob_lt (by omega)
                      · exact ob_idx (by omega)
                      · exact ob_yes (by omega)
                    case' true =>
                      refine lp_val false (by (try simp only [bne, Bool.not_eq_true', Bool.not_eq_false', Bool.not_eq_true, Bool.not_eq_false] at h1 h2 h3 h4 h5 h6 h7 h8 h9 h10); simp only [okR, bne, h1, h2, h3, h4, h5, h6, h7, h8, h9, h10, Bool.not_true, Bool.not_false, cond_true, cond_false, Bool.true_and, Bool.false_and, Bool.and_true, Bool.and_false, Bool.or_true, Bool.true_or, Bool.or_false, Bool.false_or]) ?_
                      refine sem_iter (enR_ok gl) hG (p := lpZ) (fuel := 1000) [true, true, true, false, false, false, false, true, true, true, true] [(!decide ((f ((i : Int)).toNat).imm > 0), true), (turnR (f ((i : Int)).toNat), true), (!recR (f ((i : Int)).toNat), true), (decide ((i : Int) < (e : Int)), true), ((i : Int) == (c : Int), false), (decide ((i : Int) < (c : Int)), false), ((i : Int) == (p : Int), false), (!mayB (f ((i : Int)).toNat), false), (pre (decide (((p : Int)).toNat < n)), true), (pre (decide (((p : Int)).toNat < n)), true), (pre (idxB ((p : Int)) n), true), ((f ((i : Int)).toNat).rd != 0, true), (rdF (formZ (f ((i : Int)).toNat).op), true), (pre (decide (((i : Int)).toNat < n)), true), (pre (idxB ((i : Int)) n), true), (decide ((i : Int) ≤ (e : Int)), true)] (by kernel_rfl) (by kernel_rfl) ?_
                      try simp only [Int.toNat_natCast]
                      refine all_cons ?_ <| all_cons ?_ <| all_cons ?_ <| all_cons ?_ <| all_cons ?_ <| all_cons ?_ <| all_cons ?_ <| all_cons ?_ <| all_cons ?_ <| all_cons ?_ <| all_cons ?_ <| all_cons ?_ <| all_cons ?_ <| all_cons ?_ <| all_cons ?_ <| all_cons ?_ <| all_nil
                      · assumption
                      · assumption
                      · assumption
                      · assumption
                      · assumption
                      · assumption
                      · assumption
                      · assumption
                      · exact ob_lt (by omega)
                      · exact ob_lt (by omega)
                      · exact ob_idx (by omega)
                      · assumption
                      · assumption
                      · exact ob_lt (by omega)
                      · exact ob_idx (by omega)
                      · exact ob_yes (by omega)
            case' true =>
              cases h7 : (!conI (f i))
              case' false =>
                cases h8 : ((f i).a != (f p).a)
                case' false =>
                  cases h9 : (!((f i).op == 67) == ((f p).op == 66))
                  case' false =>
                    refine lp_val true (by (try simp only [bne, Bool.not_eq_true', Bool.not_eq_false', Bool.not_eq_true, Bool.not_eq_false] at h1 h2 h3 h4 h5 h6 h7 h8 h9); simp only [okR, bne, h1, h2, h3, h4, h5, h6, h7, h8, h9, Bool.not_true, Bool.not_false, cond_true, cond_false, Bool.true_and, Bool.false_and, Bool.and_true, Bool.and_false, Bool.or_true, Bool.true_or, Bool.or_false, Bool.false_or]) ?_
                    refine sem_iter (enR_ok gl) hG (p := lpQ) (fuel := 1000) [true, true, true, false, false, false, true, false, false, false] [(pre (inI ((i : Int) + 1)), true), (!((f ((i : Int)).toNat).op == 67) == ((f ((p : Int)).toNat).op == 66), false), (pre (decide (((p : Int)).toNat < n)), true), (pre (decide (((p : Int)).toNat < n)), true), (pre (idxB ((p : Int)) n), true), ((f ((i : Int)).toNat).a != (f ((p : Int)).toNat).a, false), (pre (decide (((p : Int)).toNat < n)), true), (pre (decide (((p : Int)).toNat < n)), true), (pre (idxB ((p : Int)) n), true), (!conI (f ((i : Int)).toNat), false), ((i : Int) == (c : Int), true), (decide ((i : Int) < (c : Int)), false), ((i : Int) == (p : Int), false), (!mayB (f ((i : Int)).toNat), false), (pre (decide (((p : Int)).toNat < n)), true), (pre (decide (((p : Int)).toNat < n)), true), (pre (idxB ((p : Int)) n), true), ((f ((i : Int)).toNat).rd != 0, true), (rdF (formZ (f ((i : Int)).toNat).op), true), (pre (decide (((i : Int)).toNat < n)), true), (pre (idxB ((i : Int)) n), true), (decide ((i : Int) ≤ (e : Int)), true)] (by kernel_rfl) (by kernel_rfl) ?_
                    try simp only [Int.toNat_natCast]
                    refine all_cons ?_ <| all_cons ?_ <| all_cons ?_ <| all_cons ?_ <| all_cons ?_ <| all_cons ?_ <| all_cons ?_ <| all_cons ?_ <| all_cons ?_ <| all_cons ?_ <| all_cons ?_ <| all_cons ?_ <| all_cons ?_ <| all_cons ?_ <| all_cons ?_ <| all_cons ?_ <| all_cons ?_ <| all_cons ?_ <| all_cons ?_ <| all_cons ?_ <| all_cons ?_ <| all_cons ?_ <| all_nil
                    · exact ob_inI (by omega)
                    · assumption
                    · exact ob_lt (by omega)
                    · exact ob_lt (by omega)
                    · exact ob_idx (by omega)
                    · assumption
                    · exact ob_lt (by omega)
                    · exact ob_lt (by omega)
                    · exact ob_idx (by omega)
                    · assumption
                    · assumption
                    · assumption
                    · assumption
                    · assumption
                    · exact ob_lt (by omega)
                    · exact ob_lt (by omega)
                    · exact ob_idx (by omega)
                    · assumption
                    · assumption
                    · exact ob_lt (by omega)
                    · exact ob_idx (by omega)
                    · exact ob_yes (by omega)
                  case' true =>
                    refine lp_val false (by (try simp only [bne, Bool.not_eq_true', Bool.not_eq_false', Bool.not_eq_true, Bool.not_eq_false] at h1 h2 h3 h4 h5 h6 h7 h8 h9); simp only [okR, bne, h1, h2, h3, h4, h5, h6, h7, h8, h9, Bool.not_true, Bool.not_false, cond_true, cond_false, Bool.true_and, Bool.false_and, Bool.and_true, Bool.and_false, Bool.or_true, Bool.true_or, Bool.or_false, Bool.false_or]) ?_
                    refine sem_iter (enR_ok gl) hG (p := lpZ) (fuel := 1000) [true, true, true, false, false, false, true, false, false, true] [(!((f ((i : Int)).toNat).op == 67) == ((f ((p : Int)).toNat).op == 66), true), (pre (decide (((p : Int)).toNat < n)), true), (pre (decide (((p : Int)).toNat < n)), true), (pre (idxB ((p : Int)) n), true), ((f ((i : Int)).toNat).a != (f ((p : Int)).toNat).a, false), (pre (decide (((p : Int)).toNat < n)), true), (pre (decide (((p : Int)).toNat < n)), true), (pre (idxB ((p : Int)) n), true), (!conI (f ((i : Int)).toNat), false), ((i : Int) == (c : Int), true), (decide ((i : Int) < (c : Int)), false), ((i : Int) == (p : Int), false), (!mayB (f ((i : Int)).toNat), false), (pre (decide (((p : Int)).toNat < n)), true), (pre (decide (((p : Int)).toNat < n)), true), (pre (idxB ((p : Int)) n), true), ((f ((i : Int)).toNat).rd != 0, true), (rdF (formZ (f ((i : Int)).toNat).op), true), (pre (decide (((i : Int)).toNat < n)), true), (pre (idxB ((i : Int)) n), true), (decide ((i : Int) ≤ (e : Int)), true)] (by kernel_rfl) (by kernel_rfl) ?_
                    try simp only [Int.toNat_natCast]
                    refine all_cons ?_ <| all_cons ?_ <| all_cons ?_ <| all_cons ?_ <| all_cons ?_ <| all_cons ?_ <| all_cons ?_ <| all_cons ?_ <| all_cons ?_ <| all_cons ?_ <| all_cons ?_ <| all_cons ?_ <| all_cons ?_ <| all_cons ?_ <| all_cons ?_ <| all_cons ?_ <| all_cons ?_ <| all_cons ?_ <| all_cons ?_ <| all_cons ?_ <| all_cons ?_ <| all_nil
                    · assumption
                    · exact ob_lt (by omega)
                    · exact ob_lt (by omega)
                    · exact ob_idx (by omega)
                    · assumption
                    · exact ob_lt (by omega)
                    · exact ob_lt (by omega)
                    · exact ob_idx (by omega)
                    · assumption
                    · assumption
                    · assumption
                    · assumption
                    · assumption
                    · exact ob_lt (by omega)
                    · exact ob_lt (by omega)
                    · exact ob_idx (by omega)
                    · assumption
                    · assumption
                    · exact ob_lt (by omega)
                    · exact ob_idx (by omega)
                    · exact ob_yes (by omega)
                case' true =>
                  refine lp_val false (by (try simp only [bne, Bool.not_eq_true', Bool.not_eq_false', Bool.not_eq_true, Bool.not_eq_false] at h1 h2 h3 h4 h5 h6 h7 h8); simp only [okR, bne, h1, h2, h3, h4, h5, h6, h7, h8, Bool.not_true, Bool.not_false, cond_true, cond_false, Bool.true_and, Bool.false_and, Bool.and_true, Bool.and_false, Bool.or_true, Bool.true_or, Bool.or_false, Bool.false_or]) ?_
                  refine sem_iter (enR_ok gl) hG (p := lpZ) (fuel := 1000) [true, true, true, false, false, false, true, false, true] [((f ((i : Int)).toNat).a != (f ((p : Int)).toNat).a, true), (pre (decide (((p : Int)).toNat < n)), true), (pre (decide (((p : Int)).toNat < n)), true), (pre (idxB ((p : Int)) n), true), (!conI (f ((i : Int)).toNat), false), ((i : Int) == (c : Int), true), (decide ((i : Int) < (c : Int)), false), ((i : Int) == (p : Int), false), (!mayB (f ((i : Int)).toNat), false), (pre (decide (((p : Int)).toNat < n)), true), (pre (decide (((p : Int)).toNat < n)), true), (pre (idxB ((p : Int)) n), true), ((f ((i : Int)).toNat).rd != 0, true), (rdF (formZ (f ((i : Int)).toNat).op), true), (pre (decide (((i : Int)).toNat < n)), true), (pre (idxB ((i : Int)) n), true), (decide ((i : Int) ≤ (e : Int)), true)] (by kernel_rfl) (by kernel_rfl) ?_
                  try simp only [Int.toNat_natCast]
                  refine all_cons ?_ <| all_cons ?_ <| all_cons ?_ <| all_cons ?_ <| all_cons ?_ <| all_cons ?_ <| all_cons ?_ <| all_cons ?_ <| all_cons ?_ <| all_cons ?_ <| all_cons ?_ <| all_cons ?_ <| all_cons ?_ <| all_cons ?_ <| all_cons ?_ <| all_cons ?_ <| all_cons ?_ <| all_nil
                  · assumption
                  · exact ob_lt (by omega)
                  · exact ob_lt (by omega)
                  · exact ob_idx (by omega)
                  · assumption
                  · assumption
                  · assumption
                  · assumption
                  · assumption
                  · exact ob_lt (by omega)
                  · exact ob_lt (by omega)
                  · exact ob_idx (by omega)
                  · assumption
                  · assumption
                  · exact ob_lt (by omega)
                  · exact ob_idx (by omega)
                  · exact ob_yes (by omega)
              case' true =>
                refine lp_val false (by (try simp only [bne, Bool.not_eq_true', Bool.not_eq_false', Bool.not_eq_true, Bool.not_eq_false] at h1 h2 h3 h4 h5 h6 h7); simp only [okR, bne, h1, h2, h3, h4, h5, h6, h7, Bool.not_true, Bool.not_false, cond_true, cond_false, Bool.true_and, Bool.false_and, Bool.and_true, Bool.and_false, Bool.or_true, Bool.true_or, Bool.or_false, Bool.false_or]) ?_
                refine sem_iter (enR_ok gl) hG (p := lpZ) (fuel := 1000) [true, true, true, false, false, false, true, true] [(!conI (f ((i : Int)).toNat), true), ((i : Int) == (c : Int), true), (decide ((i : Int) < (c : Int)), false), ((i : Int) == (p : Int), false), (!mayB (f ((i : Int)).toNat), false), (pre (decide (((p : Int)).toNat < n)), true), (pre (decide (((p : Int)).toNat < n)), true), (pre (idxB ((p : Int)) n), true), ((f ((i : Int)).toNat).rd != 0, true), (rdF (formZ (f ((i : Int)).toNat).op), true), (pre (decide (((i : Int)).toNat < n)), true), (pre (idxB ((i : Int)) n), true), (decide ((i : Int) ≤ (e : Int)), true)] (by kernel_rfl) (by kernel_rfl) ?_
                try simp only [Int.toNat_natCast]
                refine all_cons ?_ <| all_cons ?_ <| all_cons ?_ <| all_cons ?_ <| all_cons ?_ <| all_cons ?_ <| all_cons ?_ <| all_cons ?_ <| all_cons ?_ <| all_cons ?_ <| all_cons ?_ <| all_cons ?_ <| all_cons ?_ <| all_nil
                · assumption
                · assumption
                · assumption
                · assumption
                · assumption
                · exact ob_lt (by omega)
                · exact ob_lt (by omega)
                · exact ob_idx (by omega)
                · assumption
                · assumption
                · exact ob_lt (by omega)
                · exact ob_idx (by omega)
                · exact ob_yes (by omega)
          case' true =>
            cases h6 : ((f i).rd == (f p).a)
            case' false =>
              cases h7 : (!recR (f i))
              case' false =>
                refine lp_val true (by (try simp only [bne, Bool.not_eq_true', Bool.not_eq_false', Bool.not_eq_true, Bool.not_eq_false] at h1 h2 h3 h4 h5 h6 h7); simp only [okR, bne, h1, h2, h3, h4, h5, h6, h7, Bool.not_true, Bool.not_false, cond_true, cond_false, Bool.true_and, Bool.false_and, Bool.and_true, Bool.and_false, Bool.or_true, Bool.true_or, Bool.or_false, Bool.false_or]) ?_
                refine sem_iter (enR_ok gl) hG (p := lpQ) (fuel := 1000) [true, true, true, false, false, true, false, false] [(pre (inI ((i : Int) + 1)), true), (!recR (f ((i : Int)).toNat), false), ((f ((i : Int)).toNat).rd == (f ((p : Int)).toNat).a, false), (decide ((i : Int) < (c : Int)), true), ((i : Int) == (p : Int), false), (!mayB (f ((i : Int)).toNat), false), (pre (decide (((p : Int)).toNat < n)), true), (pre (decide (((p : Int)).toNat < n)), true), (pre (idxB ((p : Int)) n), true), ((f ((i : Int)).toNat).rd != 0, true), (rdF (formZ (f ((i : Int)).toNat).op), true), (pre (decide (((i : Int)).toNat < n)), true), (pre (idxB ((i : Int)) n), true), (decide ((i : Int) ≤ (e : Int)), true)] (by kernel_rfl) (by kernel_rfl) ?_
                try simp only [Int.toNat_natCast]
                refine all_cons ?_ <| all_cons ?_ <| all_cons ?_ <| all_cons ?_ <| all_cons ?_ <| all_cons ?_ <| all_cons ?_ <| all_cons ?_ <| all_cons ?_ <| all_cons ?_ <| all_cons ?_ <| all_cons ?_ <| all_cons ?_ <| all_cons ?_ <| all_nil
                · exact ob_inI (by omega)
                · assumption
                · assumption
                · assumption
                · assumption
                · assumption
                · exact ob_lt (by omega)
                · exact ob_lt (by omega)
                · exact ob_idx (by omega)
                · assumption
                · assumption
                · exact ob_lt (by omega)
                · exact ob_idx (by omega)
                · exact ob_yes (by omega)
              case' true =>
                cases h8 : (turnR (f i))
                case' false =>
                  refine lp_val false (by (try simp only [bne, Bool.not_eq_true', Bool.not_eq_false', Bool.not_eq_true, Bool.not_eq_false] at h1 h2 h3 h4 h5 h6 h7 h8); simp only [okR, bne, h1, h2, h3, h4, h5, h6, h7, h8, Bool.not_true, Bool.not_false, cond_true, cond_false, Bool.true_and, Bool.false_and, Bool.and_true, Bool.and_false, Bool.or_true, Bool.true_or, Bool.or_false, Bool.false_or]) ?_
                  refine sem_iter (enR_ok gl) hG (p := lpZ) (fuel := 1000) [true, true, true, false, false, true, false, true, false] [(turnR (f ((i : Int)).toNat), false), (!recR (f ((i : Int)).toNat), true), ((f ((i : Int)).toNat).rd == (f ((p : Int)).toNat).a, false), (decide ((i : Int) < (c : Int)), true), ((i : Int) == (p : Int), false), (!mayB (f ((i : Int)).toNat), false), (pre (decide (((p : Int)).toNat < n)), true), (pre (decide (((p : Int)).toNat < n)), true), (pre (idxB ((p : Int)) n), true), ((f ((i : Int)).toNat).rd != 0, true), (rdF (formZ (f ((i : Int)).toNat).op), true), (pre (decide (((i : Int)).toNat < n)), true), (pre (idxB ((i : Int)) n), true), (decide ((i : Int) ≤ (e : Int)), true)] (by kernel_rfl) (by kernel_rfl) ?_
                  try simp only [Int.toNat_natCast]
                  refine all_cons ?_ <| all_cons ?_ <| all_cons ?_ <| all_cons ?_ <| all_cons ?_ <| all_cons ?_ <| all_cons ?_ <| all_cons ?_ <| all_cons ?_ <| all_cons ?_ <| all_cons ?_ <| all_cons ?_ <| all_cons ?_ <| all_cons ?_ <| all_nil
                  · assumption
                  · assumption
                  · assumption
                  · assumption
                  · assumption
                  · assumption
                  · exact ob_lt (by omega)
                  · exact ob_lt (by omega)
                  · exact ob_idx (by omega)
                  · assumption
                  · assumption
                  · exact ob_lt (by omega)
                  · exact ob_idx (by omega)
                  · exact ob_yes (by omega)
                case' true =>
                  cases h9 : (!decide ((f i).imm > 0))
                  case' false =>
                    refine lp_val true (by (try simp only [bne, Bool.not_eq_true', Bool.not_eq_false', Bool.not_eq_true, Bool.not_eq_false] at h1 h2 h3 h4 h5 h6 h7 h8 h9); simp only [okR, bne, h1, h2, h3, h4, h5, h6, h7, h8, h9, Bool.not_true, Bool.not_false, cond_true, cond_false, Bool.true_and, Bool.false_and, Bool.and_true, Bool.and_false, Bool.or_true, Bool.true_or, Bool.or_false, Bool.false_or]) ?_
                    refine sem_iter (enR_ok gl) hG (p := lpQ) (fuel := 1000) [true, true, true, false, false, true, false, true, true, false] [(pre (inI ((i : Int) + 1)), true), (!decide ((f ((i : Int)).toNat).imm > 0), false), (turnR (f ((i : Int)).toNat), true), (!recR (f ((i : Int)).toNat), true), ((f ((i : Int)).toNat).rd == (f ((p : Int)).toNat).a, false), (decide ((i : Int) < (c : Int)), true), ((i : Int) == (p : Int), false), (!mayB (f ((i : Int)).toNat), false), (pre (decide (((p : Int)).toNat < n)), true), (pre (decide (((p : Int)).toNat < n)), true), (pre (idxB ((p : Int)) n), true), ((f ((i : Int)).toNat).rd != 0, true), (rdF (formZ (f ((i : Int)).toNat).op), true), (pre (decide (((i : Int)).toNat < n)), true), (pre (idxB ((i : Int)) n), true), (decide ((i : Int) ≤ (e : Int)), true)] (by kernel_rfl) (by kernel_rfl) ?_
                    try simp only [Int.toNat_natCast]
                    refine all_cons ?_ <| all_cons ?_ <| all_cons ?_ <| all_cons ?_ <| all_cons ?_ <| all_cons ?_ <| all_cons ?_ <| all_cons ?_ <| all_cons ?_ <| all_cons ?_ <| all_cons ?_ <| all_cons ?_ <| all_cons ?_ <| all_cons ?_ <| all_cons ?_ <| all_cons ?_ <| all_nil
                    · exact ob_inI (by omega)
                    · assumption
                    · assumption
                    · assumption
                    · assumption
                    · assumption
                    · assumption
                    · assumption
                    · exact ob_lt (by omega)
                    · exact ob_lt (by omega)
                    · exact ob_idx (by omega)
                    · assumption
                    · assumption
                    · exact ob_lt (by omega)
                    · exact ob_idx (by omega)
                    · exact ob_yes (by omega)
                  case' true =>
                    refine lp_val false (by (try simp only [bne, Bool.not_eq_true', Bool.not_eq_false', Bool.not_eq_true, Bool.not_eq_false] at h1 h2 h3 h4 h5 h6 h7 h8 h9); simp only [okR, bne, h1, h2, h3, h4, h5, h6, h7, h8, h9, Bool.not_true, Bool.not_false, cond_true, cond_false, Bool.true_and, Bool.false_and, Bool.and_true, Bool.and_false, Bool.or_true, Bool.true_or, Bool.or_false, Bool.false_or]) ?_
                    refine sem_iter (enR_ok gl) hG (p := lpZ) (fuel := 1000) [true, true, true, false, false, true, false, true, true, true] [(!decide ((f ((i : Int)).toNat).imm > 0), true), (turnR (f ((i : Int)).toNat), true), (!recR (f ((i : Int)).toNat), true), ((f ((i : Int)).toNat).rd == (f ((p : Int)).toNat).a, false), (decide ((i : Int) < (c : Int)), true), ((i : Int) == (p : Int), false), (!mayB (f ((i : Int)).toNat), false), (pre (decide (((p : Int)).toNat < n)), true), (pre (decide (((p : Int)).toNat < n)), true), (pre (idxB ((p : Int)) n), true), ((f ((i : Int)).toNat).rd != 0, true), (rdF (formZ (f ((i : Int)).toNat).op), true), (pre (decide (((i : Int)).toNat < n)), true), (pre (idxB ((i : Int)) n), true), (decide ((i : Int) ≤ (e : Int)), true)] (by kernel_rfl) (by kernel_rfl) ?_
                    try simp only [Int.toNat_natCast]
                    refine all_cons ?_ <| all_cons ?_ <| all_cons ?_ <| all_cons ?_ <| all_cons ?_ <| all_cons ?_ <| all_cons ?_ <| all_cons ?_ <| all_cons ?_ <| all_cons ?_ <| all_cons ?_ <| all_cons ?_ <| all_cons ?_ <| all_cons ?_ <| all_cons ?_ <| all_nil
                    · assumption
                    · assumption
                    · assumption
                    · assumption
                    · assumption
                    · assumption
                    · assumption
                    · exact ob_lt (by omega)
                    · exact ob_lt (by omega)
                    · exact ob_idx (by omega)
                    · assumption
                    · assumption
                    · exact ob_lt (by omega)
                    · exact ob_idx (by omega)
                    · exact ob_yes (by omega)
            case' true =>
              refine lp_val false (by (try simp only [bne, Bool.not_eq_true', Bool.not_eq_false', Bool.not_eq_true, Bool.not_eq_false] at h1 h2 h3 h4 h5 h6); simp only [okR, bne, h1, h2, h3, h4, h5, h6, Bool.not_true, Bool.not_false, cond_true, cond_false, Bool.true_and, Bool.false_and, Bool.and_true, Bool.and_false, Bool.or_true, Bool.true_or, Bool.or_false, Bool.false_or]) ?_
              refine sem_iter (enR_ok gl) hG (p := lpZ) (fuel := 1000) [true, true, true, false, false, true, true] [((f ((i : Int)).toNat).rd == (f ((p : Int)).toNat).a, true), (decide ((i : Int) < (c : Int)), true), ((i : Int) == (p : Int), false), (!mayB (f ((i : Int)).toNat), false), (pre (decide (((p : Int)).toNat < n)), true), (pre (decide (((p : Int)).toNat < n)), true), (pre (idxB ((p : Int)) n), true), ((f ((i : Int)).toNat).rd != 0, true), (rdF (formZ (f ((i : Int)).toNat).op), true), (pre (decide (((i : Int)).toNat < n)), true), (pre (idxB ((i : Int)) n), true), (decide ((i : Int) ≤ (e : Int)), true)] (by kernel_rfl) (by kernel_rfl) ?_
              try simp only [Int.toNat_natCast]
              refine all_cons ?_ <| all_cons ?_ <| all_cons ?_ <| all_cons ?_ <| all_cons ?_ <| all_cons ?_ <| all_cons ?_ <| all_cons ?_ <| all_cons ?_ <| all_cons ?_ <| all_cons ?_ <| all_cons ?_ <| all_nil
              · assumption
              · assumption
              · assumption
              · assumption
              · exact ob_lt (by omega)
              · exact ob_lt (by omega)
              · exact ob_idx (by omega)
              · assumption
              · assumption
              · exact ob_lt (by omega)
              · exact ob_idx (by omega)
              · exact ob_yes (by omega)
        case' true =>
          cases h5 : ((f i).rd == (f p).a)
          case' false =>
            refine lp_val true (by (try simp only [bne, Bool.not_eq_true', Bool.not_eq_false', Bool.not_eq_true, Bool.not_eq_false] at h1 h2 h3 h4 h5); simp only [okR, bne, h1, h2, h3, h4, h5, Bool.not_true, Bool.not_false, cond_true, cond_false, Bool.true_and, Bool.false_and, Bool.and_true, Bool.and_false, Bool.or_true, Bool.true_or, Bool.or_false, Bool.false_or]) ?_
            refine sem_iter (enR_ok gl) hG (p := lpQ) (fuel := 1000) [true, true, true, false, true, false] [(pre (inI ((i : Int) + 1)), true), ((f ((i : Int)).toNat).rd == (f ((p : Int)).toNat).a, false), ((i : Int) == (p : Int), true), (!mayB (f ((i : Int)).toNat), false), (pre (decide (((p : Int)).toNat < n)), true), (pre (decide (((p : Int)).toNat < n)), true), (pre (idxB ((p : Int)) n), true), ((f ((i : Int)).toNat).rd != 0, true), (rdF (formZ (f ((i : Int)).toNat).op), true), (pre (decide (((i : Int)).toNat < n)), true), (pre (idxB ((i : Int)) n), true), (decide ((i : Int) ≤ (e : Int)), true)] (by kernel_rfl) (by kernel_rfl) ?_
            try simp only [Int.toNat_natCast]
            refine all_cons ?_ <| all_cons ?_ <| all_cons ?_ <| all_cons ?_ <| all_cons ?_ <| all_cons ?_ <| all_cons ?_ <| all_cons ?_ <| all_cons ?_ <| all_cons ?_ <| all_cons ?_ <| all_cons ?_ <| all_nil
            · exact ob_inI (by omega)
            · assumption
            · assumption
            · assumption
            · exact ob_lt (by omega)
            · exact ob_lt (by omega)
            · exact ob_idx (by omega)
            · assumption
            · assumption
            · exact ob_lt (by omega)
            · exact ob_idx (by omega)
            · exact ob_yes (by omega)
          case' true =>
            refine lp_val false (by (try simp only [bne, Bool.not_eq_true', Bool.not_eq_false', Bool.not_eq_true, Bool.not_eq_false] at h1 h2 h3 h4 h5); simp only [okR, bne, h1, h2, h3, h4, h5, Bool.not_true, Bool.not_false, cond_true, cond_false, Bool.true_and, Bool.false_and, Bool.and_true, Bool.and_false, Bool.or_true, Bool.true_or, Bool.or_false, Bool.false_or]) ?_
            refine sem_iter (enR_ok gl) hG (p := lpZ) (fuel := 1000) [true, true, true, false, true, true] [((f ((i : Int)).toNat).rd == (f ((p : Int)).toNat).a, true), ((i : Int) == (p : Int), true), (!mayB (f ((i : Int)).toNat), false), (pre (decide (((p : Int)).toNat < n)), true), (pre (decide (((p : Int)).toNat < n)), true), (pre (idxB ((p : Int)) n), true), ((f ((i : Int)).toNat).rd != 0, true), (rdF (formZ (f ((i : Int)).toNat).op), true), (pre (decide (((i : Int)).toNat < n)), true), (pre (idxB ((i : Int)) n), true), (decide ((i : Int) ≤ (e : Int)), true)] (by kernel_rfl) (by kernel_rfl) ?_
            try simp only [Int.toNat_natCast]
            refine all_cons ?_ <| all_cons ?_ <| all_cons ?_ <| all_cons ?_ <| all_cons ?_ <| all_cons ?_ <| all_cons ?_ <| all_cons ?_ <| all_cons ?_ <| all_cons ?_ <| all_cons ?_ <| all_nil
            · assumption
            · assumption
            · assumption
            · exact ob_lt (by omega)
            · exact ob_lt (by omega)
            · exact ob_idx (by omega)
            · assumption
            · assumption
            · exact ob_lt (by omega)
            · exact ob_idx (by omega)
            · exact ob_yes (by omega)
      case' true =>
        refine lp_val false (by (try simp only [bne, Bool.not_eq_true', Bool.not_eq_false', Bool.not_eq_true, Bool.not_eq_false] at h1 h2 h3); simp only [okR, bne, h1, h2, h3, Bool.not_true, Bool.not_false, cond_true, cond_false, Bool.true_and, Bool.false_and, Bool.and_true, Bool.and_false, Bool.or_true, Bool.true_or, Bool.or_false, Bool.false_or]) ?_
        refine sem_iter (enR_ok gl) hG (p := lpZ) (fuel := 1000) [true, true, true, true] [(!mayB (f ((i : Int)).toNat), true), (pre (decide (((p : Int)).toNat < n)), true), (pre (decide (((p : Int)).toNat < n)), true), (pre (idxB ((p : Int)) n), true), ((f ((i : Int)).toNat).rd != 0, true), (rdF (formZ (f ((i : Int)).toNat).op), true), (pre (decide (((i : Int)).toNat < n)), true), (pre (idxB ((i : Int)) n), true), (decide ((i : Int) ≤ (e : Int)), true)] (by kernel_rfl) (by kernel_rfl) ?_
        try simp only [Int.toNat_natCast]
        refine all_cons ?_ <| all_cons ?_ <| all_cons ?_ <| all_cons ?_ <| all_cons ?_ <| all_cons ?_ <| all_cons ?_ <| all_cons ?_ <| all_cons ?_ <| all_nil
        · assumption
        · exact ob_lt (by omega)
        · exact ob_lt (by omega)
        · exact ob_idx (by omega)
        · assumption
        · assumption
        · exact ob_lt (by omega)
        · exact ob_idx (by omega)
        · exact ob_yes (by omega)
/-! ### loop -/
theorem lp_end (gl : Gl) (n : Nat) (f : Nat → In) (p c e i : Nat) (hi : e < i) (w : World) (hG : GlobOk gl w) : S2.Sem (enR gl) w 127 lpC (lpS n f p c e i) (some (some 0)) (lpS n f p c e i) := by
  refine sem_iter (enR_ok gl) hG (p := lpQ) (fuel := 1000) [false] [(decide ((i : Int) ≤ (e : Int)), false)] (by kernel_rfl) (by kernel_rfl) ?_
  exact all_cons (ob_no (by omega)) all_nil
/-- Where the reference's loop stops. -/
def lpN (f : Nat → In) (p c e : Nat) : Nat := skipN (okR f p c e) (e + 1 - p) p
theorem loopZ_ex : ∃ h : (Nat → In) → Int → Int → Int → Bool, ∀ f p c e, h f p c e = Nat.beq (lpN f p.toNat c.toNat e.toNat) (e.toNat + 1) := ⟨_, fun _ _ _ _ => rfl⟩
noncomputable def loopZ : (Nat → In) → Int → Int → Int → Bool := Classical.choose loopZ_ex
theorem loopZ_eq (f : Nat → In) (p c e : Int) : loopZ f p c e = Nat.beq (lpN f p.toNat c.toNat e.toNat) (e.toNat + 1) := Classical.choose_spec loopZ_ex f p c e
theorem lp_step (gl : Gl) (n : Nat) (f : Nat → In) (p c e i : Nat) (hn : n ≤ 1000000000000) (hp : p ≤ i) (hi : i ≤ e) (he : e < n) (h : okR f p c e i = true) (w : World) (hG : GlobOk gl w) : S2.Sem (enR gl) w 127 lpC (lpS n f p c e i) none (lpS n f p c e (i + 1)) := by
  have := lp_round gl n f p c e i hn hp hi he w hG
  rw [h] at this; exact this
theorem lp_out (gl : Gl) (n : Nat) (f : Nat → In) (p c e i : Nat) (hn : n ≤ 1000000000000) (hp : p ≤ i) (hi : i ≤ e) (he : e < n) (h : okR f p c e i = false) (w : World) (hG : GlobOk gl w) : S2.Sem (enR gl) w 127 lpC (lpS n f p c e i) (some none) lpF := by
  have := lp_round gl n f p c e i hn hp hi he w hG
  rw [h] at this; exact this
theorem refLoop_ret {gl : Gl} (n : Nat) (f : Nat → In) (p c e : Nat) (hn : n ≤ 1000000000000) (hp : p ≤ e) (he : e < n) (w : World) (vals : List Value) (hG : GlobOk gl w) (ha : ArgsOk w [.inr (insE n f), .inl (.int .i64 p), .inl (.int .i64 c), .inl (.int .i64 e)] vals) :
    LRet Try.prog 20 vals false [.inl (.bool (loopZ f p c e))] w := by
  have h1 := skipN_ge (okR f p c e) (e + 1 - p) p
  have h2 := skipN_le (okR f p c e) (e + 1 - p) p
  have h3 := skipN_all (okR f p c e) (e + 1 - p) p
  have h4 := skipN_fin (okR f p c e) (e + 1 - p) p
  rw [loopZ_eq]
  simp only [Int.toNat_natCast]
  show LRet _ _ _ _ [.inl (.bool (Nat.beq (skipN (okR f p c e) (e + 1 - p) p) (e + 1)))] w
  generalize hs : skipN (okR f p c e) (e + 1 - p) p = s at *
  by_cases h : s = e + 1
  · rw [show Nat.beq s (e + 1) = true from by rw [h]; exact Nat.beq_refl _]
    subst h
    have hl := sem_loop (E := enR gl) (w0 := base0 w) (nb := 0) (nl := 0) (n := 127) (c := lpC) (x := some (some 0)) (s' := lpS n f p c e (p + (e + 1 - p))) (fun j => lpS n f p c e (p + j)) (e + 1 - p) (by simp) (fun j hj => lp_step gl n f p c e (p + j) hn (by omega) (by omega) he (h3 (p + j) (by omega) (by omega)) w hG) (lp_end gl n f p c e (p + (e + 1 - p)) (by omega) w hG)
    rw [Nat.add_sub_cancel' h1] at hl
    refine fn_ok (enR_ok gl) (fuel := 1000) (d := 30) (plan := [⟨lpP, lpQ, some (some 0), lpS n f p c e (e + 1)⟩]) (orc := []) (fls := [[], [true], [true], [true]]) (l := []) (tr := [⟨.loop lpC, lpS n f p c e p, some (some 0), lpS n f p c e (e + 1)⟩]) (by kernel_rfl) (fun _ h => by cases h) Try.func20 w vals hG ha fun t ht => ?_
    obtain rfl := List.mem_singleton.mp ht
    exact hl
  · rw [show Nat.beq s (e + 1) = false from by rw [← Bool.not_eq_true]; exact fun hb => h (Nat.eq_of_beq_eq_true hb)]
    have hf : okR f p c e s = false := by
      cases ho : okR f p c e s
      · rfl
      · have := h4 ho; omega
    have hl := sem_loop (E := enR gl) (w0 := base0 w) (nb := 0) (nl := 0) (n := 127) (c := lpC) (x := some none) (s' := lpF) (fun j => lpS n f p c e (p + j)) (s - p) (by simp) (fun j hj => lp_step gl n f p c e (p + j) hn (by omega) (by omega) he (h3 (p + j) (by omega) (by omega)) w hG) (lp_out gl n f p c e (p + (s - p)) hn (by omega) (by omega) he (by rw [Nat.add_sub_cancel' h1]; exact hf) w hG)
    refine fn_ok (enR_ok gl) (fuel := 1000) (d := 30) (plan := [⟨lpP, lpQ, some none, lpF⟩]) (orc := []) (fls := [[], [true], [true], [true]]) (l := []) (tr := [⟨.loop lpC, lpS n f p c e p, some none, lpF⟩]) (by kernel_rfl) (fun _ h => by cases h) Try.func20 w vals hG ha fun t ht => ?_
    obtain rfl := List.mem_singleton.mp ht
    exact hl
/-- A list of instructions, whoever made it. -/
def isIn (e : LE) (n : Nat) (f : Nat → In) : Prop := e.size = 7 ∧ e.n = n ∧ (∀ j, j < n → e.el j = inC (f j)) ∧ n ≤ 1000000000000
theorem InB.ins {B : Nat} {w : World} {e : LE} {v : Value} {n : Nat} {f : Nat → In} (h : InB B w e v) (he : isIn e n f) : InB B w (insE n f) v := by
  obtain ⟨h1, h2, h3, _⟩ := he
  subst h2
  obtain ⟨_, a, cap, hv, hcap, hc⟩ := h
  refine ⟨⟨by show 0 < 7; decide, fun j hj => ⟨rfl, rfl⟩⟩, a, cap, hv, hcap, fun hp => ?_⟩
  obtain ⟨b, off, ha, hb, hcell⟩ := hc hp
  refine ⟨b, off, ha, hb, fun j hj o c ho => ?_⟩
  have := hcell j hj o c (by rw [h3 j hj]; exact ho)
  rw [h1] at this
  exact this
theorem isIn_self (n : Nat) (f : Nat → In) (hn : n ≤ 1000000000000) : isIn (insE n f) n f := ⟨rfl, rfl, fun _ _ => rfl, hn⟩
noncomputable def lLoop (n : Nat) (f : Nat → In) : LTab := lrow 20 fun args => match args with
  | [.inr l, .inl (.int .i64 p), .inl (.int .i64 c), .inl (.int .i64 e)] => some (false, [.inl (.bool (loopZ f p c e))], pre (propB (isIn l n f ∧ 0 ≤ p ∧ 0 ≤ c ∧ p ≤ e ∧ e < (n : Int))))
  | _ => none
theorem lLoop_ok {gl : Gl} (n : Nat) (f : Nat → In) : LTabOk Try.prog gl (lLoop n f) := .row fun args tup res h w vals hG ha => by
  split at h
  · rename_i l p c e
    simp only [Option.some.injEq, Prod.mk.injEq] at h
    obtain ⟨rfl, rfl, hp⟩ := h
    obtain ⟨hl, h1, h2, h3, h4⟩ := propB_ok.mp hp
    obtain ⟨p, rfl⟩ := Int.eq_ofNat_of_zero_le h1
    obtain ⟨c, rfl⟩ := Int.eq_ofNat_of_zero_le h2
    obtain ⟨e, rfl⟩ := Int.eq_ofNat_of_zero_le (show 0 ≤ e by omega)
    match vals, ha with
    | [u, v1, v2, v3], ha => exact refLoop_ret n f p c e hl.2.2.2 (by omega) (by omega) w [u, v1, v2, v3] hG ⟨InB.ins ha.1 hl, ha.2⟩
    | [], ha => exact ha.elim
    | [_], ha => exact ha.2.elim
    | [_, _], ha => exact ha.2.2.elim
    | [_, _, _], ha => exact ha.2.2.2.elim
    | _ :: _ :: _ :: _ :: _ :: _, ha => exact ha.2.2.2.2.elim
  · cases h
end Go.Proofs.Ytckgpcpcjhomiaa
