/- Package unit: isRegister, isWellFormed, namesLabel; Check. -/
import Derived.Test.YtilljoemebbnjaaDoorRef09
set_option linter.unusedVariables false
set_option linter.unusedSimpArgs false
namespace Go.Proofs.YtilljoemebbnjaaDoor
open Go.RowKit Sim S2
noncomputable def env9u : S2.Env := envk Tryd.prog (fun _ => none) false noT noP noL
theorem env9u_ok : CallOk env9u := envk_ok (.none _ _) (.none _ _) (.none _ _)
def isRegB (r : Int) : Bool := decide (0 <= r) && decide (r <= 31)
theorem bit_self (k : Nat) (hk : k < 32) : bits .and .u32 (bits .or .u32 0 ((2 ^ k : Nat) : Int)) ((2 ^ k : Nat) : Int) ≠ 0 := by
 have h : ∀ k : Fin 32, bits .and .u32 (bits .or .u32 0 ((2 ^ k.val : Nat) : Int)) ((2 ^ k.val : Nat) : Int) ≠ 0 := by decide +kernel
 exact h ⟨k, hk⟩
theorem only_val (r : Int) (h0 : 0 <= r) (h1 : r < 32) : arZ .shl .u32 1 r = ((2 ^ r.toNat : Nat) : Int) := by
 have h : ∀ k : Fin 32, arF .shl .u32 1 (k.val : Int) = ((2 ^ k.val : Nat) : Int) := by decide +kernel
 have := h ⟨r.toNat, by omega⟩
 rw [arZ_eq]
 simp only [Int.toNat_of_nonneg h0] at this
 exact this
theorem ir_ff (r : Int) : S2.simF env9u 1000 10 [] [false, false] 58 [[true]] [.inl (.int .i64 r)] = some (false, [XV.inl (Value.bool false)], [(decide (0 <= r), false), (decide (0 <= r), false)], []) := by kernel_rfl
theorem ir_tftf (r : Int) : S2.simF env9u 1000 10 [] [true, false, true, false] 58 [[true]] [.inl (.int .i64 r)] = some (false, [XV.inl (Value.bool (arZ BinOp.and IntKind.u32 (arZ BinOp.or IntKind.u32 0 (arZ BinOp.shl IntKind.u32 1 r)) (arZ BinOp.shl IntKind.u32 1 r) != 0))], [(pre (decide (0 <= r)), true), (!decide (r < 32), false), (decide (0 <= r), true), (pre (decide (0 <= r)), true), (!decide (r < 32), false), (decide (0 <= r), true)], []) := by kernel_rfl
theorem ir_tttt (r : Int) : S2.simF env9u 1000 10 [] [true, true, true, true] 58 [[true]] [.inl (.int .i64 r)] = some (false, [XV.inl (Value.bool false)], [(!decide (r < 32), true), (decide (0 <= r), true), (!decide (r < 32), true), (decide (0 <= r), true)], []) := by kernel_rfl
theorem isRegister_ret (r : Int) (w : World) : Ret Tryd.prog 58 #[.int .i64 r] (.bool (isRegB r)) w := by
 by_cases h0 : 0 <= r
 . by_cases h1 : r < 32
   . exact (ret7 env9u_ok _ _ (ir_tftf r) (qA (ob_yes h0) <| qA (by simpa using h1) <| qA (ob_yes h0) <| qA (ob_yes h0) <| qA (by simpa using h1) <| qA (ob_yes h0) qZ) Tryd.func58 w [.int .i64 r] (GlobOk.none w) ⟨rfl, trivial⟩).of_eq (by
       rw [only_val r h0 h1, arZ_eq, arZ_eq]
       show Value.bool (bits .and .u32 (bits .or .u32 0 _) _ != 0) = _
       have := bit_self r.toNat (by omega)
       rw [bne_iff_ne.mpr this]
       unfold isRegB; rw [decide_eq_true h0, decide_eq_true (show r <= 31 by omega)]; rfl)
   . exact (ret7 env9u_ok _ _ (ir_tttt r) (qA (by simpa using h1) <| qA (ob_yes h0) <| qA (by simpa using h1) <| qA (ob_yes h0) qZ) Tryd.func58 w [.int .i64 r] (GlobOk.none w) ⟨rfl, trivial⟩).of_eq (by
       unfold isRegB; rw [decide_eq_false (show ¬ r <= 31 by omega), Bool.and_false])
 . exact (ret7 env9u_ok _ _ (ir_ff r) (qA (ob_no h0) <| qA (ob_no h0) qZ) Tryd.func58 w [.int .i64 r] (GlobOk.none w) ⟨rfl, trivial⟩).of_eq (by
       unfold isRegB; rw [decide_eq_false h0]; rfl)
noncomputable def tIsReg : Tab := row 58 decI fun r => .bool (isRegB r)
theorem tIsReg_ok {gl : Gl} : TabOk Tryd.prog gl tIsReg := tabI fun x w _ => isRegister_ret x w
noncomputable def env9v : S2.Env := envk Tryd.prog (fun _ => none) true (orT tMay <| orT tBranch tIsReg) noP noL
theorem env9v_ok : CallOk env9v := envk_ok (tMay_ok.or (tBranch_ok.or tIsReg_ok)) (.none _ _) (.none _ _)
theorem wf_ffffff (i : It) : S2.simF env9v 1000 10 [] [false, false, false, false, false, false] 40 [itO] [.inl (itV i)] = some (false, [XV.inl (Value.bool false)], [(i.kind == 4, false), (i.kind == 3, false), (i.kind == 2, false), (i.kind == 1, false), (i.kind == 0, false), (decide (i.note < 0), false)], []) := by kernel_rfl
theorem wf_ffffftf (i : It) : S2.simF env9v 1000 10 [] [false, false, false, false, false, true, false] 40 [itO] [.inl (itV i)] = some (false, [XV.inl (Value.bool false)], [(isRegB i.ins.rd, false), (i.kind == 4, true), (i.kind == 3, false), (i.kind == 2, false), (i.kind == 1, false), (i.kind == 0, false), (decide (i.note < 0), false)], []) := by kernel_rfl
theorem wf_ffffftt (i : It) : S2.simF env9v 1000 10 [] [false, false, false, false, false, true, true] 40 [itO] [.inl (itV i)] = some (false, [XV.inl (Value.bool (i.ins.op == 0 && (i.ins.rd == i.ins.rd && (i.ins.a == 0 && (i.ins.b == 0 && (i.ins.imm == 0 && (i.ins.aq == false && (i.ins.rl == false && true))))))))], [(isRegB i.ins.rd, true), (i.kind == 4, true), (i.kind == 3, false), (i.kind == 2, false), (i.kind == 1, false), (i.kind == 0, false), (decide (i.note < 0), false)], []) := by kernel_rfl
theorem wf_fffftf (i : It) : S2.simF env9v 1000 10 [] [false, false, false, false, true, false] 40 [itO] [.inl (itV i)] = some (false, [XV.inl (Value.bool false)], [(decide (i.n >= 0), false), (i.kind == 3, true), (i.kind == 2, false), (i.kind == 1, false), (i.kind == 0, false), (decide (i.note < 0), false)], []) := by kernel_rfl
theorem wf_ffffttf (i : It) : S2.simF env9v 1000 10 [] [false, false, false, false, true, true, false] 40 [itO] [.inl (itV i)] = some (false, [XV.inl (Value.bool false)], [(i.ins.imm == 0, false), (decide (i.n >= 0), true), (i.kind == 3, true), (i.kind == 2, false), (i.kind == 1, false), (i.kind == 0, false), (decide (i.note < 0), false)], []) := by kernel_rfl
theorem wf_fffftttf (i : It) : S2.simF env9v 1000 10 [] [false, false, false, false, true, true, true, false] 40 [itO] [.inl (itV i)] = some (false, [XV.inl (Value.bool false)], [(formZ i.ins.op == 4, false), (i.ins.imm == 0, true), (decide (i.n >= 0), true), (i.kind == 3, true), (i.kind == 2, false), (i.kind == 1, false), (i.kind == 0, false), (decide (i.note < 0), false)], []) := by kernel_rfl
theorem wf_fffftttt (i : It) : S2.simF env9v 1000 10 [] [false, false, false, false, true, true, true, true] 40 [itO] [.inl (itV i)] = some (false, [XV.inl (Value.bool (mayB i.ins))], [(formZ i.ins.op == 4, true), (i.ins.imm == 0, true), (decide (i.n >= 0), true), (i.kind == 3, true), (i.kind == 2, false), (i.kind == 1, false), (i.kind == 0, false), (decide (i.note < 0), false)], []) := by kernel_rfl
theorem wf_ffftf (i : It) : S2.simF env9v 1000 10 [] [false, false, false, true, false] 40 [itO] [.inl (itV i)] = some (false, [XV.inl (Value.bool false)], [(decide (i.n >= 0), false), (i.kind == 2, true), (i.kind == 1, false), (i.kind == 0, false), (decide (i.note < 0), false)], []) := by kernel_rfl
theorem wf_ffftt (i : It) : S2.simF env9v 1000 10 [] [false, false, false, true, true] 40 [itO] [.inl (itV i)] = some (false, [XV.inl (Value.bool (i.ins.op == 0 && (i.ins.rd == 0 && (i.ins.a == 0 && (i.ins.b == 0 && (i.ins.imm == 0 && (i.ins.aq == false && (i.ins.rl == false && true))))))))], [(decide (i.n >= 0), true), (i.kind == 2, true), (i.kind == 1, false), (i.kind == 0, false), (decide (i.note < 0), false)], []) := by kernel_rfl
theorem wf_fftf (i : It) : S2.simF env9v 1000 10 [] [false, false, true, false] 40 [itO] [.inl (itV i)] = some (false, [XV.inl (Value.bool false)], [(decide (i.n >= 0), false), (i.kind == 1, true), (i.kind == 0, false), (decide (i.note < 0), false)], []) := by kernel_rfl
theorem wf_fftt (i : It) : S2.simF env9v 1000 10 [] [false, false, true, true] 40 [itO] [.inl (itV i)] = some (false, [XV.inl (Value.bool (i.ins.op == 0 && (i.ins.rd == 0 && (i.ins.a == 0 && (i.ins.b == 0 && (i.ins.imm == 0 && (i.ins.aq == false && (i.ins.rl == false && true))))))))], [(decide (i.n >= 0), true), (i.kind == 1, true), (i.kind == 0, false), (decide (i.note < 0), false)], []) := by kernel_rfl
theorem wf_ftf (i : It) : S2.simF env9v 1000 10 [] [false, true, false] 40 [itO] [.inl (itV i)] = some (false, [XV.inl (Value.bool false)], [(i.n == 0, false), (i.kind == 0, true), (decide (i.note < 0), false)], []) := by kernel_rfl
theorem wf_ftt (i : It) : S2.simF env9v 1000 10 [] [false, true, true] 40 [itO] [.inl (itV i)] = some (false, [XV.inl (Value.bool (mayB i.ins))], [(i.n == 0, true), (i.kind == 0, true), (decide (i.note < 0), false)], []) := by kernel_rfl
theorem wf_t (i : It) : S2.simF env9v 1000 10 [] [true] 40 [itO] [.inl (itV i)] = some (false, [XV.inl (Value.bool false)], [(decide (i.note < 0), true)], []) := by kernel_rfl
theorem isWellFormed_ret (i : It) (w : World) : Ret Tryd.prog 40 #[itV i] (.bool (rightB i)) w := by
 cases h0 : (decide (i.note < 0))
 case' false =>
   cases h1 : (i.kind == 0)
   case' false =>
     cases h2 : (i.kind == 1)
     case' false =>
       cases h3 : (i.kind == 2)
       case' false =>
         cases h4 : (i.kind == 3)
         case' false =>
           cases h5 : (i.kind == 4)
           case' false =>
             exact (ret7 env9v_ok _ _ (wf_ffffff i) (qA h5 <| qA h4 <| qA h3 <| qA h2 <| qA h1 <| qA h0 <| qZ) Tryd.func40 w [itV i] (GlobOk.none w) ⟨rfl, trivial⟩).of_eq (by first | (simp_all [rightB, zeroIn, zeroRd, isRegB]; done) | (simp_all [rightB, zeroIn, zeroRd, isRegB]; intros; omega))
           case' true =>
             cases h6 : (isRegB i.ins.rd)
             case' false =>
               exact (ret7 env9v_ok _ _ (wf_ffffftf i) (qA h6 <| qA h5 <| qA h4 <| qA h3 <| qA h2 <| qA h1 <| qA h0 <| qZ) Tryd.func40 w [itV i] (GlobOk.none w) ⟨rfl, trivial⟩).of_eq (by first | (simp_all [rightB, zeroIn, zeroRd, isRegB]; done) | (simp_all [rightB, zeroIn, zeroRd, isRegB]; intros; omega))
             case' true =>
               exact (ret7 env9v_ok _ _ (wf_ffffftt i) (qA h6 <| qA h5 <| qA h4 <| qA h3 <| qA h2 <| qA h1 <| qA h0 <| qZ) Tryd.func40 w [itV i] (GlobOk.none w) ⟨rfl, trivial⟩).of_eq (by first | (simp_all [rightB, zeroIn, zeroRd, isRegB]; done) | (simp_all [rightB, zeroIn, zeroRd, isRegB]; intros; omega))
         case' true =>
           cases h5 : (decide (i.n >= 0))
           case' false =>
             exact (ret7 env9v_ok _ _ (wf_fffftf i) (qA h5 <| qA h4 <| qA h3 <| qA h2 <| qA h1 <| qA h0 <| qZ) Tryd.func40 w [itV i] (GlobOk.none w) ⟨rfl, trivial⟩).of_eq (by first | (simp_all [rightB, zeroIn, zeroRd, isRegB]; done) | (simp_all [rightB, zeroIn, zeroRd, isRegB]; intros; omega))
           case' true =>
             cases h6 : (i.ins.imm == 0)
             case' false =>
               exact (ret7 env9v_ok _ _ (wf_ffffttf i) (qA h6 <| qA h5 <| qA h4 <| qA h3 <| qA h2 <| qA h1 <| qA h0 <| qZ) Tryd.func40 w [itV i] (GlobOk.none w) ⟨rfl, trivial⟩).of_eq (by first | (simp_all [rightB, zeroIn, zeroRd, isRegB]; done) | (simp_all [rightB, zeroIn, zeroRd, isRegB]; intros; omega))
             case' true =>
               cases h7 : (formZ i.ins.op == 4)
               case' false =>
                 exact (ret7 env9v_ok _ _ (wf_fffftttf i) (qA h7 <| qA h6 <| qA h5 <| qA h4 <| qA h3 <| qA h2 <| qA h1 <| qA h0 <| qZ) Tryd.func40 w [itV i] (GlobOk.none w) ⟨rfl, trivial⟩).of_eq (by first | (simp_all [rightB, zeroIn, zeroRd, isRegB]; done) | (simp_all [rightB, zeroIn, zeroRd, isRegB]; intros; omega))
               case' true =>
                 exact (ret7 env9v_ok _ _ (wf_fffftttt i) (qA h7 <| qA h6 <| qA h5 <| qA h4 <| qA h3 <| qA h2 <| qA h1 <| qA h0 <| qZ) Tryd.func40 w [itV i] (GlobOk.none w) ⟨rfl, trivial⟩).of_eq (by first | (simp_all [rightB, zeroIn, zeroRd, isRegB]; done) | (simp_all [rightB, zeroIn, zeroRd, isRegB]; intros; omega))
       case' true =>
         cases h4 : (decide (i.n >= 0))
         case' false =>
           exact (ret7 env9v_ok _ _ (wf_ffftf i) (qA h4 <| qA h3 <| qA h2 <| qA h1 <| qA h0 <| qZ) Tryd.func40 w [itV i] (GlobOk.none w) ⟨rfl, trivial⟩).of_eq (by first | (simp_all [rightB, zeroIn, zeroRd, isRegB]; done) | (simp_all [rightB, zeroIn, zeroRd, isRegB]; intros; omega))
         case' true =>
           exact (ret7 env9v_ok _ _ (wf_ffftt i) (qA h4 <| qA h3 <| qA h2 <| qA h1 <| qA h0 <| qZ) Tryd.func40 w [itV i] (GlobOk.none w) ⟨rfl, trivial⟩).of_eq (by first | (simp_all [rightB, zeroIn, zeroRd, isRegB]; done) | (simp_all [rightB, zeroIn, zeroRd, isRegB]; intros; omega))
     case' true =>
       cases h3 : (decide (i.n >= 0))
       case' false =>
         exact (ret7 env9v_ok _ _ (wf_fftf i) (qA h3 <| qA h2 <| qA h1 <| qA h0 <| qZ) Tryd.func40 w [itV i] (GlobOk.none w) ⟨rfl, trivial⟩).of_eq (by first | (simp_all [rightB, zeroIn, zeroRd, isRegB]; done) | (simp_all [rightB, zeroIn, zeroRd, isRegB]; intros; omega))
       case' true =>
         exact (ret7 env9v_ok _ _ (wf_fftt i) (qA h3 <| qA h2 <| qA h1 <| qA h0 <| qZ) Tryd.func40 w [itV i] (GlobOk.none w) ⟨rfl, trivial⟩).of_eq (by first | (simp_all [rightB, zeroIn, zeroRd, isRegB]; done) | (simp_all [rightB, zeroIn, zeroRd, isRegB]; intros; omega))
   case' true =>
     cases h2 : (i.n == 0)
     case' false =>
       exact (ret7 env9v_ok _ _ (wf_ftf i) (qA h2 <| qA h1 <| qA h0 <| qZ) Tryd.func40 w [itV i] (GlobOk.none w) ⟨rfl, trivial⟩).of_eq (by first | (simp_all [rightB, zeroIn, zeroRd, isRegB]; done) | (simp_all [rightB, zeroIn, zeroRd, isRegB]; intros; omega))
     case' true =>
       exact (ret7 env9v_ok _ _ (wf_ftt i) (qA h2 <| qA h1 <| qA h0 <| qZ) Tryd.func40 w [itV i] (GlobOk.none w) ⟨rfl, trivial⟩).of_eq (by first | (simp_all [rightB, zeroIn, zeroRd, isRegB]; done) | (simp_all [rightB, zeroIn, zeroRd, isRegB]; intros; omega))
 case' true =>
   exact (ret7 env9v_ok _ _ (wf_t i) (qA h0 <| qZ) Tryd.func40 w [itV i] (GlobOk.none w) ⟨rfl, trivial⟩).of_eq (by first | (simp_all [rightB, zeroIn, zeroRd, isRegB]; done) | (simp_all [rightB, zeroIn, zeroRd, isRegB]; intros; omega))
noncomputable def tWell : Tab := row 40 decIt fun i => .bool (rightB i)
theorem tWell_ok {gl : Gl} : TabOk Tryd.prog gl tWell := tabV decIt_eq fun x w _ => isWellFormed_ret x w
def leadB (i : It) : Bool := i.kind == 2 || i.kind == 3
theorem nl_f (i : It) : S2.simF env9u 1000 10 [] [false] 41 [itO] [.inl (itV i)] = some (false, [XV.inl (Value.bool (i.kind == 3))], [(i.kind == 2, false)], []) := by kernel_rfl
theorem nl_t (i : It) : S2.simF env9u 1000 10 [] [true] 41 [itO] [.inl (itV i)] = some (false, [XV.inl (Value.bool true)], [(i.kind == 2, true)], []) := by kernel_rfl
theorem namesLabel_ret (i : It) (w : World) : Ret Tryd.prog 41 #[itV i] (.bool (leadB i)) w := by
 cases h0 : (i.kind == 2)
 case' false =>
   exact (ret7 env9u_ok _ _ (nl_f i) (qA h0 <| qZ) Tryd.func41 w [itV i] (GlobOk.none w) ⟨rfl, trivial⟩).of_eq (by unfold leadB; rw [h0]; rfl)
 case' true =>
   exact (ret7 env9u_ok _ _ (nl_t i) (qA h0 <| qZ) Tryd.func41 w [itV i] (GlobOk.none w) ⟨rfl, trivial⟩).of_eq (by unfold leadB; rw [h0]; rfl)
noncomputable def tLead : Tab := row 41 decIt fun i => .bool (leadB i)
theorem tLead_ok {gl : Gl} : TabOk Tryd.prog gl tLead := tabV decIt_eq fun x w _ => namesLabel_ret x w
def lgZ (f : Nat -> It) : Nat -> List (Int × Value)
 | 0 => []
 | j + 1 => bif (f j).kind == 1 then ((f j).n, .agg #[]) :: lgZ f j else lgZ f j
noncomputable def env9k : S2.Env := envk Tryd.prog (fun _ => none) true (orT tWell tLead) noP noL
theorem env9k_ok : CallOk env9k := envk_ok (tWell_ok.or tLead_ok) (.none _ _) (.none _ _)
def cuS1 (n : Nat) (f : Nat -> It) (j : Nat) : S2.St := { tmps := [(0, .c 0), (15, .c 0), (16, .inl ([true], .int .i64 n)), (17, .inl ([true], .int .i64 j))], own := ⟨[], [itE n f]⟩, lo := 0, llo := 0, mem := true, orc := [], obl := [] }
def cuS2 (n : Nat) (f : Nat -> It) (j : Nat) : S2.St := { tmps := [(0, .c 0), (6, .mp 0), (28, .c 0), (29, .inl ([true], .int .i64 n)), (30, .inl ([true], .int .i64 j))], own := ⟨[⟨[], 0, .map 79 (lgZ f j)⟩], [itE n f]⟩, lo := 0, llo := 0, mem := true, orc := [], obl := [] }
def cuS3 (n : Nat) (f : Nat -> It) (j : Nat) : S2.St := { tmps := [(0, .c 0), (6, .mp 0), (52, .c 0), (53, .inl ([true], .int .i64 n)), (54, .inl ([true], .int .i64 j))], own := ⟨[⟨[], 0, .map 79 (lgZ f n)⟩], [itE n f]⟩, lo := 0, llo := 0, mem := true, orc := [], obl := [] }
def cuR (j : Nat) (e : Int) : S2.St := { tmps := [(2, .inl ([true], .int .i64 j)), (3, .inl ([], .int .i64 e))], own := ⟨[], []⟩, lo := 0, llo := 0, mem := true, orc := [], obl := [] }
noncomputable def cuC (p : List Nat) : Code := codeAt (codeOf Tryd.prog 27) (0 :: p)
def cuP1 : List Nat := [0, 1, 0, 1]
def cuP2 : List Nat := [0, 1, 0, 1, 1, 1]
def cuP3 : List Nat := [0, 1, 0, 1, 1, 1, 1]
def cuQ1 : Pick := { ts := [0, 15, 16, 17], bs := [], ls := [0], opn := [16, 17] }
def cuQ2 : Pick := { ts := [0, 6, 28, 29, 30], bs := [0], ls := [0], opn := [29, 30] }
def cuQ3 : Pick := { ts := [0, 6, 52, 53, 54], bs := [0], ls := [0], opn := [53, 54] }
def cuQR : Pick := { ts := [2, 3], bs := [], ls := [] }
theorem ob_dec {p : Prop} [Decidable p] (h : p) : pre (decide p) = true := by unfold pre; exact decide_eq_true h
theorem lg_len (f : Nat -> It) : ∀ j, (lgZ f j).length <= j
 | 0 => Nat.le_refl _
 | j + 1 => by
   have := lg_len f j
   unfold lgZ
   cases (f j).kind == 1
   . show (lgZ f j).length <= _; omega
   . show (lgZ f j).length + 1 <= _; omega
theorem fmt_lgL (f : Nat -> It) : ∀ j, FmtL (lgZ f j) (.agg #[])
 | 0 => fun _ h => by cases h
 | j + 1 => by
   have := fmt_lgL f j
   unfold lgZ
   cases (f j).kind == 1
   . exact this
   . intro p hp
     rcases List.mem_cons.mp hp with rfl | hp
     . rfl
     . exact this p hp
theorem fmt_lg (f : Nat -> It) (j : Nat) : pre (fmtB (lgZ f j) (.agg #[])) = true := fmtB_ok.mpr (fmt_lgL f j)
theorem has_lg (f : Nat -> It) (x : Int) : ∀ j, hasZ (lgZ f j) x = standsB f x j
 | 0 => by rw [hasZ_eq]; rfl
 | j + 1 => by
   have ih := has_lg f x j
   rw [hasZ_eq] at ih ⊢
   have e : standsB f x (j + 1) = (standsB f x j || labB f x j) := by unfold standsB; rw [List.range_succ, List.any_append]; simp
   have e2 : lgZ f (j + 1) = bif (f j).kind == 1 then ((f j).n, .agg #[]) :: lgZ f j else lgZ f j := rfl
   rw [e, <- ih, e2]
   unfold labB
   cases (f j).kind == 1
   . simp
   . simp only [cond_true, Bool.true_and]
     rw [logL]
     cases (f j).n == x <;> simp
def cuM (n : Nat) (f : Nat -> It) (l : List (Int × Value)) (j : Nat) : S2.St := { tmps := [(0, .c 0), (6, .mp 0), (28, .c 0), (29, .inl ([true], .int .i64 n)), (30, .inl ([true], .int .i64 j))], own := ⟨[⟨[], 0, .map 79 l⟩], [itE n f]⟩, lo := 0, llo := 0, mem := true, orc := [], obl := [] }
theorem cu1_step (n : Nat) (f : Nat -> It) (hn : n <= 1000000000000) (hr : ∀ j, j < n -> -9223372036854775808 <= (f j).n /\ (f j).n <= 9223372036854775807) (j : Nat) (hj : j < n) (hb : (!rightB (f j)) = false) (w : World) : S2.Sem env9k w 74 (cuC cuP1) (cuS1 n f j) none (cuS1 n f (j + 1)) := by
 refine sem_iter env9k_ok (GlobOk.none w) (p := cuQ1) (fuel := 1000) [true, false] [(pre (inI ((j : Int) + 1)), true), (!rightB (f ((j : Int)).toNat), false), (pre (decide (((j : Int)).toNat < n)), true), (pre (idxB ((j : Int)) n), true), (decide ((j : Int) < (n : Int)), true)] (by kernel_rfl) (by kernel_rfl) ?_
 rw [qN]
 exact qA (ob_inI (by omega)) <| qA (hb) <| qA (ob_lt hj) <| qA (ob_idx (by omega)) <| qA (ob_yes (by omega)) <| qZ
theorem cu1_bad (n : Nat) (f : Nat -> It) (hn : n <= 1000000000000) (hr : ∀ j, j < n -> -9223372036854775808 <= (f j).n /\ (f j).n <= 9223372036854775807) (j : Nat) (hj : j < n) (hb : (!rightB (f j)) = true) (w : World) : S2.Sem env9k w 74 (cuC cuP1) (cuS1 n f j) (some none) (cuR j 1) := by
 refine sem_iter env9k_ok (GlobOk.none w) (p := cuQR) (fuel := 1000) [true, true] [(!rightB (f ((j : Int)).toNat), true), (pre (decide (((j : Int)).toNat < n)), true), (pre (idxB ((j : Int)) n), true), (decide ((j : Int) < (n : Int)), true)] (by kernel_rfl) (by kernel_rfl) ?_
 rw [qN]
 exact qA (hb) <| qA (ob_lt hj) <| qA (ob_idx (by omega)) <| qA (ob_yes (by omega)) <| qZ
theorem cu1_end (n : Nat) (f : Nat -> It) (w : World) : S2.Sem env9k w 74 (cuC cuP1) (cuS1 n f n) (some (some 0)) (cuS1 n f n) :=
 sem_iter env9k_ok (GlobOk.none w) (p := cuQ1) (fuel := 1000) [false] [(decide ((n : Int) < n), false)] (by kernel_rfl) (by kernel_rfl) (qA (ob_no (by omega)) qZ)
theorem cu2_not0 (n : Nat) (f : Nat -> It) (hn : n <= 1000000000000) (hr : ∀ j, j < n -> -9223372036854775808 <= (f j).n /\ (f j).n <= 9223372036854775807) (j : Nat) (hj : j < n) (h1 : ((f j).kind != 1) = true) (w : World) : S2.Sem env9k w 74 (cuC cuP2) (cuS2 n f j) none (cuM n f (lgZ f j) (j + 1)) := by
 refine sem_iter env9k_ok (GlobOk.none w) (p := cuQ2) (fuel := 1000) [true, true] [(pre (inI ((j : Int) + 1)), true), ((f ((j : Int)).toNat).kind != 1, true), (pre (decide (((j : Int)).toNat < n)), true), (pre (idxB ((j : Int)) n), true), (decide ((j : Int) < (n : Int)), true)] (by kernel_rfl) (by kernel_rfl) ?_
 rw [qN]
 exact qA (ob_inI (by omega)) <| qA (h1) <| qA (ob_lt hj) <| qA (ob_idx (by omega)) <| qA (ob_yes (by omega)) <| qZ
theorem cu2_yes0 (n : Nat) (f : Nat -> It) (hn : n <= 1000000000000) (hr : ∀ j, j < n -> -9223372036854775808 <= (f j).n /\ (f j).n <= 9223372036854775807) (j : Nat) (hj : j < n) (h1 : ((f j).kind != 1) = false) (h2 : hasZ (lgZ f j) (f j).n = false) (w : World) : S2.Sem env9k w 74 (cuC cuP2) (cuS2 n f j) none (cuM n f (((f j).n, .agg #[]) :: lgZ f j) (j + 1)) := by
 refine sem_iter env9k_ok (GlobOk.none w) (p := cuQ2) (fuel := 1000) [true, false, false] [(pre (inI ((j : Int) + 1)), true), (pre (decide (inI (f ((j : Int)).toNat).n = true /\ (lgZ f j).length < maxLen)), true), (hasZ (lgZ f j) (f ((j : Int)).toNat).n, false), (pre (fmtB (lgZ f j) (Value.agg #[])), true), (pre (inI (f ((j : Int)).toNat).n), true), ((f ((j : Int)).toNat).kind != 1, false), (pre (decide (((j : Int)).toNat < n)), true), (pre (idxB ((j : Int)) n), true), (decide ((j : Int) < (n : Int)), true)] (by kernel_rfl) (by kernel_rfl) ?_
 rw [qN]
 exact qA (ob_inI (by omega)) <| qA (ob_dec ⟨ob_inI (hr j hj), by have := lg_len f j; unfold maxLen; omega⟩) <| qA (h2) <| qA (fmt_lg f j) <| qA (ob_inI (hr j hj)) <| qA (h1) <| qA (ob_lt hj) <| qA (ob_idx (by omega)) <| qA (ob_yes (by omega)) <| qZ
theorem cu2_bad (n : Nat) (f : Nat -> It) (hn : n <= 1000000000000) (hr : ∀ j, j < n -> -9223372036854775808 <= (f j).n /\ (f j).n <= 9223372036854775807) (j : Nat) (hj : j < n) (h1 : ((f j).kind != 1) = false) (h2 : hasZ (lgZ f j) (f j).n = true) (w : World) : S2.Sem env9k w 74 (cuC cuP2) (cuS2 n f j) (some none) (cuR j 5) := by
 refine sem_iter env9k_ok (GlobOk.none w) (p := cuQR) (fuel := 1000) [true, false, true] [(hasZ (lgZ f j) (f ((j : Int)).toNat).n, true), (pre (fmtB (lgZ f j) (Value.agg #[])), true), (pre (inI (f ((j : Int)).toNat).n), true), ((f ((j : Int)).toNat).kind != 1, false), (pre (decide (((j : Int)).toNat < n)), true), (pre (idxB ((j : Int)) n), true), (decide ((j : Int) < (n : Int)), true)] (by kernel_rfl) (by kernel_rfl) ?_
 rw [qN]
 exact qA (h2) <| qA (fmt_lg f j) <| qA (ob_inI (hr j hj)) <| qA (h1) <| qA (ob_lt hj) <| qA (ob_idx (by omega)) <| qA (ob_yes (by omega)) <| qZ
theorem cu2_end (n : Nat) (f : Nat -> It) (w : World) : S2.Sem env9k w 74 (cuC cuP2) (cuS2 n f n) (some (some 2)) (cuS2 n f n) :=
 sem_iter env9k_ok (GlobOk.none w) (p := cuQ2) (fuel := 1000) [false] [(decide ((n : Int) < n), false)] (by kernel_rfl) (by kernel_rfl) (qA (ob_no (by omega)) qZ)
theorem cu2_step (n : Nat) (f : Nat -> It) (hn : n <= 1000000000000) (hr : ∀ j, j < n -> -9223372036854775808 <= (f j).n /\ (f j).n <= 9223372036854775807) (j : Nat) (hj : j < n) (hb : bad2 f j = false) (w : World) : S2.Sem env9k w 74 (cuC cuP2) (cuS2 n f j) none (cuS2 n f (j + 1)) := by
 unfold bad2 at hb
 rw [<- has_lg] at hb
 cases h1 : (f j).kind == 1
 . have e : lgZ f (j + 1) = lgZ f j := by show (bif (f j).kind == 1 then _ else _) = _; rw [h1]; rfl
   have := cu2_not0 n f hn hr j hj (by unfold bne; rw [h1]; rfl) w
   unfold cuM at this
   unfold cuS2 at this ⊢
   rw [e]; exact this
 . have e : lgZ f (j + 1) = ((f j).n, .agg #[]) :: lgZ f j := by show (bif (f j).kind == 1 then _ else _) = _; rw [h1]; rfl
   rw [h1, Bool.true_and] at hb
   have := cu2_yes0 n f hn hr j hj (by unfold bne; rw [h1]; rfl) hb w
   unfold cuM at this
   unfold cuS2 at this ⊢
   rw [e]; exact this
theorem cu2_end_bad (n : Nat) (f : Nat -> It) (hn : n <= 1000000000000) (hr : ∀ j, j < n -> -9223372036854775808 <= (f j).n /\ (f j).n <= 9223372036854775807) (j : Nat) (hj : j < n) (hb : bad2 f j = true) (w : World) : S2.Sem env9k w 74 (cuC cuP2) (cuS2 n f j) (some none) (cuR j 5) := by
 unfold bad2 at hb
 rw [<- has_lg] at hb
 obtain ⟨h1, h2⟩ := Bool.and_eq_true_iff.mp hb
 exact cu2_bad n f hn hr j hj (by unfold bne; rw [h1]; rfl) h2 w
theorem cu3_no (n : Nat) (f : Nat -> It) (hn : n <= 1000000000000) (hr : ∀ j, j < n -> -9223372036854775808 <= (f j).n /\ (f j).n <= 9223372036854775807) (j : Nat) (hj : j < n) (h1 : leadB (f j) = false) (w : World) : S2.Sem env9k w 74 (cuC cuP3) (cuS3 n f j) none (cuS3 n f (j + 1)) := by
 refine sem_iter env9k_ok (GlobOk.none w) (p := cuQ3) (fuel := 1000) [true, false] [(pre (inI ((j : Int) + 1)), true), (leadB (f ((j : Int)).toNat), false), (pre (fmtB (lgZ f n) (Value.agg #[])), true), (pre (inI (f ((j : Int)).toNat).n), true), (pre (decide (((j : Int)).toNat < n)), true), (pre (idxB ((j : Int)) n), true), (decide ((j : Int) < (n : Int)), true)] (by kernel_rfl) (by kernel_rfl) ?_
 rw [qN]
 exact qA (ob_inI (by omega)) <| qA (h1) <| qA (fmt_lg f n) <| qA (ob_inI (hr j hj)) <| qA (ob_lt hj) <| qA (ob_idx (by omega)) <| qA (ob_yes (by omega)) <| qZ
theorem cu3_yes (n : Nat) (f : Nat -> It) (hn : n <= 1000000000000) (hr : ∀ j, j < n -> -9223372036854775808 <= (f j).n /\ (f j).n <= 9223372036854775807) (j : Nat) (hj : j < n) (h1 : leadB (f j) = true) (h2 : (!hasZ (lgZ f n) (f j).n) = false) (w : World) : S2.Sem env9k w 74 (cuC cuP3) (cuS3 n f j) none (cuS3 n f (j + 1)) := by
 refine sem_iter env9k_ok (GlobOk.none w) (p := cuQ3) (fuel := 1000) [true, true, false] [(pre (inI ((j : Int) + 1)), true), (!hasZ (lgZ f n) (f ((j : Int)).toNat).n, false), (leadB (f ((j : Int)).toNat), true), (pre (fmtB (lgZ f n) (Value.agg #[])), true), (pre (inI (f ((j : Int)).toNat).n), true), (pre (decide (((j : Int)).toNat < n)), true), (pre (idxB ((j : Int)) n), true), (decide ((j : Int) < (n : Int)), true)] (by kernel_rfl) (by kernel_rfl) ?_
 rw [qN]
 exact qA (ob_inI (by omega)) <| qA (h2) <| qA (h1) <| qA (fmt_lg f n) <| qA (ob_inI (hr j hj)) <| qA (ob_lt hj) <| qA (ob_idx (by omega)) <| qA (ob_yes (by omega)) <| qZ
theorem cu3_bad (n : Nat) (f : Nat -> It) (hn : n <= 1000000000000) (hr : ∀ j, j < n -> -9223372036854775808 <= (f j).n /\ (f j).n <= 9223372036854775807) (j : Nat) (hj : j < n) (h1 : leadB (f j) = true) (h2 : (!hasZ (lgZ f n) (f j).n) = true) (w : World) : S2.Sem env9k w 74 (cuC cuP3) (cuS3 n f j) (some none) (cuR j 4) := by
 refine sem_iter env9k_ok (GlobOk.none w) (p := cuQR) (fuel := 1000) [true, true, true] [(!hasZ (lgZ f n) (f ((j : Int)).toNat).n, true), (leadB (f ((j : Int)).toNat), true), (pre (fmtB (lgZ f n) (Value.agg #[])), true), (pre (inI (f ((j : Int)).toNat).n), true), (pre (decide (((j : Int)).toNat < n)), true), (pre (idxB ((j : Int)) n), true), (decide ((j : Int) < (n : Int)), true)] (by kernel_rfl) (by kernel_rfl) ?_
 rw [qN]
 exact qA (h2) <| qA (h1) <| qA (fmt_lg f n) <| qA (ob_inI (hr j hj)) <| qA (ob_lt hj) <| qA (ob_idx (by omega)) <| qA (ob_yes (by omega)) <| qZ
theorem cu3_end (n : Nat) (f : Nat -> It) (w : World) : S2.Sem env9k w 74 (cuC cuP3) (cuS3 n f n) (some (some 4)) (cuS3 n f n) :=
 sem_iter env9k_ok (GlobOk.none w) (p := cuQ3) (fuel := 1000) [false] [(decide ((n : Int) < n), false)] (by kernel_rfl) (by kernel_rfl) (qA (ob_no (by omega)) qZ)
theorem cu3_step (n : Nat) (f : Nat -> It) (hn : n <= 1000000000000) (hr : ∀ j, j < n -> -9223372036854775808 <= (f j).n /\ (f j).n <= 9223372036854775807) (j : Nat) (hj : j < n) (hb : bad3 n f j = false) (w : World) : S2.Sem env9k w 74 (cuC cuP3) (cuS3 n f j) none (cuS3 n f (j + 1)) := by
 unfold bad3 at hb
 rw [<- has_lg] at hb
 cases h1 : leadB (f j)
 . exact cu3_no n f hn hr j hj h1 w
 . unfold leadB at h1
   rw [h1, Bool.true_and] at hb
   exact cu3_yes n f hn hr j hj (by unfold leadB; exact h1) hb w
theorem cu3_end_bad (n : Nat) (f : Nat -> It) (hn : n <= 1000000000000) (hr : ∀ j, j < n -> -9223372036854775808 <= (f j).n /\ (f j).n <= 9223372036854775807) (j : Nat) (hj : j < n) (hb : bad3 n f j = true) (w : World) : S2.Sem env9k w 74 (cuC cuP3) (cuS3 n f j) (some none) (cuR j 4) := by
 unfold bad3 at hb
 rw [<- has_lg] at hb
 obtain ⟨h1, h2⟩ := Bool.and_eq_true_iff.mp hb
 exact cu3_bad n f hn hr j hj (by unfold leadB; exact h1) h2 w
theorem unitCheck_ret (n : Nat) (f : Nat -> It) (hn : n <= 1000000000000) (hr : ∀ j, j < n -> -9223372036854775808 <= (f j).n /\ (f j).n <= 9223372036854775807) (w : World) (vals : List Value) (ha : ArgsOk w [.inr (itE n f)] vals) : LRet Tryd.prog 27 vals false [.inl (.tuple #[.int .i64 (unitR n f).1, .int .i64 (unitR n f).2])] w := by
 have hG := GlobOk.none w
 unfold unitR
 cases e1 : fstN (bad1 f) n with
 | some j =>
   obtain ⟨hj, hbj, hpre⟩ := fst_some e1
   refine fn_ok env9k_ok (fuel := 1000) (d := 30) (plan := [⟨cuP1, cuQ1, some none, cuR j 1⟩]) (orc := []) (fls := [[]]) (l := []) (tr := [⟨.loop (cuC cuP1), cuS1 n f 0, some none, cuR j 1⟩]) (by kernel_rfl) qZ Tryd.func27 w vals hG ha fun t ht => ?_
   obtain rfl := List.mem_singleton.mp ht
   exact sem_loop (cuS1 n f) j (by simp) (fun i hi => cu1_step n f hn hr i (by omega) (hpre i hi) w) (cu1_bad n f hn hr j hj hbj w)
 | none =>
   cases e2 : fstN (bad2 f) n with
   | some j =>
     obtain ⟨hj, hbj, hpre⟩ := fst_some e2
     refine fn_ok env9k_ok (fuel := 1000) (d := 30) (plan := [⟨cuP1, cuQ1, some (some 0), cuS1 n f n⟩, ⟨cuP2, cuQ2, some none, cuR j 5⟩]) (orc := []) (fls := [[]]) (l := []) (tr := [⟨.loop (cuC cuP1), cuS1 n f 0, some (some 0), cuS1 n f n⟩, ⟨.loop (cuC cuP2), cuS2 n f 0, some none, cuR j 5⟩]) (by kernel_rfl) qZ Tryd.func27 w vals hG ha fun t ht => ?_
     rcases List.mem_cons.mp ht with rfl | ht
     . exact sem_loop (cuS1 n f) n (by simp) (fun i hi => cu1_step n f hn hr i hi (fst_none e1 i hi) w) (cu1_end n f w)
     obtain rfl := List.mem_singleton.mp ht
     exact sem_loop (cuS2 n f) j (by simp) (fun i hi => cu2_step n f hn hr i (by omega) (hpre i hi) w) (cu2_end_bad n f hn hr j hj hbj w)
   | none =>
     cases e3 : fstN (bad3 n f) n with
     | some j =>
       obtain ⟨hj, hbj, hpre⟩ := fst_some e3
       refine fn_ok env9k_ok (fuel := 1000) (d := 30) (plan := [⟨cuP1, cuQ1, some (some 0), cuS1 n f n⟩, ⟨cuP2, cuQ2, some (some 2), cuS2 n f n⟩, ⟨cuP3, cuQ3, some none, cuR j 4⟩]) (orc := []) (fls := [[]]) (l := []) (tr := [⟨.loop (cuC cuP1), cuS1 n f 0, some (some 0), cuS1 n f n⟩, ⟨.loop (cuC cuP2), cuS2 n f 0, some (some 2), cuS2 n f n⟩, ⟨.loop (cuC cuP3), cuS3 n f 0, some none, cuR j 4⟩]) (by kernel_rfl) qZ Tryd.func27 w vals hG ha fun t ht => ?_
       rcases List.mem_cons.mp ht with rfl | ht
       . exact sem_loop (cuS1 n f) n (by simp) (fun i hi => cu1_step n f hn hr i hi (fst_none e1 i hi) w) (cu1_end n f w)
       rcases List.mem_cons.mp ht with rfl | ht
       . exact sem_loop (cuS2 n f) n (by simp) (fun i hi => cu2_step n f hn hr i hi (fst_none e2 i hi) w) (cu2_end n f w)
       obtain rfl := List.mem_singleton.mp ht
       exact sem_loop (cuS3 n f) j (by simp) (fun i hi => cu3_step n f hn hr i (by omega) (hpre i hi) w) (cu3_end_bad n f hn hr j hj hbj w)
     | none =>
       refine fn_ok env9k_ok (fuel := 1000) (d := 30) (plan := [⟨cuP1, cuQ1, some (some 0), cuS1 n f n⟩, ⟨cuP2, cuQ2, some (some 2), cuS2 n f n⟩, ⟨cuP3, cuQ3, some (some 4), cuS3 n f n⟩]) (orc := []) (fls := [[]]) (l := []) (tr := [⟨.loop (cuC cuP1), cuS1 n f 0, some (some 0), cuS1 n f n⟩, ⟨.loop (cuC cuP2), cuS2 n f 0, some (some 2), cuS2 n f n⟩, ⟨.loop (cuC cuP3), cuS3 n f 0, some (some 4), cuS3 n f n⟩]) (by kernel_rfl) qZ Tryd.func27 w vals hG ha fun t ht => ?_
       rcases List.mem_cons.mp ht with rfl | ht
       . exact sem_loop (cuS1 n f) n (by simp) (fun i hi => cu1_step n f hn hr i hi (fst_none e1 i hi) w) (cu1_end n f w)
       rcases List.mem_cons.mp ht with rfl | ht
       . exact sem_loop (cuS2 n f) n (by simp) (fun i hi => cu2_step n f hn hr i hi (fst_none e2 i hi) w) (cu2_end n f w)
       obtain rfl := List.mem_singleton.mp ht
       exact sem_loop (cuS3 n f) n (by simp) (fun i hi => cu3_step n f hn hr i hi (fst_none e3 i hi) w) (cu3_end n f w)
end Go.Proofs.YtilljoemebbnjaaDoor
