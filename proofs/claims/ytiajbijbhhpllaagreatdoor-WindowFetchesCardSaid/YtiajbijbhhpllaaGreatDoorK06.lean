/- Part 6 of the proof: FetB19, Awk19, Law19. -/
import Derived.Test.YtiajbijbhhpllaaGreatDoorK05
set_option linter.unusedVariables false
set_option linter.unusedSimpArgs false
namespace Go.Proofs.YtiajbijbhhpllaaGreatDoor
open Go.RowKit Sim S2
def stopZ (op : Int) : Int := bif op == 0 then 4 else bif op == 65 then 7 else bif readZ op || writeZ op then (bif !wideB op then 6 else 0) else 0
def accB (op : Int) : Bool := readZ op || writeZ op
noncomputable def envSt : S2.Env := { envl Tryz.prog (fun _ => none) tFe19 noP noL (fun _ => none) with nowrap := false }
theorem envSt_ok : CallOk envSt := envl_ok tFe19_ok (.none _ _) (.none _ _) .none
theorem stopAt_ffff (op : Int) : S2.simF envSt 1000 17 [] [false, false, false, false] 22 [[true]] [.inl (.int .i64 op)] = some (false, [XV.inl (Value.int IntKind.i64 0)], [(writeZ op, false), (readZ op, false), (op == 65, false), (op == 0, false)], []) := by kernel_rfl
theorem stopAt_ffftf (op : Int) : S2.simF envSt 1000 17 [] [false, false, false, true, false] 22 [[true]] [.inl (.int .i64 op)] = some (false, [XV.inl (Value.int IntKind.i64 0)], [(!wideB op, false), (writeZ op, true), (readZ op, false), (op == 65, false), (op == 0, false)], []) := by kernel_rfl
theorem stopAt_ffftt (op : Int) : S2.simF envSt 1000 17 [] [false, false, false, true, true] 22 [[true]] [.inl (.int .i64 op)] = some (false, [XV.inl (Value.int IntKind.i64 6)], [(!wideB op, true), (writeZ op, true), (readZ op, false), (op == 65, false), (op == 0, false)], []) := by kernel_rfl
theorem stopAt_fftf (op : Int) : S2.simF envSt 1000 17 [] [false, false, true, false] 22 [[true]] [.inl (.int .i64 op)] = some (false, [XV.inl (Value.int IntKind.i64 0)], [(!wideB op, false), (readZ op, true), (op == 65, false), (op == 0, false)], []) := by kernel_rfl
theorem stopAt_fftt (op : Int) : S2.simF envSt 1000 17 [] [false, false, true, true] 22 [[true]] [.inl (.int .i64 op)] = some (false, [XV.inl (Value.int IntKind.i64 6)], [(!wideB op, true), (readZ op, true), (op == 65, false), (op == 0, false)], []) := by kernel_rfl
theorem stopAt_ft (op : Int) : S2.simF envSt 1000 17 [] [false, true] 22 [[true]] [.inl (.int .i64 op)] = some (false, [XV.inl (Value.int IntKind.i64 7)], [(op == 65, true), (op == 0, false)], []) := by kernel_rfl
theorem stopAt_t (op : Int) : S2.simF envSt 1000 17 [] [true] 22 [[true]] [.inl (.int .i64 op)] = some (false, [XV.inl (Value.int IntKind.i64 4)], [(op == 0, true)], []) := by kernel_rfl
theorem stopAt_ret (op : Int) (w : World) (hG : GlobOk (fun _ => none) w) : Ret Tryz.prog 22 #[.int .i64 op] (.int .i64 (stopZ op)) w := by
  cases h0 : (op == 0)
  case' false =>
    cases h1 : (op == 65)
    case' false =>
      cases h2 : (readZ op)
      case' false =>
        cases h3 : (writeZ op)
        case' false =>
          exact (fn_ok envSt_ok (stopAt_ffff op) (all_cons h3 <| all_cons h2 <| all_cons h1 <| all_cons h0 <| all_nil) Tryz.func22 w _ hG (ArgsOk.plain [.int .i64 op]) fun t ht => by cases ht).plain.of_eq (by simp [stopZ, h0, h1, h2, h3])
        case' true =>
          cases h4 : (!wideB op)
          case' false =>
            exact (fn_ok envSt_ok (stopAt_ffftf op) (all_cons h4 <| all_cons h3 <| all_cons h2 <| all_cons h1 <| all_cons h0 <| all_nil) Tryz.func22 w _ hG (ArgsOk.plain [.int .i64 op]) fun t ht => by cases ht).plain.of_eq (by simp [stopZ, h0, h1, h2, h3, h4])
          case' true =>
            exact (fn_ok envSt_ok (stopAt_ffftt op) (all_cons h4 <| all_cons h3 <| all_cons h2 <| all_cons h1 <| all_cons h0 <| all_nil) Tryz.func22 w _ hG (ArgsOk.plain [.int .i64 op]) fun t ht => by cases ht).plain.of_eq (by simp [stopZ, h0, h1, h2, h3, h4])
      case' true =>
        cases h3 : (!wideB op)
        case' false =>
          exact (fn_ok envSt_ok (stopAt_fftf op) (all_cons h3 <| all_cons h2 <| all_cons h1 <| all_cons h0 <| all_nil) Tryz.func22 w _ hG (ArgsOk.plain [.int .i64 op]) fun t ht => by cases ht).plain.of_eq (by simp [stopZ, h0, h1, h2, h3])
        case' true =>
          exact (fn_ok envSt_ok (stopAt_fftt op) (all_cons h3 <| all_cons h2 <| all_cons h1 <| all_cons h0 <| all_nil) Tryz.func22 w _ hG (ArgsOk.plain [.int .i64 op]) fun t ht => by cases ht).plain.of_eq (by simp [stopZ, h0, h1, h2, h3])
    case' true =>
      exact (fn_ok envSt_ok (stopAt_ft op) (all_cons h1 <| all_cons h0 <| all_nil) Tryz.func22 w _ hG (ArgsOk.plain [.int .i64 op]) fun t ht => by cases ht).plain.of_eq (by simp [stopZ, h0, h1])
  case' true =>
    exact (fn_ok envSt_ok (stopAt_t op) (all_cons h0 <| all_nil) Tryz.func22 w _ hG (ArgsOk.plain [.int .i64 op]) fun t ht => by cases ht).plain.of_eq (by simp [stopZ, h0])
theorem refAcc_f (op : Int) : S2.simF envSt 1000 12 [] [false] 27 [[true]] [.inl (.int .i64 op)] = some (false, [XV.inl (Value.bool (writeZ op))], [(readZ op, false)], []) := by kernel_rfl
theorem refAcc_t (op : Int) : S2.simF envSt 1000 12 [] [true] 27 [[true]] [.inl (.int .i64 op)] = some (false, [XV.inl (Value.bool true)], [(readZ op, true)], []) := by kernel_rfl
theorem refAcc_ret (op : Int) (w : World) (hG : GlobOk (fun _ => none) w) : Ret Tryz.prog 27 #[.int .i64 op] (.bool (accB op)) w := by
  cases h0 : (readZ op)
  case' false =>
    exact (fn_ok envSt_ok (refAcc_f op) (all_cons h0 <| all_nil) Tryz.func27 w _ hG (ArgsOk.plain [.int .i64 op]) fun t ht => by cases ht).plain.of_eq (by simp [accB, h0])
  case' true =>
    exact (fn_ok envSt_ok (refAcc_t op) (all_cons h0 <| all_nil) Tryz.func27 w _ hG (ArgsOk.plain [.int .i64 op]) fun t ht => by cases ht).plain.of_eq (by simp [accB, h0])
theorem stop_row (gl : Gl) (op : Int) (w : World) (hG : GlobOk gl w) : Ret Tryz.prog 22 #[.int .i64 op] (.int .i64 (stopZ op)) w := stopAt_ret op w (GlobOk.none w)
def tStop : Tab := row 22 decI fun x => .int .i64 (stopZ x)
theorem tStop_ok {gl : Gl} : TabOk Tryz.prog gl tStop := tabI fun x w hG => stop_row gl x w hG
def tRacc : Tab := row 27 decI fun x => .bool (accB x)
theorem tRacc_ok {gl : Gl} : TabOk Tryz.prog gl tRacc := tabI fun x w hG => refAcc_ret x w (GlobOk.none w)
noncomputable def tFf19 : Tab := orT tStop <| orT tRacc tFe19
theorem tFf19_ok {gl : Gl} : TabOk Tryz.prog gl tFf19 := tStop_ok.or <| tRacc_ok.or tFe19_ok
noncomputable def envFf (i : Im) (x : In) (ok : Bool) : S2.Env := { envl Tryz.prog decGl tFf19 noP (orL (lfeA i x ok) (lferA i x ok)) (fun _ => none) with nowrap := false }
theorem envFf_ok (i : Im) (x : In) (ok : Bool) : CallOk (envFf i x ok) := envl_ok tFf19_ok (.none _ _) ((lfeA_ok i x ok).or (lferA_ok i x ok)) .none
noncomputable def entZ (x : In) (ok : Bool) (pc g : Int) : Ez :=
  ⟨pc, x, bif !ok then arZ .add .i64 pc 4 else bif x.op == 3 then arZ .add .i64 pc x.imm else bif x.op == 4 then g else bif formZ x.op == 4 && g != 0 then arZ .add .i64 pc x.imm else arZ .add .i64 pc 4, 0, false,
    bif !ok then 5 else stopZ x.op,
    bif !ok then 0 else bif x.op == 1 then IntKind.i64.wrap (x.imm * 4096) else bif x.op == 2 then arZ .add .i64 pc (IntKind.i64.wrap (x.imm * 4096)) else bif x.op == 3 then arZ .add .i64 pc 4 else bif x.op == 4 then arZ .add .i64 pc 4 else 0,
    bif !ok then false else x.op == 1 || (x.op == 2 || (x.op == 3 || x.op == 4)), bif !ok then false else x.op == 63 || (x.op == 1 || (x.op == 2 || x.op == 3)), false, -1, 0⟩
theorem lret_as {P : Program} {f : FuncId} {vals : List Value} {tup : Bool} {res res' : List XV} {w : World} (h : LRet P f vals tup res w) (e : res = res') : LRet P f vals tup res' w := e ▸ h
theorem acc_form (op : Int) (h : accB op = true) : (formZ op == 4) = false := by
  by_cases h1 : 0 ≤ op ∧ op < 88
  · have key : ∀ n : Fin 88, accB (n.val : Int) = true → (formZ (n.val : Int) == 4) = false := by decide +kernel
    have hk := key ⟨op.toNat, by omega⟩
    rw [show (((⟨op.toNat, by omega⟩ : Fin 88).val : Nat) : Int) = op by simp; omega] at hk
    exact hk h
  · have hl : formL.length = 88 := by rfl
    unfold formZ atZ
    split
    · rw [List.getD_eq_getElem?_getD, List.getElem?_eq_none (by omega)]; rfl
    · rfl
theorem wf_fffffff (i : Im) (x : In) (ok : Bool) (pc g : Int) : S2.simF (envFf i x ok) 1000 90 [] [false, false, false, false, false, false, false] 9 [[], [true], [true]] [imX false i, .inl (.int .i64 pc), .inl (.int .i64 g)] = some (false, [XV.inl (Value.agg { toList := [Value.int IntKind.i64 pc, Value.int IntKind.i64 x.op, Value.int IntKind.i64 x.rd, Value.int IntKind.i64 x.a, Value.int IntKind.i64 x.b, Value.int IntKind.i64 x.imm, Value.bool x.aq, Value.bool x.rl, Value.int IntKind.i64 (arZ BinOp.add IntKind.i64 pc 4), Value.int IntKind.i64 0, Value.bool false, Value.int IntKind.i64 (stopZ x.op), Value.int IntKind.i64 0, Value.bool false, Value.bool false, Value.bool false, Value.int IntKind.i64 (-1), Value.int IntKind.i64 0] })], [(formZ x.op == 4, false), (x.op == 4, false), (x.op == 3, false), (x.op == 2, false), (x.op == 1, false), (x.op == 63, false), (!ok, false), (pre (propB (isIm i [Sum.inr { elT := (w32L false i.n i.c).elT, size := (w32L false i.n i.c).size, n := (w32L false i.n i.c).n, el := (w32L false i.n i.c).el, own := false, dead := false, opn := (w32L false i.n i.c).opn }, Sum.inr { elT := (intL false i.m i.d).elT, size := (intL false i.m i.d).size, n := (intL false i.m i.d).n, el := (intL false i.m i.d).el, own := false, dead := false, opn := (intL false i.m i.d).opn }, Sum.inr { elT := (intL false i.h i.e).elT, size := (intL false i.h i.e).size, n := (intL false i.h i.e).n, el := (intL false i.h i.e).el, own := false, dead := false, opn := (intL false i.h i.e).opn }] ∧ feOk i pc x ok)), true)], []) := by kernel_rfl
theorem wf_fffffftf (i : Im) (x : In) (ok : Bool) (pc g : Int) : S2.simF (envFf i x ok) 1000 90 [] [false, false, false, false, false, false, true, false] 9 [[], [true], [true]] [imX false i, .inl (.int .i64 pc), .inl (.int .i64 g)] = some (false, [XV.inl (Value.agg { toList := [Value.int IntKind.i64 pc, Value.int IntKind.i64 x.op, Value.int IntKind.i64 x.rd, Value.int IntKind.i64 x.a, Value.int IntKind.i64 x.b, Value.int IntKind.i64 x.imm, Value.bool x.aq, Value.bool x.rl, Value.int IntKind.i64 (arZ BinOp.add IntKind.i64 pc 4), Value.int IntKind.i64 0, Value.bool false, Value.int IntKind.i64 (stopZ x.op), Value.int IntKind.i64 0, Value.bool false, Value.bool false, Value.bool false, Value.int IntKind.i64 (-1), Value.int IntKind.i64 0] })], [(g != 0, false), (formZ x.op == 4, true), (x.op == 4, false), (x.op == 3, false), (x.op == 2, false), (x.op == 1, false), (x.op == 63, false), (!ok, false), (pre (propB (isIm i [Sum.inr { elT := (w32L false i.n i.c).elT, size := (w32L false i.n i.c).size, n := (w32L false i.n i.c).n, el := (w32L false i.n i.c).el, own := false, dead := false, opn := (w32L false i.n i.c).opn }, Sum.inr { elT := (intL false i.m i.d).elT, size := (intL false i.m i.d).size, n := (intL false i.m i.d).n, el := (intL false i.m i.d).el, own := false, dead := false, opn := (intL false i.m i.d).opn }, Sum.inr { elT := (intL false i.h i.e).elT, size := (intL false i.h i.e).size, n := (intL false i.h i.e).n, el := (intL false i.h i.e).el, own := false, dead := false, opn := (intL false i.h i.e).opn }] ∧ feOk i pc x ok)), true)], []) := by kernel_rfl
theorem wf_fffffftt (i : Im) (x : In) (ok : Bool) (pc g : Int) : S2.simF (envFf i x ok) 1000 90 [] [false, false, false, false, false, false, true, true] 9 [[], [true], [true]] [imX false i, .inl (.int .i64 pc), .inl (.int .i64 g)] = some (false, [XV.inl (Value.agg { toList := [Value.int IntKind.i64 pc, Value.int IntKind.i64 x.op, Value.int IntKind.i64 x.rd, Value.int IntKind.i64 x.a, Value.int IntKind.i64 x.b, Value.int IntKind.i64 x.imm, Value.bool x.aq, Value.bool x.rl, Value.int IntKind.i64 (arZ BinOp.add IntKind.i64 pc x.imm), Value.int IntKind.i64 0, Value.bool false, Value.int IntKind.i64 (stopZ x.op), Value.int IntKind.i64 0, Value.bool false, Value.bool false, Value.bool false, Value.int IntKind.i64 (-1), Value.int IntKind.i64 0] })], [(g != 0, true), (formZ x.op == 4, true), (x.op == 4, false), (x.op == 3, false), (x.op == 2, false), (x.op == 1, false), (x.op == 63, false), (!ok, false), (pre (propB (isIm i [Sum.inr { elT := (w32L false i.n i.c).elT, size := (w32L false i.n i.c).size, n := (w32L false i.n i.c).n, el := (w32L false i.n i.c).el, own := false, dead := false, opn := (w32L false i.n i.c).opn }, Sum.inr { elT := (intL false i.m i.d).elT, size := (intL false i.m i.d).size, n := (intL false i.m i.d).n, el := (intL false i.m i.d).el, own := false, dead := false, opn := (intL false i.m i.d).opn }, Sum.inr { elT := (intL false i.h i.e).elT, size := (intL false i.h i.e).size, n := (intL false i.h i.e).n, el := (intL false i.h i.e).el, own := false, dead := false, opn := (intL false i.h i.e).opn }] ∧ feOk i pc x ok)), true)], []) := by kernel_rfl
theorem wf_ffffft (i : Im) (x : In) (ok : Bool) (pc g : Int) : S2.simF (envFf i x ok) 1000 90 [] [false, false, false, false, false, true] 9 [[], [true], [true]] [imX false i, .inl (.int .i64 pc), .inl (.int .i64 g)] = some (false, [XV.inl (Value.agg { toList := [Value.int IntKind.i64 pc, Value.int IntKind.i64 x.op, Value.int IntKind.i64 x.rd, Value.int IntKind.i64 x.a, Value.int IntKind.i64 x.b, Value.int IntKind.i64 x.imm, Value.bool x.aq, Value.bool x.rl, Value.int IntKind.i64 g, Value.int IntKind.i64 0, Value.bool false, Value.int IntKind.i64 (stopZ x.op), Value.int IntKind.i64 (arZ BinOp.add IntKind.i64 pc 4), Value.bool true, Value.bool false, Value.bool false, Value.int IntKind.i64 (-1), Value.int IntKind.i64 0] })], [(x.op == 4, true), (x.op == 3, false), (x.op == 2, false), (x.op == 1, false), (x.op == 63, false), (!ok, false), (pre (propB (isIm i [Sum.inr { elT := (w32L false i.n i.c).elT, size := (w32L false i.n i.c).size, n := (w32L false i.n i.c).n, el := (w32L false i.n i.c).el, own := false, dead := false, opn := (w32L false i.n i.c).opn }, Sum.inr { elT := (intL false i.m i.d).elT, size := (intL false i.m i.d).size, n := (intL false i.m i.d).n, el := (intL false i.m i.d).el, own := false, dead := false, opn := (intL false i.m i.d).opn }, Sum.inr { elT := (intL false i.h i.e).elT, size := (intL false i.h i.e).size, n := (intL false i.h i.e).n, el := (intL false i.h i.e).el, own := false, dead := false, opn := (intL false i.h i.e).opn }] ∧ feOk i pc x ok)), true)], []) := by kernel_rfl
theorem wf_fffft (i : Im) (x : In) (ok : Bool) (pc g : Int) : S2.simF (envFf i x ok) 1000 90 [] [false, false, false, false, true] 9 [[], [true], [true]] [imX false i, .inl (.int .i64 pc), .inl (.int .i64 g)] = some (false, [XV.inl (Value.agg { toList := [Value.int IntKind.i64 pc, Value.int IntKind.i64 x.op, Value.int IntKind.i64 x.rd, Value.int IntKind.i64 x.a, Value.int IntKind.i64 x.b, Value.int IntKind.i64 x.imm, Value.bool x.aq, Value.bool x.rl, Value.int IntKind.i64 (arZ BinOp.add IntKind.i64 pc x.imm), Value.int IntKind.i64 0, Value.bool false, Value.int IntKind.i64 (stopZ x.op), Value.int IntKind.i64 (arZ BinOp.add IntKind.i64 pc 4), Value.bool true, Value.bool true, Value.bool false, Value.int IntKind.i64 (-1), Value.int IntKind.i64 0] })], [(x.op == 3, true), (x.op == 2, false), (x.op == 1, false), (x.op == 63, false), (!ok, false), (pre (propB (isIm i [Sum.inr { elT := (w32L false i.n i.c).elT, size := (w32L false i.n i.c).size, n := (w32L false i.n i.c).n, el := (w32L false i.n i.c).el, own := false, dead := false, opn := (w32L false i.n i.c).opn }, Sum.inr { elT := (intL false i.m i.d).elT, size := (intL false i.m i.d).size, n := (intL false i.m i.d).n, el := (intL false i.m i.d).el, own := false, dead := false, opn := (intL false i.m i.d).opn }, Sum.inr { elT := (intL false i.h i.e).elT, size := (intL false i.h i.e).size, n := (intL false i.h i.e).n, el := (intL false i.h i.e).el, own := false, dead := false, opn := (intL false i.h i.e).opn }] ∧ feOk i pc x ok)), true)], []) := by kernel_rfl
theorem wf_ffft (i : Im) (x : In) (ok : Bool) (pc g : Int) : S2.simF (envFf i x ok) 1000 90 [] [false, false, false, true] 9 [[], [true], [true]] [imX false i, .inl (.int .i64 pc), .inl (.int .i64 g)] = some (false, [XV.inl (Value.agg { toList := [Value.int IntKind.i64 pc, Value.int IntKind.i64 x.op, Value.int IntKind.i64 x.rd, Value.int IntKind.i64 x.a, Value.int IntKind.i64 x.b, Value.int IntKind.i64 x.imm, Value.bool x.aq, Value.bool x.rl, Value.int IntKind.i64 (arZ BinOp.add IntKind.i64 pc 4), Value.int IntKind.i64 0, Value.bool false, Value.int IntKind.i64 (stopZ x.op), Value.int IntKind.i64 (arZ BinOp.add IntKind.i64 pc (IntKind.i64.wrap (x.imm * 4096))), Value.bool true, Value.bool true, Value.bool false, Value.int IntKind.i64 (-1), Value.int IntKind.i64 0] })], [(x.op == 2, true), (x.op == 1, false), (x.op == 63, false), (!ok, false), (pre (propB (isIm i [Sum.inr { elT := (w32L false i.n i.c).elT, size := (w32L false i.n i.c).size, n := (w32L false i.n i.c).n, el := (w32L false i.n i.c).el, own := false, dead := false, opn := (w32L false i.n i.c).opn }, Sum.inr { elT := (intL false i.m i.d).elT, size := (intL false i.m i.d).size, n := (intL false i.m i.d).n, el := (intL false i.m i.d).el, own := false, dead := false, opn := (intL false i.m i.d).opn }, Sum.inr { elT := (intL false i.h i.e).elT, size := (intL false i.h i.e).size, n := (intL false i.h i.e).n, el := (intL false i.h i.e).el, own := false, dead := false, opn := (intL false i.h i.e).opn }] ∧ feOk i pc x ok)), true)], []) := by kernel_rfl
theorem wf_fft (i : Im) (x : In) (ok : Bool) (pc g : Int) : S2.simF (envFf i x ok) 1000 90 [] [false, false, true] 9 [[], [true], [true]] [imX false i, .inl (.int .i64 pc), .inl (.int .i64 g)] = some (false, [XV.inl (Value.agg { toList := [Value.int IntKind.i64 pc, Value.int IntKind.i64 x.op, Value.int IntKind.i64 x.rd, Value.int IntKind.i64 x.a, Value.int IntKind.i64 x.b, Value.int IntKind.i64 x.imm, Value.bool x.aq, Value.bool x.rl, Value.int IntKind.i64 (arZ BinOp.add IntKind.i64 pc 4), Value.int IntKind.i64 0, Value.bool false, Value.int IntKind.i64 (stopZ x.op), Value.int IntKind.i64 (IntKind.i64.wrap (x.imm * 4096)), Value.bool true, Value.bool true, Value.bool false, Value.int IntKind.i64 (-1), Value.int IntKind.i64 0] })], [(x.op == 1, true), (x.op == 63, false), (!ok, false), (pre (propB (isIm i [Sum.inr { elT := (w32L false i.n i.c).elT, size := (w32L false i.n i.c).size, n := (w32L false i.n i.c).n, el := (w32L false i.n i.c).el, own := false, dead := false, opn := (w32L false i.n i.c).opn }, Sum.inr { elT := (intL false i.m i.d).elT, size := (intL false i.m i.d).size, n := (intL false i.m i.d).n, el := (intL false i.m i.d).el, own := false, dead := false, opn := (intL false i.m i.d).opn }, Sum.inr { elT := (intL false i.h i.e).elT, size := (intL false i.h i.e).size, n := (intL false i.h i.e).n, el := (intL false i.h i.e).el, own := false, dead := false, opn := (intL false i.h i.e).opn }] ∧ feOk i pc x ok)), true)], []) := by kernel_rfl
theorem wf_ft (i : Im) (x : In) (ok : Bool) (pc g : Int) : S2.simF (envFf i x ok) 1000 90 [] [false, true] 9 [[], [true], [true]] [imX false i, .inl (.int .i64 pc), .inl (.int .i64 g)] = some (false, [XV.inl (Value.agg { toList := [Value.int IntKind.i64 pc, Value.int IntKind.i64 x.op, Value.int IntKind.i64 x.rd, Value.int IntKind.i64 x.a, Value.int IntKind.i64 x.b, Value.int IntKind.i64 x.imm, Value.bool x.aq, Value.bool x.rl, Value.int IntKind.i64 (arZ BinOp.add IntKind.i64 pc 4), Value.int IntKind.i64 0, Value.bool false, Value.int IntKind.i64 (stopZ x.op), Value.int IntKind.i64 0, Value.bool false, Value.bool true, Value.bool false, Value.int IntKind.i64 (-1), Value.int IntKind.i64 0] })], [(x.op == 63, true), (!ok, false), (pre (propB (isIm i [Sum.inr { elT := (w32L false i.n i.c).elT, size := (w32L false i.n i.c).size, n := (w32L false i.n i.c).n, el := (w32L false i.n i.c).el, own := false, dead := false, opn := (w32L false i.n i.c).opn }, Sum.inr { elT := (intL false i.m i.d).elT, size := (intL false i.m i.d).size, n := (intL false i.m i.d).n, el := (intL false i.m i.d).el, own := false, dead := false, opn := (intL false i.m i.d).opn }, Sum.inr { elT := (intL false i.h i.e).elT, size := (intL false i.h i.e).size, n := (intL false i.h i.e).n, el := (intL false i.h i.e).el, own := false, dead := false, opn := (intL false i.h i.e).opn }] ∧ feOk i pc x ok)), true)], []) := by kernel_rfl
theorem wf_t (i : Im) (x : In) (ok : Bool) (pc g : Int) : S2.simF (envFf i x ok) 1000 90 [] [true] 9 [[], [true], [true]] [imX false i, .inl (.int .i64 pc), .inl (.int .i64 g)] = some (false, [XV.inl (Value.agg { toList := [Value.int IntKind.i64 pc, Value.int IntKind.i64 x.op, Value.int IntKind.i64 x.rd, Value.int IntKind.i64 x.a, Value.int IntKind.i64 x.b, Value.int IntKind.i64 x.imm, Value.bool x.aq, Value.bool x.rl, Value.int IntKind.i64 (arZ BinOp.add IntKind.i64 pc 4), Value.int IntKind.i64 0, Value.bool false, Value.int IntKind.i64 5, Value.int IntKind.i64 0, Value.bool false, Value.bool false, Value.bool false, Value.int IntKind.i64 (-1), Value.int IntKind.i64 0] })], [(!ok, true), (pre (propB (isIm i [Sum.inr { elT := (w32L false i.n i.c).elT, size := (w32L false i.n i.c).size, n := (w32L false i.n i.c).n, el := (w32L false i.n i.c).el, own := false, dead := false, opn := (w32L false i.n i.c).opn }, Sum.inr { elT := (intL false i.m i.d).elT, size := (intL false i.m i.d).size, n := (intL false i.m i.d).n, el := (intL false i.m i.d).el, own := false, dead := false, opn := (intL false i.m i.d).opn }, Sum.inr { elT := (intL false i.h i.e).elT, size := (intL false i.h i.e).size, n := (intL false i.h i.e).n, el := (intL false i.h i.e).el, own := false, dead := false, opn := (intL false i.h i.e).opn }] ∧ feOk i pc x ok)), true)], []) := by kernel_rfl
theorem winFetch_ret (i : Im) (x : In) (ok : Bool) (pc g : Int) (hf : feOk i pc x ok) (w : World) (hG : GlobOk decGl w) (vals : List Value) (hv : ArgsOk w [imX false i, .inl (.int .i64 pc), .inl (.int .i64 g)] vals) : LRet Tryz.prog 9 vals false [.inl (.agg (ezR (entZ x ok pc g)))] w := by
  cases h0 : (!ok)
  case' false =>
    cases h1 : (x.op == 63)
    case' false =>
      cases h2 : (x.op == 1)
      case' false =>
        cases h3 : (x.op == 2)
        case' false =>
          cases h4 : (x.op == 3)
          case' false =>
            cases h5 : (x.op == 4)
            case' false =>
              cases h6 : (formZ x.op == 4)
              case' false =>
                exact lret_as (fn_ok (envFf_ok i x ok) (wf_fffffff i x ok pc g) (all_cons h6 <| all_cons h5 <| all_cons h4 <| all_cons h3 <| all_cons h2 <| all_cons h1 <| all_cons h0 <| all_cons (propB_ok.mpr ⟨⟨_, _, _, rfl, rfl, rfl, rfl⟩, hf⟩) <| all_nil) Tryz.func9 w vals hG hv fun t ht => by cases ht) (by simp [entZ, h0, h1, h2, h3, h4, h5, h6])
              case' true =>
                cases h7 : (g != 0)
                case' false =>
                  exact lret_as (fn_ok (envFf_ok i x ok) (wf_fffffftf i x ok pc g) (all_cons h7 <| all_cons h6 <| all_cons h5 <| all_cons h4 <| all_cons h3 <| all_cons h2 <| all_cons h1 <| all_cons h0 <| all_cons (propB_ok.mpr ⟨⟨_, _, _, rfl, rfl, rfl, rfl⟩, hf⟩) <| all_nil) Tryz.func9 w vals hG hv fun t ht => by cases ht) (by simp [entZ, h0, h1, h2, h3, h4, h5, h6, h7])
                case' true =>
                  exact lret_as (fn_ok (envFf_ok i x ok) (wf_fffffftt i x ok pc g) (all_cons h7 <| all_cons h6 <| all_cons h5 <| all_cons h4 <| all_cons h3 <| all_cons h2 <| all_cons h1 <| all_cons h0 <| all_cons (propB_ok.mpr ⟨⟨_, _, _, rfl, rfl, rfl, rfl⟩, hf⟩) <| all_nil) Tryz.func9 w vals hG hv fun t ht => by cases ht) (by simp [entZ, h0, h1, h2, h3, h4, h5, h6, h7])
            case' true =>
              exact lret_as (fn_ok (envFf_ok i x ok) (wf_ffffft i x ok pc g) (all_cons h5 <| all_cons h4 <| all_cons h3 <| all_cons h2 <| all_cons h1 <| all_cons h0 <| all_cons (propB_ok.mpr ⟨⟨_, _, _, rfl, rfl, rfl, rfl⟩, hf⟩) <| all_nil) Tryz.func9 w vals hG hv fun t ht => by cases ht) (by simp [entZ, h0, h1, h2, h3, h4, h5, (by simpa using h5 : x.op = 4), (show (formZ 4 == 4) = false from rfl)])
          case' true =>
            exact lret_as (fn_ok (envFf_ok i x ok) (wf_fffft i x ok pc g) (all_cons h4 <| all_cons h3 <| all_cons h2 <| all_cons h1 <| all_cons h0 <| all_cons (propB_ok.mpr ⟨⟨_, _, _, rfl, rfl, rfl, rfl⟩, hf⟩) <| all_nil) Tryz.func9 w vals hG hv fun t ht => by cases ht) (by simp [entZ, h0, h1, h2, h3, h4, (by simpa using h4 : x.op = 3), (show (formZ 3 == 4) = false from rfl)])
        case' true =>
          exact lret_as (fn_ok (envFf_ok i x ok) (wf_ffft i x ok pc g) (all_cons h3 <| all_cons h2 <| all_cons h1 <| all_cons h0 <| all_cons (propB_ok.mpr ⟨⟨_, _, _, rfl, rfl, rfl, rfl⟩, hf⟩) <| all_nil) Tryz.func9 w vals hG hv fun t ht => by cases ht) (by simp [entZ, h0, h1, h2, h3, (by simpa using h3 : x.op = 2), (show (formZ 2 == 4) = false from rfl)])
      case' true =>
        exact lret_as (fn_ok (envFf_ok i x ok) (wf_fft i x ok pc g) (all_cons h2 <| all_cons h1 <| all_cons h0 <| all_cons (propB_ok.mpr ⟨⟨_, _, _, rfl, rfl, rfl, rfl⟩, hf⟩) <| all_nil) Tryz.func9 w vals hG hv fun t ht => by cases ht) (by simp [entZ, h0, h1, h2, (by simpa using h2 : x.op = 1), (show (formZ 1 == 4) = false from rfl)])
    case' true =>
      exact lret_as (fn_ok (envFf_ok i x ok) (wf_ft i x ok pc g) (all_cons h1 <| all_cons h0 <| all_cons (propB_ok.mpr ⟨⟨_, _, _, rfl, rfl, rfl, rfl⟩, hf⟩) <| all_nil) Tryz.func9 w vals hG hv fun t ht => by cases ht) (by simp [entZ, h0, h1, (by simpa using h1 : x.op = 63), (show (formZ 63 == 4) = false from rfl)])
  case' true =>
    exact lret_as (fn_ok (envFf_ok i x ok) (wf_t i x ok pc g) (all_cons h0 <| all_cons (propB_ok.mpr ⟨⟨_, _, _, rfl, rfl, rfl, rfl⟩, hf⟩) <| all_nil) Tryz.func9 w vals hG hv fun t ht => by cases ht) (by simp [entZ, h0])
theorem rf_o (i : Im) (x : In) (ok : Bool) (pc g : Int) : S2.simF (envFf i x ok) 1000 104 [] [false, false, false, false, false, false, false, false, true, false, false] 10 [[], [true], [true]] [imX false i, .inl (.int .i64 pc), .inl (.int .i64 g)] = some (false, [XV.inl (Value.agg { toList := [Value.int IntKind.i64 pc, Value.int IntKind.i64 x.op, Value.int IntKind.i64 x.rd, Value.int IntKind.i64 x.a, Value.int IntKind.i64 x.b, Value.int IntKind.i64 x.imm, Value.bool x.aq, Value.bool x.rl, Value.int IntKind.i64 (arZ BinOp.add IntKind.i64 pc 4), Value.int IntKind.i64 0, Value.bool false, Value.int IntKind.i64 0, Value.int IntKind.i64 0, Value.bool false, Value.bool false, Value.bool false, Value.int IntKind.i64 (-1), Value.int IntKind.i64 0] })], [(formZ x.op == 4, false), (accB x.op, false), (x.op != 0, true), (x.op == 4, false), (x.op == 3, false), (x.op == 2, false), (x.op == 1, false), (x.op == 63, false), (x.op == 65, false), (x.op == 0, false), (!ok, false), (pre (propB (isIm i [Sum.inr { elT := (w32L false i.n i.c).elT, size := (w32L false i.n i.c).size, n := (w32L false i.n i.c).n, el := (w32L false i.n i.c).el, own := false, dead := false, opn := (w32L false i.n i.c).opn }, Sum.inr { elT := (intL false i.m i.d).elT, size := (intL false i.m i.d).size, n := (intL false i.m i.d).n, el := (intL false i.m i.d).el, own := false, dead := false, opn := (intL false i.m i.d).opn }, Sum.inr { elT := (intL false i.h i.e).elT, size := (intL false i.h i.e).size, n := (intL false i.h i.e).n, el := (intL false i.h i.e).el, own := false, dead := false, opn := (intL false i.h i.e).opn }] ∧ feOk i pc x ok)), true)], []) := by kernel_rfl
theorem rf_b0 (i : Im) (x : In) (ok : Bool) (pc g : Int) : S2.simF (envFf i x ok) 1000 104 [] [false, false, false, false, false, false, false, false, true, false, true, false] 10 [[], [true], [true]] [imX false i, .inl (.int .i64 pc), .inl (.int .i64 g)] = some (false, [XV.inl (Value.agg { toList := [Value.int IntKind.i64 pc, Value.int IntKind.i64 x.op, Value.int IntKind.i64 x.rd, Value.int IntKind.i64 x.a, Value.int IntKind.i64 x.b, Value.int IntKind.i64 x.imm, Value.bool x.aq, Value.bool x.rl, Value.int IntKind.i64 (arZ BinOp.add IntKind.i64 pc 4), Value.int IntKind.i64 0, Value.bool false, Value.int IntKind.i64 0, Value.int IntKind.i64 0, Value.bool false, Value.bool false, Value.bool false, Value.int IntKind.i64 (-1), Value.int IntKind.i64 0] })], [(g != 0, false), (formZ x.op == 4, true), (accB x.op, false), (x.op != 0, true), (x.op == 4, false), (x.op == 3, false), (x.op == 2, false), (x.op == 1, false), (x.op == 63, false), (x.op == 65, false), (x.op == 0, false), (!ok, false), (pre (propB (isIm i [Sum.inr { elT := (w32L false i.n i.c).elT, size := (w32L false i.n i.c).size, n := (w32L false i.n i.c).n, el := (w32L false i.n i.c).el, own := false, dead := false, opn := (w32L false i.n i.c).opn }, Sum.inr { elT := (intL false i.m i.d).elT, size := (intL false i.m i.d).size, n := (intL false i.m i.d).n, el := (intL false i.m i.d).el, own := false, dead := false, opn := (intL false i.m i.d).opn }, Sum.inr { elT := (intL false i.h i.e).elT, size := (intL false i.h i.e).size, n := (intL false i.h i.e).n, el := (intL false i.h i.e).el, own := false, dead := false, opn := (intL false i.h i.e).opn }] ∧ feOk i pc x ok)), true)], []) := by kernel_rfl
theorem rf_b1 (i : Im) (x : In) (ok : Bool) (pc g : Int) : S2.simF (envFf i x ok) 1000 104 [] [false, false, false, false, false, false, false, false, true, false, true, true] 10 [[], [true], [true]] [imX false i, .inl (.int .i64 pc), .inl (.int .i64 g)] = some (false, [XV.inl (Value.agg { toList := [Value.int IntKind.i64 pc, Value.int IntKind.i64 x.op, Value.int IntKind.i64 x.rd, Value.int IntKind.i64 x.a, Value.int IntKind.i64 x.b, Value.int IntKind.i64 x.imm, Value.bool x.aq, Value.bool x.rl, Value.int IntKind.i64 (arZ BinOp.add IntKind.i64 pc x.imm), Value.int IntKind.i64 0, Value.bool false, Value.int IntKind.i64 0, Value.int IntKind.i64 0, Value.bool false, Value.bool false, Value.bool false, Value.int IntKind.i64 (-1), Value.int IntKind.i64 0] })], [(g != 0, true), (formZ x.op == 4, true), (accB x.op, false), (x.op != 0, true), (x.op == 4, false), (x.op == 3, false), (x.op == 2, false), (x.op == 1, false), (x.op == 63, false), (x.op == 65, false), (x.op == 0, false), (!ok, false), (pre (propB (isIm i [Sum.inr { elT := (w32L false i.n i.c).elT, size := (w32L false i.n i.c).size, n := (w32L false i.n i.c).n, el := (w32L false i.n i.c).el, own := false, dead := false, opn := (w32L false i.n i.c).opn }, Sum.inr { elT := (intL false i.m i.d).elT, size := (intL false i.m i.d).size, n := (intL false i.m i.d).n, el := (intL false i.m i.d).el, own := false, dead := false, opn := (intL false i.m i.d).opn }, Sum.inr { elT := (intL false i.h i.e).elT, size := (intL false i.h i.e).size, n := (intL false i.h i.e).n, el := (intL false i.h i.e).el, own := false, dead := false, opn := (intL false i.h i.e).opn }] ∧ feOk i pc x ok)), true)], []) := by kernel_rfl
theorem rf_w (i : Im) (x : In) (ok : Bool) (pc g : Int) : S2.simF (envFf i x ok) 1000 104 [] [false, false, false, false, false, false, false, false, true, true, false, false] 10 [[], [true], [true]] [imX false i, .inl (.int .i64 pc), .inl (.int .i64 g)] = some (false, [XV.inl (Value.agg { toList := [Value.int IntKind.i64 pc, Value.int IntKind.i64 x.op, Value.int IntKind.i64 x.rd, Value.int IntKind.i64 x.a, Value.int IntKind.i64 x.b, Value.int IntKind.i64 x.imm, Value.bool x.aq, Value.bool x.rl, Value.int IntKind.i64 (arZ BinOp.add IntKind.i64 pc 4), Value.int IntKind.i64 0, Value.bool false, Value.int IntKind.i64 0, Value.int IntKind.i64 0, Value.bool false, Value.bool false, Value.bool false, Value.int IntKind.i64 (-1), Value.int IntKind.i64 0] })], [(formZ x.op == 4, false), (!wideB x.op, false), (accB x.op, true), (x.op != 0, true), (x.op == 4, false), (x.op == 3, false), (x.op == 2, false), (x.op == 1, false), (x.op == 63, false), (x.op == 65, false), (x.op == 0, false), (!ok, false), (pre (propB (isIm i [Sum.inr { elT := (w32L false i.n i.c).elT, size := (w32L false i.n i.c).size, n := (w32L false i.n i.c).n, el := (w32L false i.n i.c).el, own := false, dead := false, opn := (w32L false i.n i.c).opn }, Sum.inr { elT := (intL false i.m i.d).elT, size := (intL false i.m i.d).size, n := (intL false i.m i.d).n, el := (intL false i.m i.d).el, own := false, dead := false, opn := (intL false i.m i.d).opn }, Sum.inr { elT := (intL false i.h i.e).elT, size := (intL false i.h i.e).size, n := (intL false i.h i.e).n, el := (intL false i.h i.e).el, own := false, dead := false, opn := (intL false i.h i.e).opn }] ∧ feOk i pc x ok)), true)], []) := by kernel_rfl
theorem rf_n (i : Im) (x : In) (ok : Bool) (pc g : Int) : S2.simF (envFf i x ok) 1000 104 [] [false, false, false, false, false, false, false, false, true, true, true, false] 10 [[], [true], [true]] [imX false i, .inl (.int .i64 pc), .inl (.int .i64 g)] = some (false, [XV.inl (Value.agg { toList := [Value.int IntKind.i64 pc, Value.int IntKind.i64 x.op, Value.int IntKind.i64 x.rd, Value.int IntKind.i64 x.a, Value.int IntKind.i64 x.b, Value.int IntKind.i64 x.imm, Value.bool x.aq, Value.bool x.rl, Value.int IntKind.i64 (arZ BinOp.add IntKind.i64 pc 4), Value.int IntKind.i64 0, Value.bool false, Value.int IntKind.i64 6, Value.int IntKind.i64 0, Value.bool false, Value.bool false, Value.bool false, Value.int IntKind.i64 (-1), Value.int IntKind.i64 0] })], [(formZ x.op == 4, false), (!wideB x.op, true), (accB x.op, true), (x.op != 0, true), (x.op == 4, false), (x.op == 3, false), (x.op == 2, false), (x.op == 1, false), (x.op == 63, false), (x.op == 65, false), (x.op == 0, false), (!ok, false), (pre (propB (isIm i [Sum.inr { elT := (w32L false i.n i.c).elT, size := (w32L false i.n i.c).size, n := (w32L false i.n i.c).n, el := (w32L false i.n i.c).el, own := false, dead := false, opn := (w32L false i.n i.c).opn }, Sum.inr { elT := (intL false i.m i.d).elT, size := (intL false i.m i.d).size, n := (intL false i.m i.d).n, el := (intL false i.m i.d).el, own := false, dead := false, opn := (intL false i.m i.d).opn }, Sum.inr { elT := (intL false i.h i.e).elT, size := (intL false i.h i.e).size, n := (intL false i.h i.e).n, el := (intL false i.h i.e).el, own := false, dead := false, opn := (intL false i.h i.e).opn }] ∧ feOk i pc x ok)), true)], []) := by kernel_rfl
theorem rf_4 (i : Im) (x : In) (ok : Bool) (pc g : Int) : S2.simF (envFf i x ok) 1000 104 [] [false, false, false, false, false, false, false, true, true, false, false] 10 [[], [true], [true]] [imX false i, .inl (.int .i64 pc), .inl (.int .i64 g)] = some (false, [XV.inl (Value.agg { toList := [Value.int IntKind.i64 pc, Value.int IntKind.i64 x.op, Value.int IntKind.i64 x.rd, Value.int IntKind.i64 x.a, Value.int IntKind.i64 x.b, Value.int IntKind.i64 x.imm, Value.bool x.aq, Value.bool x.rl, Value.int IntKind.i64 g, Value.int IntKind.i64 0, Value.bool false, Value.int IntKind.i64 0, Value.int IntKind.i64 (arZ BinOp.add IntKind.i64 pc 4), Value.bool true, Value.bool false, Value.bool false, Value.int IntKind.i64 (-1), Value.int IntKind.i64 0] })], [(formZ x.op == 4, false), (accB x.op, false), (x.op != 0, true), (x.op == 4, true), (x.op == 3, false), (x.op == 2, false), (x.op == 1, false), (x.op == 63, false), (x.op == 65, false), (x.op == 0, false), (!ok, false), (pre (propB (isIm i [Sum.inr { elT := (w32L false i.n i.c).elT, size := (w32L false i.n i.c).size, n := (w32L false i.n i.c).n, el := (w32L false i.n i.c).el, own := false, dead := false, opn := (w32L false i.n i.c).opn }, Sum.inr { elT := (intL false i.m i.d).elT, size := (intL false i.m i.d).size, n := (intL false i.m i.d).n, el := (intL false i.m i.d).el, own := false, dead := false, opn := (intL false i.m i.d).opn }, Sum.inr { elT := (intL false i.h i.e).elT, size := (intL false i.h i.e).size, n := (intL false i.h i.e).n, el := (intL false i.h i.e).el, own := false, dead := false, opn := (intL false i.h i.e).opn }] ∧ feOk i pc x ok)), true)], []) := by kernel_rfl
theorem rf_3 (i : Im) (x : In) (ok : Bool) (pc g : Int) : S2.simF (envFf i x ok) 1000 104 [] [false, false, false, false, false, false, true, true, false, false] 10 [[], [true], [true]] [imX false i, .inl (.int .i64 pc), .inl (.int .i64 g)] = some (false, [XV.inl (Value.agg { toList := [Value.int IntKind.i64 pc, Value.int IntKind.i64 x.op, Value.int IntKind.i64 x.rd, Value.int IntKind.i64 x.a, Value.int IntKind.i64 x.b, Value.int IntKind.i64 x.imm, Value.bool x.aq, Value.bool x.rl, Value.int IntKind.i64 (arZ BinOp.add IntKind.i64 pc x.imm), Value.int IntKind.i64 0, Value.bool false, Value.int IntKind.i64 0, Value.int IntKind.i64 (arZ BinOp.add IntKind.i64 pc 4), Value.bool true, Value.bool true, Value.bool false, Value.int IntKind.i64 (-1), Value.int IntKind.i64 0] })], [(formZ x.op == 4, false), (accB x.op, false), (x.op != 0, true), (x.op == 3, true), (x.op == 2, false), (x.op == 1, false), (x.op == 63, false), (x.op == 65, false), (x.op == 0, false), (!ok, false), (pre (propB (isIm i [Sum.inr { elT := (w32L false i.n i.c).elT, size := (w32L false i.n i.c).size, n := (w32L false i.n i.c).n, el := (w32L false i.n i.c).el, own := false, dead := false, opn := (w32L false i.n i.c).opn }, Sum.inr { elT := (intL false i.m i.d).elT, size := (intL false i.m i.d).size, n := (intL false i.m i.d).n, el := (intL false i.m i.d).el, own := false, dead := false, opn := (intL false i.m i.d).opn }, Sum.inr { elT := (intL false i.h i.e).elT, size := (intL false i.h i.e).size, n := (intL false i.h i.e).n, el := (intL false i.h i.e).el, own := false, dead := false, opn := (intL false i.h i.e).opn }] ∧ feOk i pc x ok)), true)], []) := by kernel_rfl
theorem rf_2 (i : Im) (x : In) (ok : Bool) (pc g : Int) : S2.simF (envFf i x ok) 1000 104 [] [false, false, false, false, false, true, true, false, false] 10 [[], [true], [true]] [imX false i, .inl (.int .i64 pc), .inl (.int .i64 g)] = some (false, [XV.inl (Value.agg { toList := [Value.int IntKind.i64 pc, Value.int IntKind.i64 x.op, Value.int IntKind.i64 x.rd, Value.int IntKind.i64 x.a, Value.int IntKind.i64 x.b, Value.int IntKind.i64 x.imm, Value.bool x.aq, Value.bool x.rl, Value.int IntKind.i64 (arZ BinOp.add IntKind.i64 pc 4), Value.int IntKind.i64 0, Value.bool false, Value.int IntKind.i64 0, Value.int IntKind.i64 (arZ BinOp.add IntKind.i64 pc (IntKind.i64.wrap (4096 * x.imm))), Value.bool true, Value.bool true, Value.bool false, Value.int IntKind.i64 (-1), Value.int IntKind.i64 0] })], [(formZ x.op == 4, false), (accB x.op, false), (x.op != 0, true), (x.op == 2, true), (x.op == 1, false), (x.op == 63, false), (x.op == 65, false), (x.op == 0, false), (!ok, false), (pre (propB (isIm i [Sum.inr { elT := (w32L false i.n i.c).elT, size := (w32L false i.n i.c).size, n := (w32L false i.n i.c).n, el := (w32L false i.n i.c).el, own := false, dead := false, opn := (w32L false i.n i.c).opn }, Sum.inr { elT := (intL false i.m i.d).elT, size := (intL false i.m i.d).size, n := (intL false i.m i.d).n, el := (intL false i.m i.d).el, own := false, dead := false, opn := (intL false i.m i.d).opn }, Sum.inr { elT := (intL false i.h i.e).elT, size := (intL false i.h i.e).size, n := (intL false i.h i.e).n, el := (intL false i.h i.e).el, own := false, dead := false, opn := (intL false i.h i.e).opn }] ∧ feOk i pc x ok)), true)], []) := by kernel_rfl
theorem rf_1 (i : Im) (x : In) (ok : Bool) (pc g : Int) : S2.simF (envFf i x ok) 1000 104 [] [false, false, false, false, true, true, false, false] 10 [[], [true], [true]] [imX false i, .inl (.int .i64 pc), .inl (.int .i64 g)] = some (false, [XV.inl (Value.agg { toList := [Value.int IntKind.i64 pc, Value.int IntKind.i64 x.op, Value.int IntKind.i64 x.rd, Value.int IntKind.i64 x.a, Value.int IntKind.i64 x.b, Value.int IntKind.i64 x.imm, Value.bool x.aq, Value.bool x.rl, Value.int IntKind.i64 (arZ BinOp.add IntKind.i64 pc 4), Value.int IntKind.i64 0, Value.bool false, Value.int IntKind.i64 0, Value.int IntKind.i64 (IntKind.i64.wrap (4096 * x.imm)), Value.bool true, Value.bool true, Value.bool false, Value.int IntKind.i64 (-1), Value.int IntKind.i64 0] })], [(formZ x.op == 4, false), (accB x.op, false), (x.op != 0, true), (x.op == 1, true), (x.op == 63, false), (x.op == 65, false), (x.op == 0, false), (!ok, false), (pre (propB (isIm i [Sum.inr { elT := (w32L false i.n i.c).elT, size := (w32L false i.n i.c).size, n := (w32L false i.n i.c).n, el := (w32L false i.n i.c).el, own := false, dead := false, opn := (w32L false i.n i.c).opn }, Sum.inr { elT := (intL false i.m i.d).elT, size := (intL false i.m i.d).size, n := (intL false i.m i.d).n, el := (intL false i.m i.d).el, own := false, dead := false, opn := (intL false i.m i.d).opn }, Sum.inr { elT := (intL false i.h i.e).elT, size := (intL false i.h i.e).size, n := (intL false i.h i.e).n, el := (intL false i.h i.e).el, own := false, dead := false, opn := (intL false i.h i.e).opn }] ∧ feOk i pc x ok)), true)], []) := by kernel_rfl
theorem rf_63 (i : Im) (x : In) (ok : Bool) (pc g : Int) : S2.simF (envFf i x ok) 1000 104 [] [false, false, false, true, true, false, false] 10 [[], [true], [true]] [imX false i, .inl (.int .i64 pc), .inl (.int .i64 g)] = some (false, [XV.inl (Value.agg { toList := [Value.int IntKind.i64 pc, Value.int IntKind.i64 x.op, Value.int IntKind.i64 x.rd, Value.int IntKind.i64 x.a, Value.int IntKind.i64 x.b, Value.int IntKind.i64 x.imm, Value.bool x.aq, Value.bool x.rl, Value.int IntKind.i64 (arZ BinOp.add IntKind.i64 pc 4), Value.int IntKind.i64 0, Value.bool false, Value.int IntKind.i64 0, Value.int IntKind.i64 0, Value.bool false, Value.bool true, Value.bool false, Value.int IntKind.i64 (-1), Value.int IntKind.i64 0] })], [(formZ x.op == 4, false), (accB x.op, false), (x.op != 0, true), (x.op == 63, true), (x.op == 65, false), (x.op == 0, false), (!ok, false), (pre (propB (isIm i [Sum.inr { elT := (w32L false i.n i.c).elT, size := (w32L false i.n i.c).size, n := (w32L false i.n i.c).n, el := (w32L false i.n i.c).el, own := false, dead := false, opn := (w32L false i.n i.c).opn }, Sum.inr { elT := (intL false i.m i.d).elT, size := (intL false i.m i.d).size, n := (intL false i.m i.d).n, el := (intL false i.m i.d).el, own := false, dead := false, opn := (intL false i.m i.d).opn }, Sum.inr { elT := (intL false i.h i.e).elT, size := (intL false i.h i.e).size, n := (intL false i.h i.e).n, el := (intL false i.h i.e).el, own := false, dead := false, opn := (intL false i.h i.e).opn }] ∧ feOk i pc x ok)), true)], []) := by kernel_rfl
theorem rf_65 (i : Im) (x : In) (ok : Bool) (pc g : Int) : S2.simF (envFf i x ok) 1000 104 [] [false, false, true, true, false, false] 10 [[], [true], [true]] [imX false i, .inl (.int .i64 pc), .inl (.int .i64 g)] = some (false, [XV.inl (Value.agg { toList := [Value.int IntKind.i64 pc, Value.int IntKind.i64 x.op, Value.int IntKind.i64 x.rd, Value.int IntKind.i64 x.a, Value.int IntKind.i64 x.b, Value.int IntKind.i64 x.imm, Value.bool x.aq, Value.bool x.rl, Value.int IntKind.i64 (arZ BinOp.add IntKind.i64 pc 4), Value.int IntKind.i64 0, Value.bool false, Value.int IntKind.i64 7, Value.int IntKind.i64 0, Value.bool false, Value.bool false, Value.bool false, Value.int IntKind.i64 (-1), Value.int IntKind.i64 0] })], [(formZ x.op == 4, false), (accB x.op, false), (x.op != 0, true), (x.op == 65, true), (x.op == 0, false), (!ok, false), (pre (propB (isIm i [Sum.inr { elT := (w32L false i.n i.c).elT, size := (w32L false i.n i.c).size, n := (w32L false i.n i.c).n, el := (w32L false i.n i.c).el, own := false, dead := false, opn := (w32L false i.n i.c).opn }, Sum.inr { elT := (intL false i.m i.d).elT, size := (intL false i.m i.d).size, n := (intL false i.m i.d).n, el := (intL false i.m i.d).el, own := false, dead := false, opn := (intL false i.m i.d).opn }, Sum.inr { elT := (intL false i.h i.e).elT, size := (intL false i.h i.e).size, n := (intL false i.h i.e).n, el := (intL false i.h i.e).el, own := false, dead := false, opn := (intL false i.h i.e).opn }] ∧ feOk i pc x ok)), true)], []) := by kernel_rfl
theorem rf_0 (i : Im) (x : In) (ok : Bool) (pc g : Int) : S2.simF (envFf i x ok) 1000 104 [] [false, true, false, false] 10 [[], [true], [true]] [imX false i, .inl (.int .i64 pc), .inl (.int .i64 g)] = some (false, [XV.inl (Value.agg { toList := [Value.int IntKind.i64 pc, Value.int IntKind.i64 x.op, Value.int IntKind.i64 x.rd, Value.int IntKind.i64 x.a, Value.int IntKind.i64 x.b, Value.int IntKind.i64 x.imm, Value.bool x.aq, Value.bool x.rl, Value.int IntKind.i64 (arZ BinOp.add IntKind.i64 pc 4), Value.int IntKind.i64 0, Value.bool false, Value.int IntKind.i64 4, Value.int IntKind.i64 0, Value.bool false, Value.bool false, Value.bool false, Value.int IntKind.i64 (-1), Value.int IntKind.i64 0] })], [(formZ x.op == 4, false), (x.op != 0, false), (x.op == 0, true), (!ok, false), (pre (propB (isIm i [Sum.inr { elT := (w32L false i.n i.c).elT, size := (w32L false i.n i.c).size, n := (w32L false i.n i.c).n, el := (w32L false i.n i.c).el, own := false, dead := false, opn := (w32L false i.n i.c).opn }, Sum.inr { elT := (intL false i.m i.d).elT, size := (intL false i.m i.d).size, n := (intL false i.m i.d).n, el := (intL false i.m i.d).el, own := false, dead := false, opn := (intL false i.m i.d).opn }, Sum.inr { elT := (intL false i.h i.e).elT, size := (intL false i.h i.e).size, n := (intL false i.h i.e).n, el := (intL false i.h i.e).el, own := false, dead := false, opn := (intL false i.h i.e).opn }] ∧ feOk i pc x ok)), true)], []) := by kernel_rfl
theorem rf_no (i : Im) (x : In) (ok : Bool) (pc g : Int) : S2.simF (envFf i x ok) 1000 104 [] [true] 10 [[], [true], [true]] [imX false i, .inl (.int .i64 pc), .inl (.int .i64 g)] = some (false, [XV.inl (Value.agg { toList := [Value.int IntKind.i64 pc, Value.int IntKind.i64 x.op, Value.int IntKind.i64 x.rd, Value.int IntKind.i64 x.a, Value.int IntKind.i64 x.b, Value.int IntKind.i64 x.imm, Value.bool x.aq, Value.bool x.rl, Value.int IntKind.i64 (arZ BinOp.add IntKind.i64 pc 4), Value.int IntKind.i64 0, Value.bool false, Value.int IntKind.i64 5, Value.int IntKind.i64 0, Value.bool false, Value.bool false, Value.bool false, Value.int IntKind.i64 (-1), Value.int IntKind.i64 0] })], [(!ok, true), (pre (propB (isIm i [Sum.inr { elT := (w32L false i.n i.c).elT, size := (w32L false i.n i.c).size, n := (w32L false i.n i.c).n, el := (w32L false i.n i.c).el, own := false, dead := false, opn := (w32L false i.n i.c).opn }, Sum.inr { elT := (intL false i.m i.d).elT, size := (intL false i.m i.d).size, n := (intL false i.m i.d).n, el := (intL false i.m i.d).el, own := false, dead := false, opn := (intL false i.m i.d).opn }, Sum.inr { elT := (intL false i.h i.e).elT, size := (intL false i.h i.e).size, n := (intL false i.h i.e).n, el := (intL false i.h i.e).el, own := false, dead := false, opn := (intL false i.h i.e).opn }] ∧ feOk i pc x ok)), true)], []) := by kernel_rfl
theorem refFetch_ret (i : Im) (x : In) (ok : Bool) (pc g : Int) (hf : feOk i pc x ok) (w : World) (hG : GlobOk decGl w) (vals : List Value) (hv : ArgsOk w [imX false i, .inl (.int .i64 pc), .inl (.int .i64 g)] vals) : LRet Tryz.prog 10 vals false [.inl (.agg (ezR (entZ x ok pc g)))] w := by
  cases hok : ok
  case' false =>
    subst hok
    exact lret_as (fn_ok (envFf_ok i x false) (rf_no i x false pc g) (all_cons rfl <| all_cons (propB_ok.mpr ⟨⟨_, _, _, rfl, rfl, rfl, rfl⟩, hf⟩) <| all_nil) Tryz.func10 w vals hG hv fun t ht => by cases ht) (by simp [entZ])
  case' true =>
    subst hok
    by_cases h0 : x.op = 0
    · obtain ⟨op, rd, a, b, imm, aq, rl⟩ := x
      simp only at h0
      subst h0
      exact lret_as (fn_ok (envFf_ok i ⟨0, rd, a, b, imm, aq, rl⟩ true) (rf_0 i ⟨0, rd, a, b, imm, aq, rl⟩ true pc g) (all_cons (by first | rfl | decide) <| all_cons (by first | rfl | decide) <| all_cons (by first | rfl | decide) <| all_cons (by first | rfl | decide) <| all_cons (propB_ok.mpr ⟨⟨_, _, _, rfl, rfl, rfl, rfl⟩, hf⟩) <| all_nil) Tryz.func10 w vals hG hv fun t ht => by cases ht) (by rw [show entZ ⟨0, rd, a, b, imm, aq, rl⟩ true pc g = ⟨pc, ⟨0, rd, a, b, imm, aq, rl⟩, arZ .add .i64 pc 4, 0, false, 4, 0, false, false, false, -1, 0⟩ from rfl])
    by_cases h65 : x.op = 65
    · obtain ⟨op, rd, a, b, imm, aq, rl⟩ := x
      simp only at h65
      subst h65
      exact lret_as (fn_ok (envFf_ok i ⟨65, rd, a, b, imm, aq, rl⟩ true) (rf_65 i ⟨65, rd, a, b, imm, aq, rl⟩ true pc g) (all_cons (by first | rfl | decide) <| all_cons (by first | rfl | decide) <| all_cons (by first | rfl | decide) <| all_cons (by first | rfl | decide) <| all_cons (by first | rfl | decide) <| all_cons (by first | rfl | decide) <| all_cons (propB_ok.mpr ⟨⟨_, _, _, rfl, rfl, rfl, rfl⟩, hf⟩) <| all_nil) Tryz.func10 w vals hG hv fun t ht => by cases ht) (by rw [show entZ ⟨65, rd, a, b, imm, aq, rl⟩ true pc g = ⟨pc, ⟨65, rd, a, b, imm, aq, rl⟩, arZ .add .i64 pc 4, 0, false, 7, 0, false, false, false, -1, 0⟩ from rfl])
    by_cases h63 : x.op = 63
    · obtain ⟨op, rd, a, b, imm, aq, rl⟩ := x
      simp only at h63
      subst h63
      exact lret_as (fn_ok (envFf_ok i ⟨63, rd, a, b, imm, aq, rl⟩ true) (rf_63 i ⟨63, rd, a, b, imm, aq, rl⟩ true pc g) (all_cons (by first | rfl | decide) <| all_cons (by first | rfl | decide) <| all_cons (by first | rfl | decide) <| all_cons (by first | rfl | decide) <| all_cons (by first | rfl | decide) <| all_cons (by first | rfl | decide) <| all_cons (by first | rfl | decide) <| all_cons (propB_ok.mpr ⟨⟨_, _, _, rfl, rfl, rfl, rfl⟩, hf⟩) <| all_nil) Tryz.func10 w vals hG hv fun t ht => by cases ht) (by rw [show entZ ⟨63, rd, a, b, imm, aq, rl⟩ true pc g = ⟨pc, ⟨63, rd, a, b, imm, aq, rl⟩, arZ .add .i64 pc 4, 0, false, 0, 0, false, true, false, -1, 0⟩ from rfl])
    by_cases h1 : x.op = 1
    · obtain ⟨op, rd, a, b, imm, aq, rl⟩ := x
      simp only at h1
      subst h1
      exact lret_as (fn_ok (envFf_ok i ⟨1, rd, a, b, imm, aq, rl⟩ true) (rf_1 i ⟨1, rd, a, b, imm, aq, rl⟩ true pc g) (all_cons (by first | rfl | decide) <| all_cons (by first | rfl | decide) <| all_cons (by first | rfl | decide) <| all_cons (by first | rfl | decide) <| all_cons (by first | rfl | decide) <| all_cons (by first | rfl | decide) <| all_cons (by first | rfl | decide) <| all_cons (by first | rfl | decide) <| all_cons (propB_ok.mpr ⟨⟨_, _, _, rfl, rfl, rfl, rfl⟩, hf⟩) <| all_nil) Tryz.func10 w vals hG hv fun t ht => by cases ht) (by rw [show entZ ⟨1, rd, a, b, imm, aq, rl⟩ true pc g = ⟨pc, ⟨1, rd, a, b, imm, aq, rl⟩, arZ .add .i64 pc 4, 0, false, 0, IntKind.i64.wrap (4096 * imm), true, true, false, -1, 0⟩ from by rw [Int.mul_comm]; rfl])
    by_cases h2 : x.op = 2
    · obtain ⟨op, rd, a, b, imm, aq, rl⟩ := x
      simp only at h2
      subst h2
      exact lret_as (fn_ok (envFf_ok i ⟨2, rd, a, b, imm, aq, rl⟩ true) (rf_2 i ⟨2, rd, a, b, imm, aq, rl⟩ true pc g) (all_cons (by first | rfl | decide) <| all_cons (by first | rfl | decide) <| all_cons (by first | rfl | decide) <| all_cons (by first | rfl | decide) <| all_cons (by first | rfl | decide) <| all_cons (by first | rfl | decide) <| all_cons (by first | rfl | decide) <| all_cons (by first | rfl | decide) <| all_cons (by first | rfl | decide) <| all_cons (propB_ok.mpr ⟨⟨_, _, _, rfl, rfl, rfl, rfl⟩, hf⟩) <| all_nil) Tryz.func10 w vals hG hv fun t ht => by cases ht) (by rw [show entZ ⟨2, rd, a, b, imm, aq, rl⟩ true pc g = ⟨pc, ⟨2, rd, a, b, imm, aq, rl⟩, arZ .add .i64 pc 4, 0, false, 0, arZ .add .i64 pc (IntKind.i64.wrap (4096 * imm)), true, true, false, -1, 0⟩ from by rw [Int.mul_comm]; rfl])
    by_cases h3 : x.op = 3
    · obtain ⟨op, rd, a, b, imm, aq, rl⟩ := x
      simp only at h3
      subst h3
      exact lret_as (fn_ok (envFf_ok i ⟨3, rd, a, b, imm, aq, rl⟩ true) (rf_3 i ⟨3, rd, a, b, imm, aq, rl⟩ true pc g) (all_cons (by first | rfl | decide) <| all_cons (by first | rfl | decide) <| all_cons (by first | rfl | decide) <| all_cons (by first | rfl | decide) <| all_cons (by first | rfl | decide) <| all_cons (by first | rfl | decide) <| all_cons (by first | rfl | decide) <| all_cons (by first | rfl | decide) <| all_cons (by first | rfl | decide) <| all_cons (by first | rfl | decide) <| all_cons (propB_ok.mpr ⟨⟨_, _, _, rfl, rfl, rfl, rfl⟩, hf⟩) <| all_nil) Tryz.func10 w vals hG hv fun t ht => by cases ht) (by rw [show entZ ⟨3, rd, a, b, imm, aq, rl⟩ true pc g = ⟨pc, ⟨3, rd, a, b, imm, aq, rl⟩, arZ .add .i64 pc imm, 0, false, 0, arZ .add .i64 pc 4, true, true, false, -1, 0⟩ from rfl])
    by_cases h4 : x.op = 4
    · obtain ⟨op, rd, a, b, imm, aq, rl⟩ := x
      simp only at h4
      subst h4
      exact lret_as (fn_ok (envFf_ok i ⟨4, rd, a, b, imm, aq, rl⟩ true) (rf_4 i ⟨4, rd, a, b, imm, aq, rl⟩ true pc g) (all_cons (by first | rfl | decide) <| all_cons (by first | rfl | decide) <| all_cons (by first | rfl | decide) <| all_cons (by first | rfl | decide) <| all_cons (by first | rfl | decide) <| all_cons (by first | rfl | decide) <| all_cons (by first | rfl | decide) <| all_cons (by first | rfl | decide) <| all_cons (by first | rfl | decide) <| all_cons (by first | rfl | decide) <| all_cons (by first | rfl | decide) <| all_cons (propB_ok.mpr ⟨⟨_, _, _, rfl, rfl, rfl, rfl⟩, hf⟩) <| all_nil) Tryz.func10 w vals hG hv fun t ht => by cases ht) (by rw [show entZ ⟨4, rd, a, b, imm, aq, rl⟩ true pc g = ⟨pc, ⟨4, rd, a, b, imm, aq, rl⟩, g, 0, false, 0, arZ .add .i64 pc 4, true, false, false, -1, 0⟩ from rfl])
    have n0 : (x.op == 0) = false := by simpa using h0
    have n65 : (x.op == 65) = false := by simpa using h65
    have n63 : (x.op == 63) = false := by simpa using h63
    have n1 : (x.op == 1) = false := by simpa using h1
    have n2 : (x.op == 2) = false := by simpa using h2
    have n3 : (x.op == 3) = false := by simpa using h3
    have n4 : (x.op == 4) = false := by simpa using h4
    have m0 : (x.op != 0) = true := by simpa using h0
    cases ha : accB x.op
    case' false =>
      have ha' : (readZ x.op || writeZ x.op) = false := ha
      cases h4 : (formZ x.op == 4)
      case' false =>
        exact lret_as (fn_ok (envFf_ok i x true) (rf_o i x true pc g) (all_cons h4 <| all_cons ha <| all_cons m0 <| all_cons n4 <| all_cons n3 <| all_cons n2 <| all_cons n1 <| all_cons n63 <| all_cons n65 <| all_cons n0 <| all_cons rfl <| all_cons (propB_ok.mpr ⟨⟨_, _, _, rfl, rfl, rfl, rfl⟩, hf⟩) <| all_nil) Tryz.func10 w vals hG hv fun t ht => by cases ht) (by simp [entZ, stopZ, ha', h4, n0, n65, n63, n1, n2, n3, n4])
      case' true =>
        cases hg : (g != 0)
        case' false =>
          exact lret_as (fn_ok (envFf_ok i x true) (rf_b0 i x true pc g) (all_cons hg <| all_cons h4 <| all_cons ha <| all_cons m0 <| all_cons n4 <| all_cons n3 <| all_cons n2 <| all_cons n1 <| all_cons n63 <| all_cons n65 <| all_cons n0 <| all_cons rfl <| all_cons (propB_ok.mpr ⟨⟨_, _, _, rfl, rfl, rfl, rfl⟩, hf⟩) <| all_nil) Tryz.func10 w vals hG hv fun t ht => by cases ht) (by simp [entZ, stopZ, ha', h4, hg, n0, n65, n63, n1, n2, n3, n4])
        case' true =>
          exact lret_as (fn_ok (envFf_ok i x true) (rf_b1 i x true pc g) (all_cons hg <| all_cons h4 <| all_cons ha <| all_cons m0 <| all_cons n4 <| all_cons n3 <| all_cons n2 <| all_cons n1 <| all_cons n63 <| all_cons n65 <| all_cons n0 <| all_cons rfl <| all_cons (propB_ok.mpr ⟨⟨_, _, _, rfl, rfl, rfl, rfl⟩, hf⟩) <| all_nil) Tryz.func10 w vals hG hv fun t ht => by cases ht) (by simp [entZ, stopZ, ha', h4, hg, n0, n65, n63, n1, n2, n3, n4])
    case' true =>
      have ha' : (readZ x.op || writeZ x.op) = true := ha
      have h4 := acc_form x.op ha
      cases hw : (!wideB x.op)
      case' false =>
        exact lret_as (fn_ok (envFf_ok i x true) (rf_w i x true pc g) (all_cons h4 <| all_cons hw <| all_cons ha <| all_cons m0 <| all_cons n4 <| all_cons n3 <| all_cons n2 <| all_cons n1 <| all_cons n63 <| all_cons n65 <| all_cons n0 <| all_cons rfl <| all_cons (propB_ok.mpr ⟨⟨_, _, _, rfl, rfl, rfl, rfl⟩, hf⟩) <| all_nil) Tryz.func10 w vals hG hv fun t ht => by cases ht) (by simp [entZ, stopZ, ha', h4, hw, n0, n65, n63, n1, n2, n3, n4])
      case' true =>
        exact lret_as (fn_ok (envFf_ok i x true) (rf_n i x true pc g) (all_cons h4 <| all_cons hw <| all_cons ha <| all_cons m0 <| all_cons n4 <| all_cons n3 <| all_cons n2 <| all_cons n1 <| all_cons n63 <| all_cons n65 <| all_cons n0 <| all_cons rfl <| all_cons (propB_ok.mpr ⟨⟨_, _, _, rfl, rfl, rfl, rfl⟩, hf⟩) <| all_nil) Tryz.func10 w vals hG hv fun t ht => by cases ht) (by simp [entZ, stopZ, ha', h4, hw, n0, n65, n63, n1, n2, n3, n4])
end Go.Proofs.YtiajbijbhhpllaaGreatDoor
namespace Go.Proofs.YtiajbijbhhpllaaGreatDoor
open Go Go.RowKit Sim S2
def in22 : In := ⟨22, 5, 0, 0, 7, false, false⟩
theorem in22_may : mayB in22 = true := by decide +kernel
noncomputable def envC : S2.Env := { envl Tryz.prog (fun _ => none) tFe19 noP noL (fun _ => none) with nowrap := false }
theorem envC_ok : CallOk envC := envl_ok tFe19_ok (.none _ _) (.none _ _) .none
set_option maxHeartbeats 2000000 in
theorem eval22 : S2.simF envC 1000 60 [] [] 48 [[], [], []] [.inl (.int .i64 22), .inl (.int .i64 0), .inl (.int .i64 7)] = some (false, [.inl (.tuple #[.int .i64 7, .bool true])], [], []) := by kernel_rfl
theorem acc22 : S2.simF envC 1000 60 [] [] 44 [[]] [.inl (.int .i64 22)] = some (false, [.inl (.bool false)], [], []) := by kernel_rfl
theorem cmp22 : S2.simF envC 1000 60 [] [] 60 [[]] [.inl (.int .i64 22)] = some (false, [.inl (.bool true)], [], []) := by kernel_rfl
theorem eval22_ret (W : World) : Calls Tryz.prog 48 #[.int .i64 22, .int .i64 0, .int .i64 7] W fun e' w' => ∃ k, e' = .returned (.tuple #[.int .i64 7, .bool k]) ∧ Below W.heap.size W w' :=
  Calls.mono (fn_ok envC_ok eval22 all_nil Tryz.func48 W _ (GlobOk.none W) (ArgsOk.plain [.int .i64 22, .int .i64 0, .int .i64 7]) fun t ht => by cases ht).plain fun _ _ h => ⟨true, h⟩
theorem canH22 : CanH 22 := ⟨fun W => (fn_ok envC_ok acc22 all_nil Tryz.func44 W _ (GlobOk.none W) (ArgsOk.plain [.int .i64 22]) fun t ht => by cases ht).plain,
  fun W => (fn_ok envC_ok cmp22 all_nil Tryz.func60 W _ (GlobOk.none W) (ArgsOk.plain [.int .i64 22]) fun t ht => by cases ht).plain⟩
def im22 : Im := ⟨1, 0, 1, fun _ => encZ in22, fun _ => 0, fun _ => 0⟩
theorem enc22 : 0 ≤ encZ in22 ∧ encZ in22 < 4294967296 := enc_rng in22_may
theorem fe22 : feOk im22 65536 in22 true := ⟨⟨by decide, by decide⟩, ⟨by decide, by decide⟩, fun j hj => enc22, by
  have hz : hasZ 65536 4 im22.n 65536 := ⟨by decide, by decide, by decide⟩
  rw [feZ_yes hz]
  exact congrArg (·, true) (decodeZ_yes in22_may rfl)⟩
abbrev imV22 (bc be : Nat) : Value := .agg #[.slice (some ⟨bc, 0, none⟩) 1 1, .slice none 0 0, .slice (some ⟨be, 0, none⟩) 1 1]
theorem inB_one {W : World} {b : Nat} {t : TypeId} {v : Value} {e : LE} (hwf : e.wf) (hn : e.n = 1) (hs : e.size = 1) (hel : ∀ j, e.el j = [v]) (h : Hb W b t 1 (fun _ => v)) : InB W.heap.size W e (.slice (some ⟨b, 0, none⟩) 1 1) :=
  ⟨hwf, _, 1, by rw [hn], by omega, fun _ => ⟨b, 0, rfl, h.lt, fun j hj o c hc => by
    have : j = 0 := by omega
    subst this
    rw [hel] at hc
    have ho : o = 0 := by
      rcases o with _ | o
      · rfl
      · simp at hc
    subst ho
    simp at hc
    subst hc
    rw [Nat.zero_mul]
    exact h.cell (i := 0) (by omega)⟩⟩
theorem fetch22 (W : World) (hG : GlobOk decGl W) (bc be : Nat) (h1 : Hb W bc 58 1 (fun _ => .int .u32 (encZ in22))) (h2 : Hb W be 3 1 (fun _ => .int .i64 0)) :
    Calls Tryz.prog 9 #[imV22 bc be, .int .i64 65536, .int .i64 0] W fun e w' => e = .returned (.agg (ezR (entZ in22 true 65536 0))) ∧ Below W.heap.size W w' :=
  (winFetch_ret im22 in22 true 65536 0 fe22 W hG [imV22 bc be, .int .i64 65536, .int .i64 0] ⟨⟨_, rfl, inB_one ⟨Nat.one_pos, fun j hj => ⟨rfl, rfl⟩⟩ rfl rfl (fun j => rfl) h1, ⟨⟨Nat.one_pos, fun j hj => ⟨rfl, rfl⟩⟩, none, 0, rfl, Nat.le_refl _, fun h => absurd h (Nat.lt_irrefl 0)⟩, inB_one ⟨Nat.one_pos, fun j hj => ⟨rfl, rfl⟩⟩ rfl rfl (fun j => rfl) h2, trivial⟩, rfl, rfl, trivial⟩).plain
theorem encode22 (W : World) : Calls Tryz.prog 16 #[.agg #[.int .i64 22, .int .i64 5, .int .i64 0, .int .i64 0, .int .i64 7, .bool false, .bool false]] W fun e w' => e = .returned (.int .u32 (encZ in22)) ∧ Below W.heap.size W w' := refEncode_ret (gl := fun _ => none) in22 in22_may W (GlobOk.none W)
theorem winA_get {v : Value} : ∀ k, k < 33 → arrF #[.int .i64 0, .int .i64 0, .int .i64 0, .int .i64 0, .int .i64 0, .int .i64 0, .int .i64 0, .int .i64 0, .int .i64 0, .int .i64 0, .int .i64 0, .int .i64 0, .int .i64 0, .int .i64 0, .int .i64 0, .int .i64 0, .int .i64 0, .int .i64 0, .int .i64 0, .int .i64 0, .int .i64 0, .int .i64 0, .int .i64 0, .int .i64 0, .int .i64 0, .int .i64 0, .int .i64 0, .int .i64 0, .int .i64 0, .int .i64 0, .int .i64 0, .int .i64 0, v] k = winF (fun _ => 0) v k := fun k hk => by
  unfold winF
  split
  · rename_i h
    have : k = 0 ∨ k = 1 ∨ k = 2 ∨ k = 3 ∨ k = 4 ∨ k = 5 ∨ k = 6 ∨ k = 7 ∨ k = 8 ∨ k = 9 ∨ k = 10 ∨ k = 11 ∨ k = 12 ∨ k = 13 ∨ k = 14 ∨ k = 15 ∨ k = 16 ∨ k = 17 ∨ k = 18 ∨ k = 19 ∨ k = 20 ∨ k = 21 ∨ k = 22 ∨ k = 23 ∨ k = 24 ∨ k = 25 ∨ k = 26 ∨ k = 27 ∨ k = 28 ∨ k = 29 ∨ k = 30 ∨ k = 31 := by omega
    rcases this with rfl | rfl | rfl | rfl | rfl | rfl | rfl | rfl | rfl | rfl | rfl | rfl | rfl | rfl | rfl | rfl | rfl | rfl | rfl | rfl | rfl | rfl | rfl | rfl | rfl | rfl | rfl | rfl | rfl | rfl | rfl | rfl <;> rfl
  · have : k = 32 := by omega
    subst this; rfl
theorem exe22 {w : World} {bw b : Nat} {e0 : Ez} (h : WnM w bw (fun _ => 0) (some ⟨b, 0, none⟩) b 0 1 1 (fun _ => e0)) (hi : e0.i = in22) (h1 : e0.bad = 0) (h2 : e0.dn = false) (h3 : e0.kn = false) (vc vd ve : Value) :
    Calls Tryz.prog 17 #[.pointer (some ⟨bw, 0, none⟩), .agg #[vc, vd, ve], .int .i64 0] w fun e' w' => e' = .returned (.bool true) ∧ WnM w' bw (fun _ => 0) (some ⟨b, 0, none⟩) b 0 1 1 (updF (fun _ => e0) 0 (doneE e0 7)) ∧ Fr [b] w w' := by
  have hr : ∀ i, regY (fun _ => 0) (fun _ => e0) 1 i 0 = (0, true) := fun i => by unfold regY; rw [if_pos (by omega)]
  refine exe_alu h (j := 0) (by omega) ?_ ?_ ?_ ?_ ?_ 7 ?_ vc vd ve
  · show CanH e0.i.op
    rw [hi]; exact canH22
  · show canE e0 (regY (fun _ => 0) (fun _ => e0) 1 _ e0.i.a).2 (regY (fun _ => 0) (fun _ => e0) 1 _ e0.i.b).2 = true
    rw [hi]
    show canE e0 (regY (fun _ => 0) (fun _ => e0) 1 _ 0).2 (regY (fun _ => 0) (fun _ => e0) 1 _ 0).2 = true
    rw [hr]
    unfold canE
    rw [hi, h1, h2, show acB in22.op = false by decide +kernel, show cmpB in22.op = true by decide +kernel]
    rfl
  · show acB e0.i.op = false
    rw [hi]; decide +kernel
  · show e0.i.op ≠ 4
    rw [hi]; decide
  · show (formZ e0.i.op == 4) = false
    rw [hi]; decide +kernel
  · intro W
    show Calls Tryz.prog 48 #[.int .i64 e0.i.op, .int .i64 (regY (fun _ => 0) (fun _ => e0) 1 _ e0.i.a).1, .int .i64 (wrap64 ((regY (fun _ => 0) (fun _ => e0) 1 _ e0.i.b).1 + e0.i.imm))] W _
    rw [hi]
    show Calls Tryz.prog 48 #[.int .i64 22, .int .i64 (regY (fun _ => 0) (fun _ => e0) 1 _ 0).1, .int .i64 (wrap64 ((regY (fun _ => 0) (fun _ => e0) 1 _ 0).1 + 7))] W _
    rw [hr]
    show Calls Tryz.prog 48 #[.int .i64 22, .int .i64 0, .int .i64 (wrap64 (0 + 7))] W _
    rw [show wrap64 (0 + 7) = 7 by decide +kernel]
    exact eval22_ret W
set_option maxRecDepth 100000 in
theorem reg22 {w : World} {bw b : Nat} {e0 : Ez} (h : WnM w bw (fun _ => 0) (some ⟨b, 0, none⟩) b 0 1 1 (updF (fun _ => e0) 0 (doneE e0 7))) (hi : e0.i = in22) :
    Calls Tryz.prog 13 #[.pointer (some ⟨bw, 0, none⟩), .int .i64 1, .int .i64 5] w fun e w' => e = .returned (.tuple #[.int .i64 7, .bool true]) ∧ Below w.heap.size w w' := by
  have := reg_ret h.hd h.enl h.sm h.nc 1 5
  have e1 : regY (fun _ => 0) (updF (fun _ => e0) 0 (doneE e0 7)) 1 1 5 = (7, true) := by
    unfold regY
    rw [if_neg (by omega)]
    rw [show min (1 : Int).toNat 1 = 0 + 1 from rfl]
    unfold regZ
    have h5 : wrZ (doneE e0 7) 5 = true := by
      show (mayB e0.i && e0.i.rd == 5) = true
      rw [hi]; decide +kernel
    rw [updF_same, if_pos h5]; rfl
  rw [e1] at this
  exact this
set_option maxRecDepth 100000 in
set_option maxHeartbeats 2000000 in
theorem awake19 (w : World) (hG : GlobOk decGl w) : Calls Tryz.prog 7 #[] w fun e w' => e = .returned (.bool true) ∧ Below w.heap.size w w' := by
  have HEn := hid encode22
  obtain ⟨c0, hc0⟩ : ∃ c, encZ in22 = c := ⟨_, rfl⟩
  rw [hc0] at HEn
  go_enter Tryz.func7, Tryz.ntmps7
  go_wp2_with (go_at_call 16; refine (HEn.out _).mono ?_; rintro e' w1 ⟨rfl, hB1⟩; refine Hid.out ?_)
  obtain ⟨w2, hw2⟩ : ∃ w2, (((w1.alloc (.cells #[.int .u32 c0] 58)).alloc (.cells #[.int .i64 0] 3)).alloc (.cells #[.slice (some ⟨w1.heap.size, 0, none⟩) 1 1, .slice none 0 0, .slice (some ⟨w1.heap.size + 1, 0, none⟩) 1 1] 25)) = w2 := ⟨_, rfl⟩
  have hb0 : Hb w2 w1.heap.size 58 1 (fun _ => .int .u32 c0) := by rw [← hw2]; exact ((Hb.new w1 #[.int .u32 c0] 58 (oneAt _)).alloc _).alloc _
  have hb1 : Hb w2 (w1.heap.size + 1) 3 1 (fun _ => .int .i64 0) := by
    rw [← hw2]
    have := (Hb.new (w1.alloc (.cells #[.int .u32 c0] 58)) #[.int .i64 0] 3 (oneAt _)).alloc (.cells #[.slice (some ⟨w1.heap.size, 0, none⟩) 1 1, .slice none 0 0, .slice (some ⟨w1.heap.size + 1, 0, none⟩) 1 1] 25)
    rwa [World.size_alloc] at this
  have hb2 : Hb w2 (w1.heap.size + 1 + 1) 25 3 (arrF #[.slice (some ⟨w1.heap.size, 0, none⟩) 1 1, .slice none 0 0, .slice (some ⟨w1.heap.size + 1, 0, none⟩) 1 1]) := by
    rw [← hw2]
    have := Hb.arr ((w1.alloc (.cells #[.int .u32 c0] 58)).alloc (.cells #[.int .i64 0] 3)) #[.slice (some ⟨w1.heap.size, 0, none⟩) 1 1, .slice none 0 0, .slice (some ⟨w1.heap.size + 1, 0, none⟩) 1 1] 25
    rwa [World.size_alloc, World.size_alloc] at this
  have hB2 : Below w.heap.size w w2 := by
    rw [← hw2]
    have := hB1.size
    exact ((hB1.alloc (by omega) _).alloc (by simp; omega) _).alloc (by simp; omega) _
  have HG2 := hid (hG.below hB2)
  have HF := hid (fetch22 w2 HG2.out w1.heap.size (w1.heap.size + 1) (by rw [hc0]; exact hb0) hb1)
  have c20 : w2.cell? ⟨w1.heap.size + 1 + 1, 0, none⟩ = some (.slice (some ⟨w1.heap.size, 0, none⟩) 1 1) := hb2.cell (i := 0) (by omega)
  have c21 : w2.cell? ⟨w1.heap.size + 1 + 1, 1, none⟩ = some (.slice none 0 0) := hb2.cell (i := 1) (by omega)
  have c22 : w2.cell? ⟨w1.heap.size + 1 + 1, 2, none⟩ = some (.slice (some ⟨w1.heap.size + 1, 0, none⟩) 1 1) := hb2.cell (i := 2) (by omega)
  obtain ⟨e0, he0⟩ : ∃ e0, entZ in22 true 65536 0 = e0 := ⟨_, rfl⟩
  have hi : e0.i = in22 ∧ e0.bad = 0 ∧ e0.dn = false ∧ e0.kn = false := by rw [← he0]; exact ⟨rfl, by decide +kernel, by decide +kernel, rfl⟩
  rw [he0] at HF
  have HB2 := hid hB2
  have Hb2 := hid hb2
  have Hi := hid hi
  clear hB1 hb0 hb1 hb2 hi he0 hB2 hc0
  refine hid ?_
  go_wp2_with (go_at_call 9; refine HF.out.mono ?_; rintro e' w3 ⟨rfl, hB3⟩; refine Hid.out ?_)
  clear HF c20 c21 c22 hw2
  have HB3 := hid (HB2.out.trans (hB3.mono HB2.out.size))
  have Hb3 := hid (Hb2.out.below hB3 Hb2.out.lt)
  clear hB3 HB2
  obtain ⟨w4, hw4⟩ : ∃ w4, ((w3.alloc (.cells #[.int .i64 e0.pc, .int .i64 e0.i.op, .int .i64 e0.i.rd, .int .i64 e0.i.a, .int .i64 e0.i.b, .int .i64 e0.i.imm, .bool e0.i.aq, .bool e0.i.rl, .int .i64 e0.next, .int .i64 e0.addr, .bool e0.kn, .int .i64 e0.bad, .int .i64 e0.val, .bool e0.ry, .bool e0.dn, .bool e0.fl, .int .i64 e0.sh, .int .i64 e0.sa] 34)).alloc (.cells #[.int .i64 0, .int .i64 0, .int .i64 0, .int .i64 0, .int .i64 0, .int .i64 0, .int .i64 0, .int .i64 0, .int .i64 0, .int .i64 0, .int .i64 0, .int .i64 0, .int .i64 0, .int .i64 0, .int .i64 0, .int .i64 0, .int .i64 0, .int .i64 0, .int .i64 0, .int .i64 0, .int .i64 0, .int .i64 0, .int .i64 0, .int .i64 0, .int .i64 0, .int .i64 0, .int .i64 0, .int .i64 0, .int .i64 0, .int .i64 0, .int .i64 0, .int .i64 0, .slice (some ⟨w3.heap.size, 0, none⟩) 1 1] 44)) = w4 := ⟨_, rfl⟩
  have g0 : Hb w4 w3.heap.size 34 18 (ezF e0) := by rw [← hw4]; exact (Hb.newEz w3 e0 _).alloc _
  have g1 : Hb w4 (w3.heap.size + 1) 44 33 (winF (fun _ => 0) (.slice (some ⟨w3.heap.size, 0, none⟩) 1 1)) := by
    rw [← hw4]
    have := Hb.arr (w3.alloc (.cells #[.int .i64 e0.pc, .int .i64 e0.i.op, .int .i64 e0.i.rd, .int .i64 e0.i.a, .int .i64 e0.i.b, .int .i64 e0.i.imm, .bool e0.i.aq, .bool e0.i.rl, .int .i64 e0.next, .int .i64 e0.addr, .bool e0.kn, .int .i64 e0.bad, .int .i64 e0.val, .bool e0.ry, .bool e0.dn, .bool e0.fl, .int .i64 e0.sh, .int .i64 e0.sa] 34)) #[.int .i64 0, .int .i64 0, .int .i64 0, .int .i64 0, .int .i64 0, .int .i64 0, .int .i64 0, .int .i64 0, .int .i64 0, .int .i64 0, .int .i64 0, .int .i64 0, .int .i64 0, .int .i64 0, .int .i64 0, .int .i64 0, .int .i64 0, .int .i64 0, .int .i64 0, .int .i64 0, .int .i64 0, .int .i64 0, .int .i64 0, .int .i64 0, .int .i64 0, .int .i64 0, .int .i64 0, .int .i64 0, .int .i64 0, .int .i64 0, .int .i64 0, .int .i64 0, .slice (some ⟨w3.heap.size, 0, none⟩) 1 1] 44
    rw [World.size_alloc] at this
    exact this.congr winA_get
  have hB4 : Below w.heap.size w w4 := by
    rw [← hw4]
    have := HB3.out.size
    exact (HB3.out.alloc (by omega) _).alloc (by simp; omega) _
  have s4 : w.heap.size ≤ w3.heap.size := HB3.out.size
  have hWn : WnM w4 (w3.heap.size + 1) (fun _ => 0) (some ⟨w3.heap.size, 0, none⟩) w3.heap.size 0 1 1 (fun _ => e0) := ⟨g1, fun _ => ⟨rfl, 18, _, g0, by omega, fun i hi k hk => by
    have : i = 0 := by omega
    subst this
    simp⟩, Nat.le_refl _, by decide⟩
  have Hb4 : Hb w4 (w1.heap.size + 1 + 1) 25 3 (arrF #[.slice (some ⟨w1.heap.size, 0, none⟩) 1 1, .slice none 0 0, .slice (some ⟨w1.heap.size + 1, 0, none⟩) 1 1]) := by rw [← hw4]; exact (Hb3.out.alloc _).alloc _
  have c20 : w4.cell? ⟨w1.heap.size + 1 + 1, 0, none⟩ = some (.slice (some ⟨w1.heap.size, 0, none⟩) 1 1) := Hb4.cell (i := 0) (by omega)
  have c21 : w4.cell? ⟨w1.heap.size + 1 + 1, 1, none⟩ = some (.slice none 0 0) := Hb4.cell (i := 1) (by omega)
  have c22 : w4.cell? ⟨w1.heap.size + 1 + 1, 2, none⟩ = some (.slice (some ⟨w1.heap.size + 1, 0, none⟩) 1 1) := Hb4.cell (i := 2) (by omega)
  have HX := hid (exe22 hWn Hi.out.1 Hi.out.2.1 Hi.out.2.2.1 Hi.out.2.2.2 (.slice (some ⟨w1.heap.size, 0, none⟩) 1 1) (.slice none 0 0) (.slice (some ⟨w1.heap.size + 1, 0, none⟩) 1 1))
  have HB4 := hid hB4
  clear g0 g1 hB4 hWn Hb4 HB3 Hb3
  refine hid ?_
  go_wp2_with (go_at_call 17; refine HX.out.mono ?_; rintro e' w5 ⟨rfl, hW5, hF5⟩; have HW5 := hid hW5; have HF5 := hid hF5; clear hW5 hF5; refine Hid.out ?_)
  have HR := hid (reg22 HW5.out Hi.out.1)
  have HB5 := hid (Fr.below HB4.out HF5.out HB4.out.size (fun i hi => by simp at hi; omega))
  clear hw4 c20 c21 c22 HX HB4
  refine hid ?_
  go_wp2_with (go_at_call 13; refine HR.out.mono ?_; rintro e' w6 ⟨rfl, hB6⟩; have HB6 := hid (HB5.out.trans (hB6.mono HB5.out.size)); clear hB6; refine Hid.out ?_)
  refine hid ?_
  go_wp2
  go_ret
  exact ⟨rfl, HB6.out⟩
end Go.Proofs.YtiajbijbhhpllaaGreatDoor
namespace Go.Proofs.YtiajbijbhhpllaaGreatDoor
open Go Go.RowKit Sim S2
noncomputable def tAw19 : Tab := row 7 dec0 fun _ => .bool true
theorem tAw19_ok : TabOk Tryz.prog decGl tAw19 := tab0 fun w hG => awake19 w hG
def isEnt (i : Im) (pc g : Int) (e : Ez) : Prop := ∃ x ok, feOk i pc x ok ∧ e = entZ x ok pc g
noncomputable def lWf (i : Im) (e : Ez) : LTab := lrow 9 fun args => match args with
  | [.st cs, .inl (.int .i64 a), .inl (.int .i64 g)] => some (false, [.inl (.agg (ezR e))], pre (propB (isIm i cs ∧ isEnt i a g e)))
  | _ => none
theorem lWf_ok (i : Im) (e : Ez) : LTabOk Tryz.prog decGl (lWf i e) := .row fun args tup res h w vals hG ha => by
  split at h
  · simp only [Option.some.injEq, Prod.mk.injEq] at h
    obtain ⟨rfl, rfl, hp⟩ := h
    obtain ⟨h1, x, ok, h2, rfl⟩ := propB_ok.mp hp
    obtain ⟨v, vs, rfl, g1, g2⟩ := isIm_ok h1 ha
    exact winFetch_ret i x ok _ _ h2 w hG (v :: vs) ⟨g1.1, g2⟩
  · cases h
noncomputable def lRf (i : Im) (e : Ez) : LTab := lrow 10 fun args => match args with
  | [.st cs, .inl (.int .i64 a), .inl (.int .i64 g)] => some (false, [.inl (.agg (ezR e))], pre (propB (isIm i cs ∧ isEnt i a g e)))
  | _ => none
theorem lRf_ok (i : Im) (e : Ez) : LTabOk Tryz.prog decGl (lRf i e) := .row fun args tup res h w vals hG ha => by
  split at h
  · simp only [Option.some.injEq, Prod.mk.injEq] at h
    obtain ⟨rfl, rfl, hp⟩ := h
    obtain ⟨h1, x, ok, h2, rfl⟩ := propB_ok.mp hp
    obtain ⟨v, vs, rfl, g1, g2⟩ := isIm_ok h1 ha
    exact refFetch_ret i x ok _ _ h2 w hG (v :: vs) ⟨g1.1, g2⟩
  · cases h
noncomputable def envLw (i : Im) (e : Ez) : S2.Env := { envl Tryz.prog decGl tAw19 noP (orL (lWf i e) (lRf i e)) (fun _ => none) with nowrap := false }
theorem envLw_ok (i : Im) (e : Ez) : CallOk (envLw i e) := envl_ok tAw19_ok (.none _ _) ((lWf_ok i e).or (lRf_ok i e)) .none
theorem wfl_t (i : Im) (e : Ez) (pc g : Int) : S2.simF (envLw i e) 1000 22 [] [true] 3 [[], [true], [true]] [imX false i, .inl (.int .i64 pc), .inl (.int .i64 g)] = some (false, [XV.inl (Value.bool true)], [(decide ((i.n : Int) > 500), true)], []) := by kernel_rfl
theorem wfl_ft (i : Im) (e : Ez) (pc g : Int) : S2.simF (envLw i e) 1000 22 [] [false, true] 3 [[], [true], [true]] [imX false i, .inl (.int .i64 pc), .inl (.int .i64 g)] = some (false, [XV.inl (Value.bool true)], [(decide ((i.m : Int) > 500), true), (decide ((i.n : Int) > 500), false)], []) := by kernel_rfl
theorem wfl_fft (i : Im) (e : Ez) (pc g : Int) : S2.simF (envLw i e) 1000 22 [] [false, false, true] 3 [[], [true], [true]] [imX false i, .inl (.int .i64 pc), .inl (.int .i64 g)] = some (false, [XV.inl (Value.bool true)], [(e.pc == e.pc && (e.i.op == e.i.op && (e.i.rd == e.i.rd && (e.i.a == e.i.a && (e.i.b == e.i.b && (e.i.imm == e.i.imm && (e.i.aq == e.i.aq && (e.i.rl == e.i.rl && true)))))) && (e.next == e.next && (e.addr == e.addr && (e.kn == e.kn && (e.bad == e.bad && (e.val == e.val && (e.ry == e.ry && (e.dn == e.dn && (e.fl == e.fl && (e.sh == e.sh && (e.sa == e.sa && true) && true)))))))))), true), (pre (propB (isIm i [Sum.inr { elT := (w32L false i.n i.c).elT, size := (w32L false i.n i.c).size, n := (w32L false i.n i.c).n, el := (w32L false i.n i.c).el, own := false, dead := false, opn := (w32L false i.n i.c).opn }, Sum.inr { elT := (intL false i.m i.d).elT, size := (intL false i.m i.d).size, n := (intL false i.m i.d).n, el := (intL false i.m i.d).el, own := false, dead := false, opn := (intL false i.m i.d).opn }, Sum.inr { elT := (intL false i.h i.e).elT, size := (intL false i.h i.e).size, n := (intL false i.h i.e).n, el := (intL false i.h i.e).el, own := false, dead := false, opn := (intL false i.h i.e).opn }] ∧ isEnt i pc g e)), true), (pre (propB (isIm i [Sum.inr { elT := (w32L false i.n i.c).elT, size := (w32L false i.n i.c).size, n := (w32L false i.n i.c).n, el := (w32L false i.n i.c).el, own := false, dead := false, opn := (w32L false i.n i.c).opn }, Sum.inr { elT := (intL false i.m i.d).elT, size := (intL false i.m i.d).size, n := (intL false i.m i.d).n, el := (intL false i.m i.d).el, own := false, dead := false, opn := (intL false i.m i.d).opn }, Sum.inr { elT := (intL false i.h i.e).elT, size := (intL false i.h i.e).size, n := (intL false i.h i.e).n, el := (intL false i.h i.e).el, own := false, dead := false, opn := (intL false i.h i.e).opn }] ∧ isEnt i pc g e)), true), (decide ((i.m : Int) > 500), false), (decide ((i.n : Int) > 500), false)], []) := by kernel_rfl
theorem windowFetches_walk (i : Im) (v : Value) (pc g : Int) (w : World) (hG : GlobOk decGl w) (hw : wfIm i) (ha : ∀ o, ArgsOk w [imX o i] [v]) (h64p : (Lit.int .i64 pc).wf = true) (_ : (Lit.int .i64 g).wf = true) : Ret Tryz.prog 3 #[v, .int .i64 pc, .int .i64 g] (.bool true) w := by
  have h64 : isI pc := bounds_i64 h64p
  have F := Tryz.func3
  have hv : ArgsOk w [imX false i, .inl (.int .i64 pc), .inl (.int .i64 g)] [v, .int .i64 pc, .int .i64 g] := ⟨(ha false).1, rfl, rfl, trivial⟩
  refine LRet.plain ?_
  by_cases l1 : i.n > 500
  · exact fn_ok (envLw_ok i ⟨0, in22, 0, 0, false, 0, 0, false, false, false, 0, 0⟩) (wfl_t i _ pc g) (all_cons (ob_yes (by show (i.n : Int) > 500; omega)) all_nil) F w [v, .int .i64 pc, .int .i64 g] hG hv fun t ht => by cases ht
  have o1 : decide ((i.n : Int) > 500) = false := ob_no (by omega)
  by_cases l2 : i.m > 500
  · exact fn_ok (envLw_ok i ⟨0, in22, 0, 0, false, 0, 0, false, false, false, 0, 0⟩) (wfl_ft i _ pc g) (all_cons (ob_yes (by show (i.m : Int) > 500; omega)) <| all_cons o1 all_nil) F w [v, .int .i64 pc, .int .i64 g] hG hv fun t ht => by cases ht
  have o2 : decide ((i.m : Int) > 500) = false := ob_no (by omega)
  obtain ⟨⟨x, ok⟩, hx⟩ : ∃ y, feZ i pc = y := ⟨_, rfl⟩
  have hf : feOk i pc x ok := ⟨⟨by omega, by omega⟩, h64, hw.c, hx⟩
  exact fn_ok (envLw_ok i (entZ x ok pc g)) (wfl_fft i _ pc g) (all_cons (by simp) <| all_cons (propB_ok.mpr ⟨⟨_, _, _, rfl, rfl, rfl, rfl⟩, x, ok, hf, rfl⟩) <| all_cons (propB_ok.mpr ⟨⟨_, _, _, rfl, rfl, rfl, rfl⟩, x, ok, hf, rfl⟩) <| all_cons o2 <| all_cons o1 all_nil) F w [v, .int .i64 pc, .int .i64 g] hG hv fun t ht => by cases ht
end Go.Proofs.YtiajbijbhhpllaaGreatDoor
