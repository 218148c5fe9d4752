/- Part 6 of the proof: FetB19, Awk19, Law19, Nob19. -/
import Derived.Test.YtiajbijbhhpllaaDoorK05
set_option linter.unusedVariables false
set_option linter.unusedSimpArgs false
namespace Go.Proofs.YtiajbijbhhpllaaDoor
open Go.RowKit Sim S2
def stopZ (op : Int) : Int := bif op == 0 then 4 else bif op == 65 then 7 else bif readZ op || writeZ op then (bif !wideB op then 6 else 0) else 0
noncomputable def envSt : S2.Env := { envl Tryd.prog (fun _ => none) tFp19 noP noL (fun _ => none) with nowrap := false }
theorem envSt_ok : CallOk envSt := envl_ok tFp19_ok (.none _ _) (.none _ _) .none
theorem stopAt_ffff (op : Int) : S2.simF envSt 1000 17 [] [false, false, false, false] 27 [[true]] [.inl (.int .i64 op)] = some (false, [XV.inl (Value.int IntKind.i64 0)], [(writeZ op, false), (readZ op, false), (op == 65, false), (op == 0, false)], []) := by kernel_rfl
theorem stopAt_ffftf (op : Int) : S2.simF envSt 1000 17 [] [false, false, false, true, false] 27 [[true]] [.inl (.int .i64 op)] = some (false, [XV.inl (Value.int IntKind.i64 0)], [(!wideB op, false), (writeZ op, true), (readZ op, false), (op == 65, false), (op == 0, false)], []) := by kernel_rfl
theorem stopAt_ffftt (op : Int) : S2.simF envSt 1000 17 [] [false, false, false, true, true] 27 [[true]] [.inl (.int .i64 op)] = some (false, [XV.inl (Value.int IntKind.i64 6)], [(!wideB op, true), (writeZ op, true), (readZ op, false), (op == 65, false), (op == 0, false)], []) := by kernel_rfl
theorem stopAt_fftf (op : Int) : S2.simF envSt 1000 17 [] [false, false, true, false] 27 [[true]] [.inl (.int .i64 op)] = some (false, [XV.inl (Value.int IntKind.i64 0)], [(!wideB op, false), (readZ op, true), (op == 65, false), (op == 0, false)], []) := by kernel_rfl
theorem stopAt_fftt (op : Int) : S2.simF envSt 1000 17 [] [false, false, true, true] 27 [[true]] [.inl (.int .i64 op)] = some (false, [XV.inl (Value.int IntKind.i64 6)], [(!wideB op, true), (readZ op, true), (op == 65, false), (op == 0, false)], []) := by kernel_rfl
theorem stopAt_ft (op : Int) : S2.simF envSt 1000 17 [] [false, true] 27 [[true]] [.inl (.int .i64 op)] = some (false, [XV.inl (Value.int IntKind.i64 7)], [(op == 65, true), (op == 0, false)], []) := by kernel_rfl
theorem stopAt_t (op : Int) : S2.simF envSt 1000 17 [] [true] 27 [[true]] [.inl (.int .i64 op)] = some (false, [XV.inl (Value.int IntKind.i64 4)], [(op == 0, true)], []) := by kernel_rfl
theorem stopAt_ret (op : Int) (w : World) (hG : GlobOk (fun _ => none) w) : Ret Tryd.prog 27 #[.int .i64 op] (.int .i64 (stopZ op)) w := by
  cases h0 : (op == 0)
  case' false =>
    cases h1 : (op == 65)
    case' false =>
      cases h2 : (readZ op)
      case' false =>
        cases h3 : (writeZ op)
        case' false =>
          exact (fn_ok envSt_ok (stopAt_ffff op) (all_cons h3 <| all_cons h2 <| all_cons h1 <| all_cons h0 <| all_nil) Tryd.func27 w _ hG (ArgsOk.plain [.int .i64 op]) fun t ht => by cases ht).plain.of_eq (by simp [stopZ, h0, h1, h2, h3])
        case' true =>
          cases h4 : (!wideB op)
          case' false =>
            exact (fn_ok envSt_ok (stopAt_ffftf op) (all_cons h4 <| all_cons h3 <| all_cons h2 <| all_cons h1 <| all_cons h0 <| all_nil) Tryd.func27 w _ hG (ArgsOk.plain [.int .i64 op]) fun t ht => by cases ht).plain.of_eq (by simp [stopZ, h0, h1, h2, h3, h4])
          case' true =>
            exact (fn_ok envSt_ok (stopAt_ffftt op) (all_cons h4 <| all_cons h3 <| all_cons h2 <| all_cons h1 <| all_cons h0 <| all_nil) Tryd.func27 w _ hG (ArgsOk.plain [.int .i64 op]) fun t ht => by cases ht).plain.of_eq (by simp [stopZ, h0, h1, h2, h3, h4])
      case' true =>
        cases h3 : (!wideB op)
        case' false =>
          exact (fn_ok envSt_ok (stopAt_fftf op) (all_cons h3 <| all_cons h2 <| all_cons h1 <| all_cons h0 <| all_nil) Tryd.func27 w _ hG (ArgsOk.plain [.int .i64 op]) fun t ht => by cases ht).plain.of_eq (by simp [stopZ, h0, h1, h2, h3])
        case' true =>
          exact (fn_ok envSt_ok (stopAt_fftt op) (all_cons h3 <| all_cons h2 <| all_cons h1 <| all_cons h0 <| all_nil) Tryd.func27 w _ hG (ArgsOk.plain [.int .i64 op]) fun t ht => by cases ht).plain.of_eq (by simp [stopZ, h0, h1, h2, h3])
    case' true =>
      exact (fn_ok envSt_ok (stopAt_ft op) (all_cons h1 <| all_cons h0 <| all_nil) Tryd.func27 w _ hG (ArgsOk.plain [.int .i64 op]) fun t ht => by cases ht).plain.of_eq (by simp [stopZ, h0, h1])
  case' true =>
    exact (fn_ok envSt_ok (stopAt_t op) (all_cons h0 <| all_nil) Tryd.func27 w _ hG (ArgsOk.plain [.int .i64 op]) fun t ht => by cases ht).plain.of_eq (by simp [stopZ, h0])
theorem stop_row (gl : Gl) (op : Int) (w : World) (hG : GlobOk gl w) : Ret Tryd.prog 27 #[.int .i64 op] (.int .i64 (stopZ op)) w := stopAt_ret op w (GlobOk.none w)
def tStop : Tab := row 27 decI fun x => .int .i64 (stopZ x)
theorem tStop_ok {gl : Gl} : TabOk Tryd.prog gl tStop := tabI fun x w hG => stop_row gl x w hG
noncomputable def envFf (i : Im) (x : In) (ok : Bool) : S2.Env := { envl Tryd.prog decGl (orT tStop tFp19) noP (lfeA i x ok) (fun _ => none) with nowrap := false }
theorem envFf_ok (i : Im) (x : In) (ok : Bool) : CallOk (envFf i x ok) := envl_ok (tStop_ok.or tFp19_ok) (.none _ _) (lfeA_ok i x ok) .none
noncomputable def entZ (x : In) (ok : Bool) (pc g : Int) : Ez :=
  ⟨pc, x, bif !ok then arZ .add .i64 pc 4 else bif x.op == 3 then arZ .add .i64 pc x.imm else bif x.op == 4 then g else bif formZ x.op == 4 && g != 0 then arZ .add .i64 pc x.imm else arZ .add .i64 pc 4, 0, false,
    bif !ok then 5 else stopZ x.op,
    bif !ok then 0 else bif x.op == 1 then IntKind.i64.wrap (x.imm * 4096) else bif x.op == 2 then arZ .add .i64 pc (IntKind.i64.wrap (x.imm * 4096)) else bif x.op == 3 then arZ .add .i64 pc 4 else bif x.op == 4 then arZ .add .i64 pc 4 else 0,
    bif !ok then false else x.op == 1 || (x.op == 2 || (x.op == 3 || x.op == 4)), bif !ok then false else x.op == 63 || (x.op == 1 || (x.op == 2 || x.op == 3)), false, -1, 0⟩
theorem lret_as {P : Program} {f : FuncId} {vals : List Value} {tup : Bool} {res res' : List XV} {w : World} (h : LRet P f vals tup res w) (e : res = res') : LRet P f vals tup res' w := e ▸ h
theorem wf_fffffff (i : Im) (x : In) (ok : Bool) (pc g : Int) : S2.simF (envFf i x ok) 1000 90 [] [false, false, false, false, false, false, false] 12 [[], [true], [true]] [imX false i, .inl (.int .i64 pc), .inl (.int .i64 g)] = some (false, [XV.inl (Value.agg { toList := [Value.int IntKind.i64 pc, Value.int IntKind.i64 x.op, Value.int IntKind.i64 x.rd, Value.int IntKind.i64 x.a, Value.int IntKind.i64 x.b, Value.int IntKind.i64 x.imm, Value.bool x.aq, Value.bool x.rl, Value.int IntKind.i64 (arZ BinOp.add IntKind.i64 pc 4), Value.int IntKind.i64 0, Value.bool false, Value.int IntKind.i64 (stopZ x.op), Value.int IntKind.i64 0, Value.bool false, Value.bool false, Value.bool false, Value.int IntKind.i64 (-1), Value.int IntKind.i64 0] })], [(formZ x.op == 4, false), (x.op == 4, false), (x.op == 3, false), (x.op == 2, false), (x.op == 1, false), (x.op == 63, false), (!ok, false), (pre (propB (isIm i [Sum.inr { elT := (w32L false i.n i.c).elT, size := (w32L false i.n i.c).size, n := (w32L false i.n i.c).n, el := (w32L false i.n i.c).el, own := false, dead := false, opn := (w32L false i.n i.c).opn }, Sum.inr { elT := (intL false i.m i.d).elT, size := (intL false i.m i.d).size, n := (intL false i.m i.d).n, el := (intL false i.m i.d).el, own := false, dead := false, opn := (intL false i.m i.d).opn }, Sum.inr { elT := (intL false i.h i.e).elT, size := (intL false i.h i.e).size, n := (intL false i.h i.e).n, el := (intL false i.h i.e).el, own := false, dead := false, opn := (intL false i.h i.e).opn }] ∧ feOk i pc x ok)), true)], []) := by kernel_rfl
theorem wf_fffffftf (i : Im) (x : In) (ok : Bool) (pc g : Int) : S2.simF (envFf i x ok) 1000 90 [] [false, false, false, false, false, false, true, false] 12 [[], [true], [true]] [imX false i, .inl (.int .i64 pc), .inl (.int .i64 g)] = some (false, [XV.inl (Value.agg { toList := [Value.int IntKind.i64 pc, Value.int IntKind.i64 x.op, Value.int IntKind.i64 x.rd, Value.int IntKind.i64 x.a, Value.int IntKind.i64 x.b, Value.int IntKind.i64 x.imm, Value.bool x.aq, Value.bool x.rl, Value.int IntKind.i64 (arZ BinOp.add IntKind.i64 pc 4), Value.int IntKind.i64 0, Value.bool false, Value.int IntKind.i64 (stopZ x.op), Value.int IntKind.i64 0, Value.bool false, Value.bool false, Value.bool false, Value.int IntKind.i64 (-1), Value.int IntKind.i64 0] })], [(g != 0, false), (formZ x.op == 4, true), (x.op == 4, false), (x.op == 3, false), (x.op == 2, false), (x.op == 1, false), (x.op == 63, false), (!ok, false), (pre (propB (isIm i [Sum.inr { elT := (w32L false i.n i.c).elT, size := (w32L false i.n i.c).size, n := (w32L false i.n i.c).n, el := (w32L false i.n i.c).el, own := false, dead := false, opn := (w32L false i.n i.c).opn }, Sum.inr { elT := (intL false i.m i.d).elT, size := (intL false i.m i.d).size, n := (intL false i.m i.d).n, el := (intL false i.m i.d).el, own := false, dead := false, opn := (intL false i.m i.d).opn }, Sum.inr { elT := (intL false i.h i.e).elT, size := (intL false i.h i.e).size, n := (intL false i.h i.e).n, el := (intL false i.h i.e).el, own := false, dead := false, opn := (intL false i.h i.e).opn }] ∧ feOk i pc x ok)), true)], []) := by kernel_rfl
theorem wf_fffffftt (i : Im) (x : In) (ok : Bool) (pc g : Int) : S2.simF (envFf i x ok) 1000 90 [] [false, false, false, false, false, false, true, true] 12 [[], [true], [true]] [imX false i, .inl (.int .i64 pc), .inl (.int .i64 g)] = some (false, [XV.inl (Value.agg { toList := [Value.int IntKind.i64 pc, Value.int IntKind.i64 x.op, Value.int IntKind.i64 x.rd, Value.int IntKind.i64 x.a, Value.int IntKind.i64 x.b, Value.int IntKind.i64 x.imm, Value.bool x.aq, Value.bool x.rl, Value.int IntKind.i64 (arZ BinOp.add IntKind.i64 pc x.imm), Value.int IntKind.i64 0, Value.bool false, Value.int IntKind.i64 (stopZ x.op), Value.int IntKind.i64 0, Value.bool false, Value.bool false, Value.bool false, Value.int IntKind.i64 (-1), Value.int IntKind.i64 0] })], [(g != 0, true), (formZ x.op == 4, true), (x.op == 4, false), (x.op == 3, false), (x.op == 2, false), (x.op == 1, false), (x.op == 63, false), (!ok, false), (pre (propB (isIm i [Sum.inr { elT := (w32L false i.n i.c).elT, size := (w32L false i.n i.c).size, n := (w32L false i.n i.c).n, el := (w32L false i.n i.c).el, own := false, dead := false, opn := (w32L false i.n i.c).opn }, Sum.inr { elT := (intL false i.m i.d).elT, size := (intL false i.m i.d).size, n := (intL false i.m i.d).n, el := (intL false i.m i.d).el, own := false, dead := false, opn := (intL false i.m i.d).opn }, Sum.inr { elT := (intL false i.h i.e).elT, size := (intL false i.h i.e).size, n := (intL false i.h i.e).n, el := (intL false i.h i.e).el, own := false, dead := false, opn := (intL false i.h i.e).opn }] ∧ feOk i pc x ok)), true)], []) := by kernel_rfl
theorem wf_ffffft (i : Im) (x : In) (ok : Bool) (pc g : Int) : S2.simF (envFf i x ok) 1000 90 [] [false, false, false, false, false, true] 12 [[], [true], [true]] [imX false i, .inl (.int .i64 pc), .inl (.int .i64 g)] = some (false, [XV.inl (Value.agg { toList := [Value.int IntKind.i64 pc, Value.int IntKind.i64 x.op, Value.int IntKind.i64 x.rd, Value.int IntKind.i64 x.a, Value.int IntKind.i64 x.b, Value.int IntKind.i64 x.imm, Value.bool x.aq, Value.bool x.rl, Value.int IntKind.i64 g, Value.int IntKind.i64 0, Value.bool false, Value.int IntKind.i64 (stopZ x.op), Value.int IntKind.i64 (arZ BinOp.add IntKind.i64 pc 4), Value.bool true, Value.bool false, Value.bool false, Value.int IntKind.i64 (-1), Value.int IntKind.i64 0] })], [(x.op == 4, true), (x.op == 3, false), (x.op == 2, false), (x.op == 1, false), (x.op == 63, false), (!ok, false), (pre (propB (isIm i [Sum.inr { elT := (w32L false i.n i.c).elT, size := (w32L false i.n i.c).size, n := (w32L false i.n i.c).n, el := (w32L false i.n i.c).el, own := false, dead := false, opn := (w32L false i.n i.c).opn }, Sum.inr { elT := (intL false i.m i.d).elT, size := (intL false i.m i.d).size, n := (intL false i.m i.d).n, el := (intL false i.m i.d).el, own := false, dead := false, opn := (intL false i.m i.d).opn }, Sum.inr { elT := (intL false i.h i.e).elT, size := (intL false i.h i.e).size, n := (intL false i.h i.e).n, el := (intL false i.h i.e).el, own := false, dead := false, opn := (intL false i.h i.e).opn }] ∧ feOk i pc x ok)), true)], []) := by kernel_rfl
theorem wf_fffft (i : Im) (x : In) (ok : Bool) (pc g : Int) : S2.simF (envFf i x ok) 1000 90 [] [false, false, false, false, true] 12 [[], [true], [true]] [imX false i, .inl (.int .i64 pc), .inl (.int .i64 g)] = some (false, [XV.inl (Value.agg { toList := [Value.int IntKind.i64 pc, Value.int IntKind.i64 x.op, Value.int IntKind.i64 x.rd, Value.int IntKind.i64 x.a, Value.int IntKind.i64 x.b, Value.int IntKind.i64 x.imm, Value.bool x.aq, Value.bool x.rl, Value.int IntKind.i64 (arZ BinOp.add IntKind.i64 pc x.imm), Value.int IntKind.i64 0, Value.bool false, Value.int IntKind.i64 (stopZ x.op), Value.int IntKind.i64 (arZ BinOp.add IntKind.i64 pc 4), Value.bool true, Value.bool true, Value.bool false, Value.int IntKind.i64 (-1), Value.int IntKind.i64 0] })], [(x.op == 3, true), (x.op == 2, false), (x.op == 1, false), (x.op == 63, false), (!ok, false), (pre (propB (isIm i [Sum.inr { elT := (w32L false i.n i.c).elT, size := (w32L false i.n i.c).size, n := (w32L false i.n i.c).n, el := (w32L false i.n i.c).el, own := false, dead := false, opn := (w32L false i.n i.c).opn }, Sum.inr { elT := (intL false i.m i.d).elT, size := (intL false i.m i.d).size, n := (intL false i.m i.d).n, el := (intL false i.m i.d).el, own := false, dead := false, opn := (intL false i.m i.d).opn }, Sum.inr { elT := (intL false i.h i.e).elT, size := (intL false i.h i.e).size, n := (intL false i.h i.e).n, el := (intL false i.h i.e).el, own := false, dead := false, opn := (intL false i.h i.e).opn }] ∧ feOk i pc x ok)), true)], []) := by kernel_rfl
theorem wf_ffft (i : Im) (x : In) (ok : Bool) (pc g : Int) : S2.simF (envFf i x ok) 1000 90 [] [false, false, false, true] 12 [[], [true], [true]] [imX false i, .inl (.int .i64 pc), .inl (.int .i64 g)] = some (false, [XV.inl (Value.agg { toList := [Value.int IntKind.i64 pc, Value.int IntKind.i64 x.op, Value.int IntKind.i64 x.rd, Value.int IntKind.i64 x.a, Value.int IntKind.i64 x.b, Value.int IntKind.i64 x.imm, Value.bool x.aq, Value.bool x.rl, Value.int IntKind.i64 (arZ BinOp.add IntKind.i64 pc 4), Value.int IntKind.i64 0, Value.bool false, Value.int IntKind.i64 (stopZ x.op), Value.int IntKind.i64 (arZ BinOp.add IntKind.i64 pc (IntKind.i64.wrap (x.imm * 4096))), Value.bool true, Value.bool true, Value.bool false, Value.int IntKind.i64 (-1), Value.int IntKind.i64 0] })], [(x.op == 2, true), (x.op == 1, false), (x.op == 63, false), (!ok, false), (pre (propB (isIm i [Sum.inr { elT := (w32L false i.n i.c).elT, size := (w32L false i.n i.c).size, n := (w32L false i.n i.c).n, el := (w32L false i.n i.c).el, own := false, dead := false, opn := (w32L false i.n i.c).opn }, Sum.inr { elT := (intL false i.m i.d).elT, size := (intL false i.m i.d).size, n := (intL false i.m i.d).n, el := (intL false i.m i.d).el, own := false, dead := false, opn := (intL false i.m i.d).opn }, Sum.inr { elT := (intL false i.h i.e).elT, size := (intL false i.h i.e).size, n := (intL false i.h i.e).n, el := (intL false i.h i.e).el, own := false, dead := false, opn := (intL false i.h i.e).opn }] ∧ feOk i pc x ok)), true)], []) := by kernel_rfl
theorem wf_fft (i : Im) (x : In) (ok : Bool) (pc g : Int) : S2.simF (envFf i x ok) 1000 90 [] [false, false, true] 12 [[], [true], [true]] [imX false i, .inl (.int .i64 pc), .inl (.int .i64 g)] = some (false, [XV.inl (Value.agg { toList := [Value.int IntKind.i64 pc, Value.int IntKind.i64 x.op, Value.int IntKind.i64 x.rd, Value.int IntKind.i64 x.a, Value.int IntKind.i64 x.b, Value.int IntKind.i64 x.imm, Value.bool x.aq, Value.bool x.rl, Value.int IntKind.i64 (arZ BinOp.add IntKind.i64 pc 4), Value.int IntKind.i64 0, Value.bool false, Value.int IntKind.i64 (stopZ x.op), Value.int IntKind.i64 (IntKind.i64.wrap (x.imm * 4096)), Value.bool true, Value.bool true, Value.bool false, Value.int IntKind.i64 (-1), Value.int IntKind.i64 0] })], [(x.op == 1, true), (x.op == 63, false), (!ok, false), (pre (propB (isIm i [Sum.inr { elT := (w32L false i.n i.c).elT, size := (w32L false i.n i.c).size, n := (w32L false i.n i.c).n, el := (w32L false i.n i.c).el, own := false, dead := false, opn := (w32L false i.n i.c).opn }, Sum.inr { elT := (intL false i.m i.d).elT, size := (intL false i.m i.d).size, n := (intL false i.m i.d).n, el := (intL false i.m i.d).el, own := false, dead := false, opn := (intL false i.m i.d).opn }, Sum.inr { elT := (intL false i.h i.e).elT, size := (intL false i.h i.e).size, n := (intL false i.h i.e).n, el := (intL false i.h i.e).el, own := false, dead := false, opn := (intL false i.h i.e).opn }] ∧ feOk i pc x ok)), true)], []) := by kernel_rfl
theorem wf_ft (i : Im) (x : In) (ok : Bool) (pc g : Int) : S2.simF (envFf i x ok) 1000 90 [] [false, true] 12 [[], [true], [true]] [imX false i, .inl (.int .i64 pc), .inl (.int .i64 g)] = some (false, [XV.inl (Value.agg { toList := [Value.int IntKind.i64 pc, Value.int IntKind.i64 x.op, Value.int IntKind.i64 x.rd, Value.int IntKind.i64 x.a, Value.int IntKind.i64 x.b, Value.int IntKind.i64 x.imm, Value.bool x.aq, Value.bool x.rl, Value.int IntKind.i64 (arZ BinOp.add IntKind.i64 pc 4), Value.int IntKind.i64 0, Value.bool false, Value.int IntKind.i64 (stopZ x.op), Value.int IntKind.i64 0, Value.bool false, Value.bool true, Value.bool false, Value.int IntKind.i64 (-1), Value.int IntKind.i64 0] })], [(x.op == 63, true), (!ok, false), (pre (propB (isIm i [Sum.inr { elT := (w32L false i.n i.c).elT, size := (w32L false i.n i.c).size, n := (w32L false i.n i.c).n, el := (w32L false i.n i.c).el, own := false, dead := false, opn := (w32L false i.n i.c).opn }, Sum.inr { elT := (intL false i.m i.d).elT, size := (intL false i.m i.d).size, n := (intL false i.m i.d).n, el := (intL false i.m i.d).el, own := false, dead := false, opn := (intL false i.m i.d).opn }, Sum.inr { elT := (intL false i.h i.e).elT, size := (intL false i.h i.e).size, n := (intL false i.h i.e).n, el := (intL false i.h i.e).el, own := false, dead := false, opn := (intL false i.h i.e).opn }] ∧ feOk i pc x ok)), true)], []) := by kernel_rfl
theorem wf_t (i : Im) (x : In) (ok : Bool) (pc g : Int) : S2.simF (envFf i x ok) 1000 90 [] [true] 12 [[], [true], [true]] [imX false i, .inl (.int .i64 pc), .inl (.int .i64 g)] = some (false, [XV.inl (Value.agg { toList := [Value.int IntKind.i64 pc, Value.int IntKind.i64 x.op, Value.int IntKind.i64 x.rd, Value.int IntKind.i64 x.a, Value.int IntKind.i64 x.b, Value.int IntKind.i64 x.imm, Value.bool x.aq, Value.bool x.rl, Value.int IntKind.i64 (arZ BinOp.add IntKind.i64 pc 4), Value.int IntKind.i64 0, Value.bool false, Value.int IntKind.i64 5, Value.int IntKind.i64 0, Value.bool false, Value.bool false, Value.bool false, Value.int IntKind.i64 (-1), Value.int IntKind.i64 0] })], [(!ok, true), (pre (propB (isIm i [Sum.inr { elT := (w32L false i.n i.c).elT, size := (w32L false i.n i.c).size, n := (w32L false i.n i.c).n, el := (w32L false i.n i.c).el, own := false, dead := false, opn := (w32L false i.n i.c).opn }, Sum.inr { elT := (intL false i.m i.d).elT, size := (intL false i.m i.d).size, n := (intL false i.m i.d).n, el := (intL false i.m i.d).el, own := false, dead := false, opn := (intL false i.m i.d).opn }, Sum.inr { elT := (intL false i.h i.e).elT, size := (intL false i.h i.e).size, n := (intL false i.h i.e).n, el := (intL false i.h i.e).el, own := false, dead := false, opn := (intL false i.h i.e).opn }] ∧ feOk i pc x ok)), true)], []) := by kernel_rfl
theorem winFetch_ret (i : Im) (x : In) (ok : Bool) (pc g : Int) (hf : feOk i pc x ok) (w : World) (hG : GlobOk decGl w) (vals : List Value) (hv : ArgsOk w [imX false i, .inl (.int .i64 pc), .inl (.int .i64 g)] vals) : LRet Tryd.prog 12 vals false [.inl (.agg (ezR (entZ x ok pc g)))] w := by
  cases h0 : (!ok)
  case' false =>
    cases h1 : (x.op == 63)
    case' false =>
      cases h2 : (x.op == 1)
      case' false =>
        cases h3 : (x.op == 2)
        case' false =>
          cases h4 : (x.op == 3)
          case' false =>
            cases h5 : (x.op == 4)
            case' false =>
              cases h6 : (formZ x.op == 4)
              case' false =>
                exact lret_as (fn_ok (envFf_ok i x ok) (wf_fffffff i x ok pc g) (all_cons h6 <| all_cons h5 <| all_cons h4 <| all_cons h3 <| all_cons h2 <| all_cons h1 <| all_cons h0 <| all_cons (propB_ok.mpr ⟨⟨_, _, _, rfl, rfl, rfl, rfl⟩, hf⟩) <| all_nil) Tryd.func12 w vals hG hv fun t ht => by cases ht) (by simp [entZ, h0, h1, h2, h3, h4, h5, h6])
              case' true =>
                cases h7 : (g != 0)
                case' false =>
                  exact lret_as (fn_ok (envFf_ok i x ok) (wf_fffffftf i x ok pc g) (all_cons h7 <| all_cons h6 <| all_cons h5 <| all_cons h4 <| all_cons h3 <| all_cons h2 <| all_cons h1 <| all_cons h0 <| all_cons (propB_ok.mpr ⟨⟨_, _, _, rfl, rfl, rfl, rfl⟩, hf⟩) <| all_nil) Tryd.func12 w vals hG hv fun t ht => by cases ht) (by simp [entZ, h0, h1, h2, h3, h4, h5, h6, h7])
                case' true =>
                  exact lret_as (fn_ok (envFf_ok i x ok) (wf_fffffftt i x ok pc g) (all_cons h7 <| all_cons h6 <| all_cons h5 <| all_cons h4 <| all_cons h3 <| all_cons h2 <| all_cons h1 <| all_cons h0 <| all_cons (propB_ok.mpr ⟨⟨_, _, _, rfl, rfl, rfl, rfl⟩, hf⟩) <| all_nil) Tryd.func12 w vals hG hv fun t ht => by cases ht) (by simp [entZ, h0, h1, h2, h3, h4, h5, h6, h7])
            case' true =>
              exact lret_as (fn_ok (envFf_ok i x ok) (wf_ffffft i x ok pc g) (all_cons h5 <| all_cons h4 <| all_cons h3 <| all_cons h2 <| all_cons h1 <| all_cons h0 <| all_cons (propB_ok.mpr ⟨⟨_, _, _, rfl, rfl, rfl, rfl⟩, hf⟩) <| all_nil) Tryd.func12 w vals hG hv fun t ht => by cases ht) (by simp [entZ, h0, h1, h2, h3, h4, h5, (by simpa using h5 : x.op = 4), (show (formZ 4 == 4) = false from rfl)])
          case' true =>
            exact lret_as (fn_ok (envFf_ok i x ok) (wf_fffft i x ok pc g) (all_cons h4 <| all_cons h3 <| all_cons h2 <| all_cons h1 <| all_cons h0 <| all_cons (propB_ok.mpr ⟨⟨_, _, _, rfl, rfl, rfl, rfl⟩, hf⟩) <| all_nil) Tryd.func12 w vals hG hv fun t ht => by cases ht) (by simp [entZ, h0, h1, h2, h3, h4, (by simpa using h4 : x.op = 3), (show (formZ 3 == 4) = false from rfl)])
        case' true =>
          exact lret_as (fn_ok (envFf_ok i x ok) (wf_ffft i x ok pc g) (all_cons h3 <| all_cons h2 <| all_cons h1 <| all_cons h0 <| all_cons (propB_ok.mpr ⟨⟨_, _, _, rfl, rfl, rfl, rfl⟩, hf⟩) <| all_nil) Tryd.func12 w vals hG hv fun t ht => by cases ht) (by simp [entZ, h0, h1, h2, h3, (by simpa using h3 : x.op = 2), (show (formZ 2 == 4) = false from rfl)])
      case' true =>
        exact lret_as (fn_ok (envFf_ok i x ok) (wf_fft i x ok pc g) (all_cons h2 <| all_cons h1 <| all_cons h0 <| all_cons (propB_ok.mpr ⟨⟨_, _, _, rfl, rfl, rfl, rfl⟩, hf⟩) <| all_nil) Tryd.func12 w vals hG hv fun t ht => by cases ht) (by simp [entZ, h0, h1, h2, (by simpa using h2 : x.op = 1), (show (formZ 1 == 4) = false from rfl)])
    case' true =>
      exact lret_as (fn_ok (envFf_ok i x ok) (wf_ft i x ok pc g) (all_cons h1 <| all_cons h0 <| all_cons (propB_ok.mpr ⟨⟨_, _, _, rfl, rfl, rfl, rfl⟩, hf⟩) <| all_nil) Tryd.func12 w vals hG hv fun t ht => by cases ht) (by simp [entZ, h0, h1, (by simpa using h1 : x.op = 63), (show (formZ 63 == 4) = false from rfl)])
  case' true =>
    exact lret_as (fn_ok (envFf_ok i x ok) (wf_t i x ok pc g) (all_cons h0 <| all_cons (propB_ok.mpr ⟨⟨_, _, _, rfl, rfl, rfl, rfl⟩, hf⟩) <| all_nil) Tryd.func12 w vals hG hv fun t ht => by cases ht) (by simp [entZ, h0])
end Go.Proofs.YtiajbijbhhpllaaDoor
namespace Go.Proofs.YtiajbijbhhpllaaDoor
open Go Go.RowKit Sim S2
def in22 : In := ⟨22, 5, 0, 0, 7, false, false⟩
theorem in22_may : mayB in22 = true := by decide +kernel
noncomputable def envC : S2.Env := { envl Tryd.prog (fun _ => none) tFp19 noP noL (fun _ => none) with nowrap := false }
theorem envC_ok : CallOk envC := envl_ok tFp19_ok (.none _ _) (.none _ _) .none
set_option maxHeartbeats 2000000 in
theorem eval22 : S2.simF envC 1000 60 [] [] 21 [[], [], []] [.inl (.int .i64 22), .inl (.int .i64 0), .inl (.int .i64 7)] = some (false, [.inl (.tuple #[.int .i64 7, .bool true])], [], []) := by kernel_rfl
theorem acc22 : S2.simF envC 1000 60 [] [] 15 [[]] [.inl (.int .i64 22)] = some (false, [.inl (.bool false)], [], []) := by kernel_rfl
theorem cmp22 : S2.simF envC 1000 60 [] [] 16 [[]] [.inl (.int .i64 22)] = some (false, [.inl (.bool true)], [], []) := by kernel_rfl
theorem eval22_ret (W : World) : Calls Tryd.prog 21 #[.int .i64 22, .int .i64 0, .int .i64 7] W fun e' w' => ∃ k, e' = .returned (.tuple #[.int .i64 7, .bool k]) ∧ Below W.heap.size W w' :=
  Calls.mono (fn_ok envC_ok eval22 all_nil Tryd.func21 W _ (GlobOk.none W) (ArgsOk.plain [.int .i64 22, .int .i64 0, .int .i64 7]) fun t ht => by cases ht).plain fun _ _ h => ⟨true, h⟩
theorem canH22 : CanH 22 := ⟨fun W => (fn_ok envC_ok acc22 all_nil Tryd.func15 W _ (GlobOk.none W) (ArgsOk.plain [.int .i64 22]) fun t ht => by cases ht).plain,
  fun W => (fn_ok envC_ok cmp22 all_nil Tryd.func16 W _ (GlobOk.none W) (ArgsOk.plain [.int .i64 22]) fun t ht => by cases ht).plain⟩
def im22 : Im := ⟨1, 0, 1, fun _ => encZ in22, fun _ => 0, fun _ => 0⟩
theorem enc22 : 0 ≤ encZ in22 ∧ encZ in22 < 4294967296 := enc_rng in22_may
theorem fe22 : feOk im22 65536 in22 true := ⟨⟨by decide, by decide⟩, ⟨by decide, by decide⟩, fun j hj => enc22, by
  have hz : hasZ 65536 4 im22.n 65536 := ⟨by decide, by decide, by decide⟩
  rw [feZ_yes hz]
  exact congrArg (·, true) (decodeZ_yes in22_may rfl)⟩
abbrev imV22 (bc be : Nat) : Value := .agg #[.slice (some ⟨bc, 0, none⟩) 1 1, .slice none 0 0, .slice (some ⟨be, 0, none⟩) 1 1]
theorem inB_one {W : World} {b : Nat} {t : TypeId} {v : Value} {e : LE} (hwf : e.wf) (hn : e.n = 1) (hs : e.size = 1) (hel : ∀ j, e.el j = [v]) (h : Hb W b t 1 (fun _ => v)) : InB W.heap.size W e (.slice (some ⟨b, 0, none⟩) 1 1) :=
  ⟨hwf, _, 1, by rw [hn], by omega, fun _ => ⟨b, 0, rfl, h.lt, fun j hj o c hc => by
    have : j = 0 := by omega
    subst this
    rw [hel] at hc
    have ho : o = 0 := by
      rcases o with _ | o
      · rfl
      · simp at hc
    subst ho
    simp at hc
    subst hc
    rw [Nat.zero_mul]
    exact h.cell (i := 0) (by omega)⟩⟩
theorem fetch22 (W : World) (hG : GlobOk decGl W) (bc be : Nat) (h1 : Hb W bc 48 1 (fun _ => .int .u32 (encZ in22))) (h2 : Hb W be 3 1 (fun _ => .int .i64 0)) :
    Calls Tryd.prog 12 #[imV22 bc be, .int .i64 65536, .int .i64 0] W fun e w' => e = .returned (.agg (ezR (entZ in22 true 65536 0))) ∧ Below W.heap.size W w' :=
  (winFetch_ret im22 in22 true 65536 0 fe22 W hG [imV22 bc be, .int .i64 65536, .int .i64 0] ⟨⟨_, rfl, inB_one ⟨Nat.one_pos, fun j hj => ⟨rfl, rfl⟩⟩ rfl rfl (fun j => rfl) h1, ⟨⟨Nat.one_pos, fun j hj => ⟨rfl, rfl⟩⟩, none, 0, rfl, Nat.le_refl _, fun h => absurd h (Nat.lt_irrefl 0)⟩, inB_one ⟨Nat.one_pos, fun j hj => ⟨rfl, rfl⟩⟩ rfl rfl (fun j => rfl) h2, trivial⟩, rfl, rfl, trivial⟩).plain
theorem encode22 (W : World) : Calls Tryd.prog 11 #[.agg #[.int .i64 22, .int .i64 5, .int .i64 0, .int .i64 0, .int .i64 7, .bool false, .bool false]] W fun e w' => e = .returned (.int .u32 (encZ in22)) ∧ Below W.heap.size W w' := refEncode_ret (gl := fun _ => none) in22 in22_may W (GlobOk.none W)
theorem winA_get {v : Value} : ∀ k, k < 33 → arrF #[.int .i64 0, .int .i64 0, .int .i64 0, .int .i64 0, .int .i64 0, .int .i64 0, .int .i64 0, .int .i64 0, .int .i64 0, .int .i64 0, .int .i64 0, .int .i64 0, .int .i64 0, .int .i64 0, .int .i64 0, .int .i64 0, .int .i64 0, .int .i64 0, .int .i64 0, .int .i64 0, .int .i64 0, .int .i64 0, .int .i64 0, .int .i64 0, .int .i64 0, .int .i64 0, .int .i64 0, .int .i64 0, .int .i64 0, .int .i64 0, .int .i64 0, .int .i64 0, v] k = winF (fun _ => 0) v k := fun k hk => by
  unfold winF
  split
  · rename_i h
    have : k = 0 ∨ k = 1 ∨ k = 2 ∨ k = 3 ∨ k = 4 ∨ k = 5 ∨ k = 6 ∨ k = 7 ∨ k = 8 ∨ k = 9 ∨ k = 10 ∨ k = 11 ∨ k = 12 ∨ k = 13 ∨ k = 14 ∨ k = 15 ∨ k = 16 ∨ k = 17 ∨ k = 18 ∨ k = 19 ∨ k = 20 ∨ k = 21 ∨ k = 22 ∨ k = 23 ∨ k = 24 ∨ k = 25 ∨ k = 26 ∨ k = 27 ∨ k = 28 ∨ k = 29 ∨ k = 30 ∨ k = 31 := by omega
    rcases this with rfl | rfl | rfl | rfl | rfl | rfl | rfl | rfl | rfl | rfl | rfl | rfl | rfl | rfl | rfl | rfl | rfl | rfl | rfl | rfl | rfl | rfl | rfl | rfl | rfl | rfl | rfl | rfl | rfl | rfl | rfl | rfl <;> rfl
  · have : k = 32 := by omega
    subst this; rfl
theorem exe22 {w : World} {bw b : Nat} {e0 : Ez} (h : WnM w bw (fun _ => 0) (some ⟨b, 0, none⟩) b 0 1 1 (fun _ => e0)) (hi : e0.i = in22) (h1 : e0.bad = 0) (h2 : e0.dn = false) (h3 : e0.kn = false) (vc vd ve : Value) :
    Calls Tryd.prog 10 #[.pointer (some ⟨bw, 0, none⟩), .agg #[vc, vd, ve], .int .i64 0] w fun e' w' => e' = .returned (.bool true) ∧ WnM w' bw (fun _ => 0) (some ⟨b, 0, none⟩) b 0 1 1 (updF (fun _ => e0) 0 (doneE e0 7)) ∧ Fr [b] w w' := by
  have hr : ∀ i, regY (fun _ => 0) (fun _ => e0) 1 i 0 = (0, true) := fun i => by unfold regY; rw [if_pos (by omega)]
  refine exe_alu h (j := 0) (by omega) ?_ ?_ ?_ ?_ ?_ 7 ?_ vc vd ve
  · show CanH e0.i.op
    rw [hi]; exact canH22
  · show canE e0 (regY (fun _ => 0) (fun _ => e0) 1 _ e0.i.a).2 (regY (fun _ => 0) (fun _ => e0) 1 _ e0.i.b).2 = true
    rw [hi]
    show canE e0 (regY (fun _ => 0) (fun _ => e0) 1 _ 0).2 (regY (fun _ => 0) (fun _ => e0) 1 _ 0).2 = true
    rw [hr]
    unfold canE
    rw [hi, h1, h2, show acB in22.op = false by decide +kernel, show cmpB in22.op = true by decide +kernel]
    rfl
  · show acB e0.i.op = false
    rw [hi]; decide +kernel
  · show e0.i.op ≠ 4
    rw [hi]; decide
  · show (formZ e0.i.op == 4) = false
    rw [hi]; decide +kernel
  · intro W
    show Calls Tryd.prog 21 #[.int .i64 e0.i.op, .int .i64 (regY (fun _ => 0) (fun _ => e0) 1 _ e0.i.a).1, .int .i64 (wrap64 ((regY (fun _ => 0) (fun _ => e0) 1 _ e0.i.b).1 + e0.i.imm))] W _
    rw [hi]
    show Calls Tryd.prog 21 #[.int .i64 22, .int .i64 (regY (fun _ => 0) (fun _ => e0) 1 _ 0).1, .int .i64 (wrap64 ((regY (fun _ => 0) (fun _ => e0) 1 _ 0).1 + 7))] W _
    rw [hr]
    show Calls Tryd.prog 21 #[.int .i64 22, .int .i64 0, .int .i64 (wrap64 (0 + 7))] W _
    rw [show wrap64 (0 + 7) = 7 by decide +kernel]
    exact eval22_ret W
set_option maxRecDepth 100000 in
theorem reg22 {w : World} {bw b : Nat} {e0 : Ez} (h : WnM w bw (fun _ => 0) (some ⟨b, 0, none⟩) b 0 1 1 (updF (fun _ => e0) 0 (doneE e0 7))) (hi : e0.i = in22) :
    Calls Tryd.prog 6 #[.pointer (some ⟨bw, 0, none⟩), .int .i64 1, .int .i64 5] w fun e w' => e = .returned (.tuple #[.int .i64 7, .bool true]) ∧ Below w.heap.size w w' := by
  have := reg_ret h.hd h.enl h.sm h.nc 1 5
  have e1 : regY (fun _ => 0) (updF (fun _ => e0) 0 (doneE e0 7)) 1 1 5 = (7, true) := by
    unfold regY
    rw [if_neg (by omega)]
    rw [show min (1 : Int).toNat 1 = 0 + 1 from rfl]
    unfold regZ
    have h5 : wrZ (doneE e0 7) 5 = true := by
      show (mayB e0.i && e0.i.rd == 5) = true
      rw [hi]; decide +kernel
    rw [updF_same, if_pos h5]; rfl
  rw [e1] at this
  exact this
set_option maxRecDepth 100000 in
set_option maxHeartbeats 2000000 in
theorem awake19 (w : World) (hG : GlobOk decGl w) : Calls Tryd.prog 5 #[] w fun e w' => e = .returned (.bool true) ∧ Below w.heap.size w w' := by
  have HEn := hid encode22
  obtain ⟨c0, hc0⟩ : ∃ c, encZ in22 = c := ⟨_, rfl⟩
  rw [hc0] at HEn
  go_enter Tryd.func5, Tryd.ntmps5
  go_wp2_with (go_at_call 11; refine (HEn.out _).mono ?_; rintro e' w1 ⟨rfl, hB1⟩; refine Hid.out ?_)
  obtain ⟨w2, hw2⟩ : ∃ w2, (((w1.alloc (.cells #[.int .u32 c0] 48)).alloc (.cells #[.int .i64 0] 3)).alloc (.cells #[.slice (some ⟨w1.heap.size, 0, none⟩) 1 1, .slice none 0 0, .slice (some ⟨w1.heap.size + 1, 0, none⟩) 1 1] 25)) = w2 := ⟨_, rfl⟩
  have hb0 : Hb w2 w1.heap.size 48 1 (fun _ => .int .u32 c0) := by rw [← hw2]; exact ((Hb.new w1 #[.int .u32 c0] 48 (oneAt _)).alloc _).alloc _
  have hb1 : Hb w2 (w1.heap.size + 1) 3 1 (fun _ => .int .i64 0) := by
    rw [← hw2]
    have := (Hb.new (w1.alloc (.cells #[.int .u32 c0] 48)) #[.int .i64 0] 3 (oneAt _)).alloc (.cells #[.slice (some ⟨w1.heap.size, 0, none⟩) 1 1, .slice none 0 0, .slice (some ⟨w1.heap.size + 1, 0, none⟩) 1 1] 25)
    rwa [World.size_alloc] at this
  have hb2 : Hb w2 (w1.heap.size + 1 + 1) 25 3 (arrF #[.slice (some ⟨w1.heap.size, 0, none⟩) 1 1, .slice none 0 0, .slice (some ⟨w1.heap.size + 1, 0, none⟩) 1 1]) := by
    rw [← hw2]
    have := Hb.arr ((w1.alloc (.cells #[.int .u32 c0] 48)).alloc (.cells #[.int .i64 0] 3)) #[.slice (some ⟨w1.heap.size, 0, none⟩) 1 1, .slice none 0 0, .slice (some ⟨w1.heap.size + 1, 0, none⟩) 1 1] 25
    rwa [World.size_alloc, World.size_alloc] at this
  have hB2 : Below w.heap.size w w2 := by
    rw [← hw2]
    have := hB1.size
    exact ((hB1.alloc (by omega) _).alloc (by simp; omega) _).alloc (by simp; omega) _
  have HG2 := hid (hG.below hB2)
  have HF := hid (fetch22 w2 HG2.out w1.heap.size (w1.heap.size + 1) (by rw [hc0]; exact hb0) hb1)
  have c20 : w2.cell? ⟨w1.heap.size + 1 + 1, 0, none⟩ = some (.slice (some ⟨w1.heap.size, 0, none⟩) 1 1) := hb2.cell (i := 0) (by omega)
  have c21 : w2.cell? ⟨w1.heap.size + 1 + 1, 1, none⟩ = some (.slice none 0 0) := hb2.cell (i := 1) (by omega)
  have c22 : w2.cell? ⟨w1.heap.size + 1 + 1, 2, none⟩ = some (.slice (some ⟨w1.heap.size + 1, 0, none⟩) 1 1) := hb2.cell (i := 2) (by omega)
  obtain ⟨e0, he0⟩ : ∃ e0, entZ in22 true 65536 0 = e0 := ⟨_, rfl⟩
  have hi : e0.i = in22 ∧ e0.bad = 0 ∧ e0.dn = false ∧ e0.kn = false := by rw [← he0]; exact ⟨rfl, by decide +kernel, by decide +kernel, rfl⟩
  rw [he0] at HF
  have HB2 := hid hB2
  have Hb2 := hid hb2
  have Hi := hid hi
  clear hB1 hb0 hb1 hb2 hi he0 hB2 hc0
  refine hid ?_
  go_wp2_with (go_at_call 12; refine HF.out.mono ?_; rintro e' w3 ⟨rfl, hB3⟩; refine Hid.out ?_)
  clear HF c20 c21 c22 hw2
  have HB3 := hid (HB2.out.trans (hB3.mono HB2.out.size))
  have Hb3 := hid (Hb2.out.below hB3 Hb2.out.lt)
  clear hB3 HB2
  obtain ⟨w4, hw4⟩ : ∃ w4, ((w3.alloc (.cells #[.int .i64 e0.pc, .int .i64 e0.i.op, .int .i64 e0.i.rd, .int .i64 e0.i.a, .int .i64 e0.i.b, .int .i64 e0.i.imm, .bool e0.i.aq, .bool e0.i.rl, .int .i64 e0.next, .int .i64 e0.addr, .bool e0.kn, .int .i64 e0.bad, .int .i64 e0.val, .bool e0.ry, .bool e0.dn, .bool e0.fl, .int .i64 e0.sh, .int .i64 e0.sa] 36)).alloc (.cells #[.int .i64 0, .int .i64 0, .int .i64 0, .int .i64 0, .int .i64 0, .int .i64 0, .int .i64 0, .int .i64 0, .int .i64 0, .int .i64 0, .int .i64 0, .int .i64 0, .int .i64 0, .int .i64 0, .int .i64 0, .int .i64 0, .int .i64 0, .int .i64 0, .int .i64 0, .int .i64 0, .int .i64 0, .int .i64 0, .int .i64 0, .int .i64 0, .int .i64 0, .int .i64 0, .int .i64 0, .int .i64 0, .int .i64 0, .int .i64 0, .int .i64 0, .int .i64 0, .slice (some ⟨w3.heap.size, 0, none⟩) 1 1] 42)) = w4 := ⟨_, rfl⟩
  have g0 : Hb w4 w3.heap.size 36 18 (ezF e0) := by rw [← hw4]; exact (Hb.newEz w3 e0 _).alloc _
  have g1 : Hb w4 (w3.heap.size + 1) 42 33 (winF (fun _ => 0) (.slice (some ⟨w3.heap.size, 0, none⟩) 1 1)) := by
    rw [← hw4]
    have := Hb.arr (w3.alloc (.cells #[.int .i64 e0.pc, .int .i64 e0.i.op, .int .i64 e0.i.rd, .int .i64 e0.i.a, .int .i64 e0.i.b, .int .i64 e0.i.imm, .bool e0.i.aq, .bool e0.i.rl, .int .i64 e0.next, .int .i64 e0.addr, .bool e0.kn, .int .i64 e0.bad, .int .i64 e0.val, .bool e0.ry, .bool e0.dn, .bool e0.fl, .int .i64 e0.sh, .int .i64 e0.sa] 36)) #[.int .i64 0, .int .i64 0, .int .i64 0, .int .i64 0, .int .i64 0, .int .i64 0, .int .i64 0, .int .i64 0, .int .i64 0, .int .i64 0, .int .i64 0, .int .i64 0, .int .i64 0, .int .i64 0, .int .i64 0, .int .i64 0, .int .i64 0, .int .i64 0, .int .i64 0, .int .i64 0, .int .i64 0, .int .i64 0, .int .i64 0, .int .i64 0, .int .i64 0, .int .i64 0, .int .i64 0, .int .i64 0, .int .i64 0, .int .i64 0, .int .i64 0, .int .i64 0, .slice (some ⟨w3.heap.size, 0, none⟩) 1 1] 42
    rw [World.size_alloc] at this
    exact this.congr winA_get
  have hB4 : Below w.heap.size w w4 := by
    rw [← hw4]
    have := HB3.out.size
    exact (HB3.out.alloc (by omega) _).alloc (by simp; omega) _
  have s4 : w.heap.size ≤ w3.heap.size := HB3.out.size
  have hWn : WnM w4 (w3.heap.size + 1) (fun _ => 0) (some ⟨w3.heap.size, 0, none⟩) w3.heap.size 0 1 1 (fun _ => e0) := ⟨g1, fun _ => ⟨rfl, 18, _, g0, by omega, fun i hi k hk => by
    have : i = 0 := by omega
    subst this
    simp⟩, Nat.le_refl _, by decide⟩
  have Hb4 : Hb w4 (w1.heap.size + 1 + 1) 25 3 (arrF #[.slice (some ⟨w1.heap.size, 0, none⟩) 1 1, .slice none 0 0, .slice (some ⟨w1.heap.size + 1, 0, none⟩) 1 1]) := by rw [← hw4]; exact (Hb3.out.alloc _).alloc _
  have c20 : w4.cell? ⟨w1.heap.size + 1 + 1, 0, none⟩ = some (.slice (some ⟨w1.heap.size, 0, none⟩) 1 1) := Hb4.cell (i := 0) (by omega)
  have c21 : w4.cell? ⟨w1.heap.size + 1 + 1, 1, none⟩ = some (.slice none 0 0) := Hb4.cell (i := 1) (by omega)
  have c22 : w4.cell? ⟨w1.heap.size + 1 + 1, 2, none⟩ = some (.slice (some ⟨w1.heap.size + 1, 0, none⟩) 1 1) := Hb4.cell (i := 2) (by omega)
  have HX := hid (exe22 hWn Hi.out.1 Hi.out.2.1 Hi.out.2.2.1 Hi.out.2.2.2 (.slice (some ⟨w1.heap.size, 0, none⟩) 1 1) (.slice none 0 0) (.slice (some ⟨w1.heap.size + 1, 0, none⟩) 1 1))
  have HB4 := hid hB4
  clear g0 g1 hB4 hWn Hb4 HB3 Hb3
  refine hid ?_
  go_wp2_with (go_at_call 10; refine HX.out.mono ?_; rintro e' w5 ⟨rfl, hW5, hF5⟩; have HW5 := hid hW5; have HF5 := hid hF5; clear hW5 hF5; refine Hid.out ?_)
  have HR := hid (reg22 HW5.out Hi.out.1)
  have HB5 := hid (Fr.below HB4.out HF5.out HB4.out.size (fun i hi => by simp at hi; omega))
  clear hw4 c20 c21 c22 HX HB4
  refine hid ?_
  go_wp2_with (go_at_call 6; refine HR.out.mono ?_; rintro e' w6 ⟨rfl, hB6⟩; have HB6 := hid (HB5.out.trans (hB6.mono HB5.out.size)); clear hB6; refine Hid.out ?_)
  refine hid ?_
  go_wp2
  go_ret
  exact ⟨rfl, HB6.out⟩
end Go.Proofs.YtiajbijbhhpllaaDoor
namespace Go.Proofs.YtiajbijbhhpllaaDoor
open Go Go.RowKit Sim S2
noncomputable def tAw19 : Tab := row 5 dec0 fun _ => .bool true
theorem tAw19_ok : TabOk Tryd.prog decGl tAw19 := tab0 fun w hG => awake19 w hG
end Go.Proofs.YtiajbijbhhpllaaDoor
namespace Go.Proofs.YtiajbijbhhpllaaDoor
open Go Go.RowKit Sim S2
noncomputable def envNb : S2.Env := { envl Tryd.prog decGl tAw19 noP noL (fun _ => none) with nowrap := false }
theorem envNb_ok : CallOk envNb := envl_ok tAw19_ok (.none _ _) (.none _ _) .none
def ez0 : Ez := ⟨0, ⟨0, 0, 0, 0, 0, false, false⟩, 0, 0, false, 0, 0, false, false, false, 0, 0⟩
theorem rgn (j r : Int) : S2.simF envNb 1000 58 [] [] 6 [[], [true], [true]] [.inl (.pointer none), .inl (.int .i64 j), .inl (.int .i64 r)] = some (false, [.inl (.tuple #[.int .i64 0, .bool false])], [], []) := by kernel_rfl
theorem rtn : S2.simF envNb 1000 60 [] [] 7 [[]] [.inl (.pointer none)] = some (false, [.inl (.tuple #[.agg (ezR ez0), .bool false])], [], []) := by kernel_rfl
theorem sme : S2.simF envNb 1000 20 [] [] 8 [[], []] [.inl (.agg (ezR ez0)), .inl (.agg (ezR ez0))] = some (false, [.inl (.bool true)], [], []) := by kernel_rfl
theorem reg_nil (j r : Int) (W : World) (hG : GlobOk decGl W) : Calls Tryd.prog 6 #[.pointer none, .int .i64 j, .int .i64 r] W fun e w' => e = .returned (.tuple #[.int .i64 0, .bool false]) ∧ Below W.heap.size W w' :=
  (fn_ok envNb_ok (rgn j r) all_nil Tryd.func6 W _ hG (ArgsOk.plain [.pointer none, .int .i64 j, .int .i64 r]) fun t ht => by cases ht).plain
theorem retire_nil (W : World) (hG : GlobOk decGl W) : Calls Tryd.prog 7 #[.pointer none] W fun e w' => e = .returned (.tuple #[.agg (ezR ez0), .bool false]) ∧ Below W.heap.size W w' :=
  (fn_ok envNb_ok rtn all_nil Tryd.func7 W _ hG (ArgsOk.plain [.pointer none]) fun t ht => by cases ht).plain
theorem same_zero (W : World) (hG : GlobOk decGl W) : Calls Tryd.prog 8 #[.agg (ezR ez0), .agg (ezR ez0)] W fun e w' => e = .returned (.bool true) ∧ Below W.heap.size W w' :=
  (fn_ok envNb_ok sme all_nil Tryd.func8 W _ hG (ArgsOk.plain [.agg (ezR ez0), .agg (ezR ez0)]) fun t ht => by cases ht).plain
theorem exe_nil (vc vd ve : Value) (j : Int) (w : World) : Calls Tryd.prog 10 #[.pointer none, .agg #[vc, vd, ve], .int .i64 j] w fun e w' => e = .returned (.bool false) ∧ Below w.heap.size w w' := by
  have HC := hid (can_nil j)
  have hB := (Below.refl w.heap.size w).alloc (Nat.le_refl _) (.cells #[vc, vd, ve] 25)
  have HB := hid hB
  clear hB
  go_enter Tryd.func10, Tryd.ntmps10
  go_wp2_with (go_at_call 9; refine (HC.out _).mono ?_; rintro e' w2 ⟨rfl, rfl⟩)
  go_ret
  exact ⟨rfl, HB.out⟩
theorem large_ret (qc qd : Option Addr) (n m cc cd : Nat) (ve : Value) (w : World) : Calls Tryd.prog 4 #[.agg #[.slice qc n cc, .slice qd m cd, ve]] w fun e w' => e = .returned (.bool (decide (500 < n) || decide (500 < m))) ∧ Below w.heap.size w w' := by
  have hB := (Below.refl w.heap.size w).alloc (Nat.le_refl _) (.cells #[.slice qc n cc, .slice qd m cd, ve] 25)
  have HB := hid hB
  clear hB
  have hc0 : (w.alloc (.cells #[.slice qc n cc, .slice qd m cd, ve] 25)).cell? ⟨w.heap.size, 0, none⟩ = some (.slice qc n cc) := (Hb.arr w #[.slice qc n cc, .slice qd m cd, ve] 25).cell (i := 0) (by simp)
  have hc1 : (w.alloc (.cells #[.slice qc n cc, .slice qd m cd, ve] 25)).cell? ⟨w.heap.size, 1, none⟩ = some (.slice qd m cd) := (Hb.arr w #[.slice qc n cc, .slice qd m cd, ve] 25).cell (i := 1) (by simp)
  by_cases h1 : 500 < n
  · have h2 : (500 : Int) < (n : Int) := by omega
    rw [decide_eq_true h1]
    go_enter Tryd.func4, Tryd.ntmps4
    go_wp2
    go_ret
    exact ⟨rfl, HB.out⟩
  · have h2 : ¬ (500 : Int) < (n : Int) := by omega
    rw [decide_eq_false h1]
    by_cases h3 : 500 < m
    · have h4 : (500 : Int) < (m : Int) := by omega
      rw [decide_eq_true h3]
      go_enter Tryd.func4, Tryd.ntmps4
      go_wp2
      go_ret
      exact ⟨rfl, HB.out⟩
    · have h4 : ¬ (500 : Int) < (m : Int) := by omega
      rw [decide_eq_false h3]
      go_enter Tryd.func4, Tryd.ntmps4
      go_wp2
      go_ret
      exact ⟨rfl, HB.out⟩
theorem wp_ldg {ops : Array Oper} {rest : List Oper} {op : Oper} {a : Act} {w : World} {Q : Exit → Act → World → Prop} (hw : Region.wanted op (yielded ops a.tmps) = true) (ty : TypeId) (x : Operand) (ho : op.op = .load ty x) {b o : Nat} {v : Value} (hx : a.eval x = .pointer (some ⟨b, o, none⟩)) (hr : (loadVar ty ⟨b, o, none⟩).run Tryd.prog w = .ok v w)
    (h : wpList Tryd.prog ops Q rest (a.put op.dst v) w) : wpList Tryd.prog ops Q (op :: rest) a w :=
  wpList_step fun _ hK => by
    rw [if_pos hw]
    unfold Oper.wp execOp
    simp only [ho, hx, Instr.loadAt, Instr.sureAddr, Sem.run_bind, Sem.run_pure, Result.andThen_ok, hr]
    exact hK _ _ h
theorem st_ez {w : World} {b : Nat} {F : Nat → Value} {t : TypeId} (h : Hb w b t 18 F) (e : Ez) : (storeVar 36 ⟨b, 0, none⟩ (.agg (ezR e))).run Tryd.prog w = .ok () (w.setCells b 0 (ezR e).toList) :=
  run_storeVar_mid (P := Tryd.prog) w b 0 36 (ezR e) (h.there (by simp)) ezInfo (by simp [Value.oneCell'])
theorem Hb.storeEz {W : World} {b : Nat} {t : TypeId} {F : Nat → Value} (h : Hb W b t 18 F) (e : Ez) : Hb (W.setCells b 0 (ezR e).toList) b t 18 (ezF e) :=
  (h.sets (o := 0) (vs := (ezR e).toList)).congr fun k hk => by
    have := updR_in (F := F) (o := 0) (vs := (ezR e).toList) (j := k) (by simpa using hk)
    rw [Nat.zero_add] at this
    rw [this, List.getD_eq_getElem?_getD, ezR_get e k hk]; rfl
set_option maxRecDepth 100000 in
set_option maxHeartbeats 1000000 in
theorem retire_empty {w : World} {bw : Nat} {rg : Nat → Int} {q : Option Addr} {cap : Nat} (hW : Hb w bw 42 33 (winF rg (.slice q 0 cap))) : Calls Tryd.prog 7 #[.pointer (some ⟨bw, 0, none⟩)] w fun e w' => e = .returned (.tuple #[.agg #[.int .i64 0, .int .i64 0, .int .i64 0, .int .i64 0, .int .i64 0, .int .i64 0, .bool false, .bool false, .int .i64 0, .int .i64 0, .bool false, .int .i64 0, .int .i64 0, .bool false, .bool false, .bool false, .int .i64 0, .int .i64 0], .bool false]) ∧ Below w.heap.size w w' := by
  have hlt := hW.lt
  obtain ⟨w1, hw1⟩ : ∃ w1, w.alloc (.cells #[.int .i64 0, .int .i64 0, .int .i64 0, .int .i64 0, .int .i64 0, .int .i64 0, .bool false, .bool false, .int .i64 0, .int .i64 0, .bool false, .int .i64 0, .int .i64 0, .bool false, .bool false, .bool false, .int .i64 0, .int .i64 0] 36) = w1 := ⟨_, rfl⟩
  have hB1 : Below w.heap.size w w1 := by rw [← hw1]; exact (Below.refl _ w).alloc (Nat.le_refl _) _
  have cw1 : w1.cell? ⟨bw, 32, none⟩ = some (.slice q 0 cap) := (hW.below hB1 hlt).cell (i := 32) (by omega)
  have h1 : Hb w1 w.heap.size 36 18 (ezF ez0) := by rw [← hw1]; exact Hb.newEz w ez0 _
  obtain ⟨w2, hw2⟩ : ∃ w2, w1.setCells w.heap.size 0 (ezR ez0).toList = w2 := ⟨_, rfl⟩
  have st := st_ez h1 ez0
  have h2 := h1.storeEz ez0
  have hF : Fr [] w (w1.setCells w.heap.size 0 (ezR ez0).toList) := Fr.sets (.inl (Nat.le_refl _)) _ 0 (Fr.of_below hB1)
  rw [hw2] at st h2 hF
  have hl := load_ez (h2.ez (o := 0) (fun k hk => by rw [Nat.zero_add]) (by omega))
  have HF := hid hF.to_below
  clear hF h2 h1 hw2 hB1
  have st' : (storeVar 36 ⟨w.heap.size, 0, none⟩ (.agg #[.int .i64 0, .int .i64 0, .int .i64 0, .int .i64 0, .int .i64 0, .int .i64 0, .bool false, .bool false, .int .i64 0, .int .i64 0, .bool false, .int .i64 0, .int .i64 0, .bool false, .bool false, .bool false, .int .i64 0, .int .i64 0])).run Tryd.prog w1 = .ok () w2 := st
  clear st
  go_enter Tryd.func7, Tryd.ntmps7
  go_wp2_with (refine wp_st_of rfl 36 _ _ rfl rfl rfl st' ?_)
  refine bodyPost_ret (ret_cell2 rfl rfl rfl hl) rfl ?_
  exact ⟨rfl, HF.out⟩
theorem im_slices {w : World} {i : Im} {v : Value} (h : ArgsOk w [imX false i] [v]) : ∃ qc cc qd cd ve, v = .agg #[.slice qc i.n cc, .slice qd i.m cd, ve] := by
  obtain ⟨⟨us, rfl, hc⟩, _⟩ := h
  match us, hc with
  | [u0, u1, u2], hc =>
    obtain ⟨⟨_, a, c, h0, _⟩, ⟨_, a1, c1, h1, _⟩, _, _⟩ := hc
    exact ⟨a, c, a1, c1, u2, by rw [h0, h1]; rfl⟩
set_option maxRecDepth 100000 in
set_option maxHeartbeats 2000000 in
theorem nobody_big (i j r : Int) (qc qd : Option Addr) (n m cc cd : Nat) (ve : Value) (w : World) (hG : GlobOk decGl w) (hl : (decide (500 < n) || decide (500 < m)) = true) :
    Calls Tryd.prog 3 #[.agg #[.slice qc n cc, .slice qd m cd, ve], .int .i64 j, .int .i64 r] w fun e w' => e = .returned (.bool true) ∧ Below w.heap.size w w' := by
  have HL := hid (fun W => large_ret qc qd n m cc cd ve W)
  rw [hl] at HL
  have HA := hid awake19
  obtain ⟨w1, hw1⟩ : ∃ w1, w.alloc (.cells #[.slice qc n cc, .slice qd m cd, ve] 25) = w1 := ⟨_, rfl⟩
  have hB1 : Below w.heap.size w w1 := by rw [← hw1]; exact (Below.refl _ w).alloc (Nat.le_refl _) _
  have hb := Hb.arr w #[.slice qc n cc, .slice qd m cd, ve] 25
  rw [hw1] at hb
  have c0 : w1.cell? ⟨w.heap.size, 0, none⟩ = some (.slice qc n cc) := hb.cell (i := 0) (by simp)
  have c1 : w1.cell? ⟨w.heap.size, 1, none⟩ = some (.slice qd m cd) := hb.cell (i := 1) (by simp)
  have c2 : w1.cell? ⟨w.heap.size, 2, none⟩ = some ve := hb.cell (i := 2) (by simp)
  have HG := hid hG
  clear hG hb hl
  go_enter Tryd.func3, Tryd.ntmps3
  go_wp2_with (first
    | (go_at_call 4; refine (HL.out _).mono ?_; rintro e' w2 ⟨rfl, hB2⟩; have HB2 := hid (hB1.trans (hB2.mono hB1.size)); clear hB2; refine Hid.out ?_)
    | fail)
  refine hid ?_
  go_wp2_with (go_at_call 5; refine (HA.out _ (HG.out.below HB2.out)).mono ?_; rintro e' w3 ⟨rfl, hB3⟩; have HB3 := hid (HB2.out.trans (hB3.mono HB2.out.size)); clear hB3; refine Hid.out ?_)
  refine hid ?_
  go_wp2
  go_ret
  exact ⟨rfl, HB3.out⟩
abbrev zA : Array Value := #[.int .i64 0, .int .i64 0, .int .i64 0, .int .i64 0, .int .i64 0, .int .i64 0, .bool false, .bool false, .int .i64 0, .int .i64 0, .bool false, .int .i64 0, .int .i64 0, .bool false, .bool false, .bool false, .int .i64 0, .int .i64 0]
abbrev wA : Array Value := #[.int .i64 0, .int .i64 0, .int .i64 0, .int .i64 0, .int .i64 0, .int .i64 0, .int .i64 0, .int .i64 0, .int .i64 0, .int .i64 0, .int .i64 0, .int .i64 0, .int .i64 0, .int .i64 0, .int .i64 0, .int .i64 0, .int .i64 0, .int .i64 0, .int .i64 0, .int .i64 0, .int .i64 0, .int .i64 0, .int .i64 0, .int .i64 0, .int .i64 0, .int .i64 0, .int .i64 0, .int .i64 0, .int .i64 0, .int .i64 0, .int .i64 0, .int .i64 0, .slice none 0 0]
theorem win0 (W : World) : Hb (W.alloc (.cells wA 42)) W.heap.size 42 33 (winF (fun _ => 0) (.slice none 0 0)) := (Hb.arr W wA 42).congr winA_get
set_option maxRecDepth 100000 in
set_option maxHeartbeats 4000000 in
theorem nobody_small (j r : Int) (qc qd : Option Addr) (n m cc cd : Nat) (ve : Value) (w : World) (hG : GlobOk decGl w) (hl : (decide (500 < n) || decide (500 < m)) = false) :
    Calls Tryd.prog 3 #[.agg #[.slice qc n cc, .slice qd m cd, ve], .int .i64 j, .int .i64 r] w fun e w' => e = .returned (.bool true) ∧ Below w.heap.size w w' := by
  have HL := hid (fun W => large_ret qc qd n m cc cd ve W)
  rw [hl] at HL
  have HA := hid awake19
  have HR := hid (reg_nil j r)
  have HT := hid (fun W hG => (show Calls Tryd.prog 7 #[.pointer none] W fun e w' => e = .returned (.tuple #[.agg zA, .bool false]) ∧ Below W.heap.size W w' from retire_nil W hG))
  have HS := hid (fun W hG => (show Calls Tryd.prog 8 #[.agg zA, .agg zA] W fun e w' => e = .returned (.bool true) ∧ Below W.heap.size W w' from same_zero W hG))
  have HCn := hid (can_nil j)
  have HEx := hid (fun W => exe_nil (.slice qc n cc) (.slice qd m cd) ve j W)
  obtain ⟨w1, hw1⟩ : ∃ w1, w.alloc (.cells #[.slice qc n cc, .slice qd m cd, ve] 25) = w1 := ⟨_, rfl⟩
  have hB1 : Below w.heap.size w w1 := by rw [← hw1]; exact (Below.refl _ w).alloc (Nat.le_refl _) _
  have hb := Hb.arr w #[.slice qc n cc, .slice qd m cd, ve] 25
  rw [hw1] at hb
  have c0 : w1.cell? ⟨w.heap.size, 0, none⟩ = some (.slice qc n cc) := hb.cell (i := 0) (by simp)
  have c1 : w1.cell? ⟨w.heap.size, 1, none⟩ = some (.slice qd m cd) := hb.cell (i := 1) (by simp)
  have c2 : w1.cell? ⟨w.heap.size, 2, none⟩ = some ve := hb.cell (i := 2) (by simp)
  have HI := hid hb
  have HG := hid hG
  clear hG hb hl
  go_enter Tryd.func3, Tryd.ntmps3
  go_wp2_with (go_at_call 4; refine (HL.out _).mono ?_; rintro e' w2 ⟨rfl, hB2⟩; have HB2 := hid (hB1.trans (hB2.mono hB1.size)); have HI2 := hid (HI.out.below hB2 HI.out.lt); clear hB2; refine Hid.out ?_)
  clear c0 c1 c2 hB1 hw1 HI
  refine hid ?_
  go_wp2_with (go_at_call 6; refine (HR.out _ (HG.out.below HB2.out)).mono ?_; rintro e' w3 ⟨rfl, hB3⟩; have HB3 := hid (HB2.out.trans (hB3.mono HB2.out.size)); have HI3 := hid (HI2.out.below hB3 HI2.out.lt); clear hB3; refine Hid.out ?_)
  clear HB2 HI2
  refine hid ?_
  go_wp2_with (go_at_call 7; refine (HT.out _ (HG.out.below HB3.out)).mono ?_; rintro e' w4 ⟨rfl, hB4⟩; have HB4 := hid (HB3.out.trans (hB4.mono HB3.out.size)); have HI4 := hid (HI3.out.below hB4 HI3.out.lt); clear hB4; refine Hid.out ?_)
  clear HB3 HI3
  obtain ⟨w5, hw5⟩ : ∃ w5, w4.alloc (.cells zA 36) = w5 := ⟨_, rfl⟩
  have h4 : Hb w5 w4.heap.size 36 18 (ezF ez0) := by rw [← hw5]; exact Hb.newEz w4 ez0 _
  have hI4 : Hb w5 w.heap.size 25 3 (arrF #[.slice qc n cc, .slice qd m cd, ve]) := by rw [← hw5]; exact HI4.out.alloc _
  have hB4 : Below w.heap.size w w5 := by rw [← hw5]; exact HB4.out.alloc (HB4.out.size) _
  have st : (storeVar 36 ⟨w4.heap.size, 0, none⟩ (.agg zA)).run Tryd.prog w5 = .ok () (w5.setCells w4.heap.size 0 zA.toList) := st_ez h4 ez0
  have h5 : Hb (w5.setCells w4.heap.size 0 zA.toList) w4.heap.size 36 18 (ezF ez0) := h4.storeEz ez0
  have hF5 : Fr [w4.heap.size] w5 (w5.setCells w4.heap.size 0 zA.toList) := Fr.sets (.inr (by simp)) _ 0 (Fr.refl _ _)
  have hI5 := hI4.fr hF5 (by simp; have := HI4.out.lt; omega)
  have hB5 := hF5.below hB4 hB4.size (fun i hi => by simp at hi; have := HB4.out.size; omega)
  clear hF5 h4 hI4 hB4
  generalize w5.setCells w4.heap.size 0 zA.toList = ws at st h5 hI5 hB5
  obtain ⟨w6, hw6⟩ : ∃ w6, ws.alloc (.cells wA 42) = w6 := ⟨_, rfl⟩
  have h6 : Hb w6 ws.heap.size 42 33 (winF (fun _ => 0) (.slice none 0 0)) := by rw [← hw6]; exact win0 ws
  have HT6 := hid (retire_empty h6)
  have HB6 := hid (show Below w.heap.size w w6 by rw [← hw6]; exact hB5.alloc hB5.size _)
  have HI6 := hid (show Hb w6 w.heap.size 25 3 (arrF #[.slice qc n cc, .slice qd m cd, ve]) by rw [← hw6]; exact hI5.alloc _)
  have H56 := hid (show Hb w6 w4.heap.size 36 18 (ezF ez0) by rw [← hw6]; exact h5.alloc _)
  clear h5 hB5 hI5 h6 HI4
  refine hid ?_
  go_wp2_with (first
    | (refine wp_st_of rfl 36 _ _ rfl rfl rfl st ?_)
    | (go_at_call 7; refine HT6.out.mono ?_; rintro e' w7 ⟨rfl, hB7⟩; have HB7 := hid (HB6.out.trans (hB7.mono HB6.out.size)); have HI7 := hid (HI6.out.below hB7 HI6.out.lt); have H57 := hid (H56.out.below hB7 H56.out.lt); clear hB7; refine Hid.out ?_))
  clear hw6 st
  obtain ⟨w8, hw8⟩ : ∃ w8, w7.alloc (.cells zA 36) = w8 := ⟨_, rfl⟩
  have h4 : Hb w8 w7.heap.size 36 18 (ezF ez0) := by rw [← hw8]; exact Hb.newEz w7 ez0 _
  have hI4 : Hb w8 w.heap.size 25 3 (arrF #[.slice qc n cc, .slice qd m cd, ve]) := by rw [← hw8]; exact HI7.out.alloc _
  have hE4 : Hb w8 w4.heap.size 36 18 (ezF ez0) := by rw [← hw8]; exact H57.out.alloc _
  have hB4 : Below w.heap.size w w8 := by rw [← hw8]; exact HB7.out.alloc (HB7.out.size) _
  have st : (storeVar 36 ⟨w7.heap.size, 0, none⟩ (.agg zA)).run Tryd.prog w8 = .ok () (w8.setCells w7.heap.size 0 zA.toList) := st_ez h4 ez0
  have hF5 : Fr [w7.heap.size] w8 (w8.setCells w7.heap.size 0 zA.toList) := Fr.sets (.inr (by simp)) _ 0 (Fr.refl _ _)
  have hI5 := hI4.fr hF5 (by simp; have := HI7.out.lt; omega)
  have hE5 := hE4.fr hF5 (by simp; have := H57.out.lt; omega)
  have hB5 := hF5.below hB4 hB4.size (fun i hi => by simp at hi; have := HB7.out.size; omega)
  clear hF5 h4 hI4 hB4 hE4
  generalize w8.setCells w7.heap.size 0 zA.toList = w9 at st hI5 hB5 hE5
  have hl : (loadVar 36 ⟨w4.heap.size, 0, none⟩).run Tryd.prog w9 = .ok (.agg zA) w9 := load_ez (e := ez0) (hE5.ez (o := 0) (fun k hk => by rw [Nat.zero_add]) (by omega))
  have HB9 := hid hB5
  have HI9 := hid hI5
  clear hB5 hI5 hE5 H57 HI7 HB7
  refine hid ?_
  go_wp2_with (first
    | (refine wp_st_of rfl 36 _ _ rfl rfl rfl st ?_)
    | (refine wp_ldg rfl 36 _ rfl rfl hl ?_)
    | (go_at_call 8; refine (HS.out _ (HG.out.below HB9.out)).mono ?_; rintro e' w10 ⟨rfl, hB10⟩; have HB10 := hid (HB9.out.trans (hB10.mono HB9.out.size)); have HI10 := hid (HI9.out.below hB10 HI9.out.lt); clear hB10; refine Hid.out ?_))
  clear hw8 st hl HB9 HI9
  have c0 : w10.cell? ⟨w.heap.size, 0, none⟩ = some (.slice qc n cc) := HI10.out.cell (i := 0) (by omega)
  have c1 : w10.cell? ⟨w.heap.size, 1, none⟩ = some (.slice qd m cd) := HI10.out.cell (i := 1) (by omega)
  have c2 : w10.cell? ⟨w.heap.size, 2, none⟩ = some ve := HI10.out.cell (i := 2) (by omega)
  refine hid ?_
  go_wp2_with (first
    | (go_at_call 9; refine (HCn.out _).mono ?_; rintro e' w11 ⟨rfl, rfl⟩)
    | (go_at_call 10; refine (HEx.out _).mono ?_; rintro e' w11 ⟨rfl, hB11⟩; have HB11 := hid (HB10.out.trans (hB11.mono HB10.out.size)); clear hB11; refine Hid.out ?_))
  clear c0 c1 c2 HI10 HB10
  obtain ⟨w12, hw12⟩ : ∃ w12, w11.alloc (.cells wA 42) = w12 := ⟨_, rfl⟩
  have h12 : Hb w12 w11.heap.size 42 33 (winF (fun _ => 0) (.slice none 0 0)) := by rw [← hw12]; exact win0 w11
  have HB12 := hid (show Below w.heap.size w w12 by rw [← hw12]; exact HB11.out.alloc HB11.out.size _)
  have HC12 := hid (can_out h12 j (by omega))
  clear h12 HCn
  refine hid ?_
  go_wp2_with (first
    | (go_at_call 9; refine HC12.out.mono ?_; rintro e' w13 ⟨rfl, rfl⟩)
    | (go_at_call 5; refine (HA.out _ (HG.out.below HB12.out)).mono ?_; rintro e' w14 ⟨rfl, hB14⟩; have HB14 := hid (HB12.out.trans (hB14.mono HB12.out.size)); clear hB14; refine Hid.out ?_))
  refine hid ?_
  go_wp2
  go_ret
  exact ⟨rfl, HB14.out⟩
theorem windowNobody_walk (i : Im) (v : Value) (j r : Int) (w : World) (hG : GlobOk decGl w) (hw : wfIm i) (ha : ∀ o, ArgsOk w [imX o i] [v]) (_ : (Lit.int .i64 j).wf = true) (_ : (Lit.int .i64 r).wf = true) : Ret Tryd.prog 3 #[v, .int .i64 j, .int .i64 r] (.bool true) w := by
  obtain ⟨qc, cc, qd, cd, ve, rfl⟩ := im_slices (ha false)
  cases hl : (decide (500 < i.n) || decide (500 < i.m))
  · exact nobody_small j r qc qd i.n i.m cc cd ve w hG hl
  · exact nobody_big j j r qc qd i.n i.m cc cd ve w hG hl
end Go.Proofs.YtiajbijbhhpllaaDoor
