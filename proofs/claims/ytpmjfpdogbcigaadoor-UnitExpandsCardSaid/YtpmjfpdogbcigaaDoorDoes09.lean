/- Layer 9: what a list of loading instructions does to the registers, by definition. -/
import Derived.Test.YtpmjfpdogbcigaaDoorRefLd09
import Derived.Test.YtpmjfpdogbcigaaDoorEval07
import Derived.Test.YtpmjfpdogbcigaaDoorShift07
namespace Go.Proofs.YtpmjfpdogbcigaaDoor
open Go.RowKit Sim S2
set_option linter.unusedVariables false
set_option linter.unusedSimpArgs false
theorem evZ_ex : ∃ f : Int → Int → Int → Int, ∀ op a b, f op a b = bif op == 22 then arZ .add .i64 a b else bif op == 31 then hafZ (arZ .add .i64 a b) else movZ a b true 0 64 := ⟨_, fun _ _ _ => rfl⟩
noncomputable def evZ : Int → Int → Int → Int := Classical.choose evZ_ex
theorem evZ_eq (op a b : Int) : evZ op a b = bif op == 22 then arZ .add .i64 a b else bif op == 31 then hafZ (arZ .add .i64 a b) else movZ a b true 0 64 := Classical.choose_spec evZ_ex op a b
def evC (op b : Int) : Bool := decide (op = 22 ∨ op = 31 ∨ (op = 28 ∧ 0 ≤ b ∧ b ≤ 63))
noncomputable def env9e : S2.Env := { env7e with nowrap := false }
theorem env9e_ok : CallOk env9e := env7e_ok
theorem ev_22 (a b : Int) : S2.simF env9e 1000 10 [] [] 36 [[], [true], [true]] [.inl (.int .i64 22), .inl (.int .i64 a), .inl (.int .i64 b)] = some (false, [.inl (.int .i64 (arZ .add .i64 a b))], [], []) := by kernel_rfl
theorem ev_28 (a b : Int) : S2.simF env9e 1000 10 [] [] 36 [[], [true], [true]] [.inl (.int .i64 28), .inl (.int .i64 a), .inl (.int .i64 b)] = some (false, [.inl (.int .i64 (movZ a (IntKind.i64.wrap (arZ .rem .u64 (IntKind.u64.wrap b) 64)) true 0 64))], [(pre (mvC (IntKind.i64.wrap (arZ .rem .u64 (IntKind.u64.wrap b) 64)) 0 64), true)], []) := by kernel_rfl
theorem ev_31 (a b : Int) : S2.simF env9e 1000 10 [] [] 36 [[], [true], [true]] [.inl (.int .i64 31), .inl (.int .i64 a), .inl (.int .i64 b)] = some (false, [.inl (.int .i64 (hafZ (arZ .add .i64 a b)))], [(pre (u64C (arZ .rem .u64 (IntKind.u64.wrap a) 4294967296) && u64C (arZ .rem .u64 (IntKind.u64.wrap b) 4294967296)), true), (pre (i64C (hafZ a) && i64C (hafZ b)), true)], []) := by kernel_rfl
theorem rem_u {a m : Int} (h0 : 0 ≤ a) (hm : 0 < m) : arZ .rem .u64 a m = a % m := by
  rw [arZ_eq]
  show a.tmod m = _
  exact Int.tmod_eq_emod_of_nonneg h0
noncomputable def decEv9 : List Value → Option (Value × Bool)
  | [.int .i64 op, .int .i64 a, .int .i64 b] => some (.int .i64 (evZ op a b), pre (evC op b))
  | _ => none
noncomputable def pEv9 : PTab := prowD 36 decEv9
theorem pEv9_ok {gl : Gl} : PTabOk Tryd.prog gl pEv9 := .rowD fun args u hd w hG => by
  unfold decEv9 at hd
  split at hd
  · rename_i op a b
    simp only [Option.some.injEq, Prod.mk.injEq, pre] at hd
    obtain ⟨rfl, hc⟩ := hd
    unfold evC at hc
    rcases of_decide_eq_true hc with rfl | rfl | ⟨rfl, h0, h1⟩
    · exact (ret7 env9e_ok _ _ (ev_22 a b) all_nil Tryd.func36 w [.int .i64 22, .int .i64 a, .int .i64 b] (GlobOk.none w) ⟨rfl, rfl, rfl, trivial⟩).of_eq (by rw [evZ_eq]; rfl)
    · refine (ret7 env9e_ok _ _ (ev_31 a b) (all_cons ?_ <| all_cons ?_ all_nil) Tryd.func36 w [.int .i64 31, .int .i64 a, .int .i64 b] (GlobOk.none w) ⟨rfl, rfl, rfl, trivial⟩).of_eq (by rw [evZ_eq]; rfl)
      · have e : ∀ x, u64C (arZ .rem .u64 (IntKind.u64.wrap x) 4294967296) = true := fun x => by
          rw [IntKind.wrap_u64, rem_u (by omega) (by decide), u64C_iff]; omega
        unfold pre; rw [e, e]; rfl
      · have e : ∀ x, i64C (hafZ x) = true := fun x => by rw [hafZ_eq, i64C_iff]; unfold wrap32; omega
        unfold pre; rw [e, e]; rfl
    · have e : IntKind.i64.wrap (arZ .rem .u64 (IntKind.u64.wrap b) 64) = b := by
        rw [IntKind.wrap_u64, rem_u (by omega) (by decide), wrap_i64]; omega
      refine (ret7 env9e_ok _ _ (ev_28 a b) (all_cons ?_ all_nil) Tryd.func36 w [.int .i64 28, .int .i64 a, .int .i64 b] (GlobOk.none w) ⟨rfl, rfl, rfl, trivial⟩).of_eq (by rw [e, evZ_eq]; rfl)
      rw [e]
      exact ob_dec ⟨h0, h1, by decide, by decide, by decide, by decide⟩
  · cases hd
/-- The registers, as a list of values; what the instructions leave in them. -/
def regL (X : Nat → Int) : List Int := (List.range 32).map X
def regV (X : Nat → Int) : Value := .agg ((List.range 32).map fun k => Value.int .i64 (X k)).toArray
def R32 : List Bool := List.replicate 32 true
noncomputable def valX (i : In) (X : Nat → Int) : Int := bif i.op == 1 then 4096 * i.imm else evZ i.op (pickZ (regL X) i.a) i.imm
noncomputable def putX (rd v : Int) (X : Nat → Int) : Nat → Int := fun k => selZ rd k v (X k)
noncomputable def stepX (i : In) (X : Nat → Int) : Nat → Int := bif i.rd == 0 then X else putX i.rd (valX i X) X
noncomputable def doesX (f : Nat → In) (X : Nat → Int) : Nat → Nat → Int
  | 0 => X
  | j + 1 => stepX (f j) (doesX f X j)
noncomputable def env9d : S2.Env := envk Tryd.prog (fun _ => none) true noT pEv9 noL
theorem env9d_ok : CallOk env9d := envk_ok (.none _ _) pEv9_ok (.none _ _)
def lsI (L : List In) : LE := ⟨32, 7, L.length, fun j => inC ((L[j]?).getD zIn), false, false, true⟩
def elL (L : List In) (j : Nat) : In := (L[j]?).getD zIn
def doB (X : Nat → Int) : S2.Blk := ⟨(List.range 32).map fun k => .inl ([true], .int .i64 (X k)), 28, .cells⟩
def doZ : S2.Blk := ⟨(List.range 32).map fun k => .inl ([false], .int .i64 0), 28, .cells⟩
def doS (L : List In) (X : Nat → Int) (j : Nat) : S2.St := { tmps := [(0, .c 0), (3, .inr (0, 0, none)), (4, .inr (1, 0, none)), (5, .inl ([true], .int .i64 j))], own := ⟨[doB X, doZ], [lsI L]⟩, lo := 0, llo := 0, mem := true, orc := [], obl := [] }
def doQ : Pick := { ts := [0, 3, 4, 5], bs := [0, 1], ls := [0], opn := [5] }
def doP : List Nat := [0, 1, 0, 1]
noncomputable def doC : Code := codeAt (codeOf Tryd.prog 12) (0 :: doP)
theorem do_end (L : List In) (X : Nat → Int) (w : World) : S2.Sem env9d w 57 doC (doS L X L.length) (some (some 0)) (doS L X L.length) :=
  sem_iter env9d_ok (GlobOk.none w) (p := doQ) (fuel := 1000) [false] [(decide ((L.length : Int) < L.length), false)] (by kernel_rfl) (by kernel_rfl) (all_cons (ob_no (by omega)) all_nil)
theorem do_tff (L : List In) (hn : L.length ≤ 1000) (X : Nat → Int) (j : Nat) (hj : j < L.length) (ha : 0 ≤ (elL L j).a ∧ (elL L j).a < (32 : Nat)) (hd : 0 ≤ (elL L j).rd ∧ (elL L j).rd < (32 : Nat)) (hm : ((elL L j).op == 1) = true → -9223372036854775808 ≤ 4096 * (elL L j).imm ∧ 4096 * (elL L j).imm ≤ 9223372036854775807) (he : ((elL L j).op == 1) = false → pre (evC (elL L j).op (elL L j).imm) = true) (h1 : ((elL L j).op == 1) = false) (h2 : ((elL L j).rd != 0) = false) (w : World) : S2.Sem env9d w 57 doC (doS L X j) none (doS L X (j + 1)) := by
  refine sem_iter env9d_ok (GlobOk.none w) (p := doQ) (fuel := 1000) [true, false, false] [(pre (inI ((j : Int) + 1)), true), ((elL L (j : Int).toNat).rd != 0, false), (pre (decide ((j : Int).toNat < L.length)), true), (pre (decide ((j : Int).toNat < L.length)), true), (pre (idxB (j : Int) L.length), true), (pre (evC (elL L (j : Int).toNat).op (elL L (j : Int).toNat).imm), true), (pre (decide ((j : Int).toNat < L.length)), true), (pre (decide ((j : Int).toNat < L.length)), true), (pre (idxB (j : Int) L.length), true), (pre (idxB (elL L (j : Int).toNat).a 32), true), (pre (idxB (elL L (j : Int).toNat).a 32), true), (pre (decide ((j : Int).toNat < L.length)), true), (pre (decide ((j : Int).toNat < L.length)), true), (pre (idxB (j : Int) L.length), true), (pre (decide ((j : Int).toNat < L.length)), true), (pre (decide ((j : Int).toNat < L.length)), true), (pre (idxB (j : Int) L.length), true), ((elL L (j : Int).toNat).op == 1, false), (pre (decide ((j : Int).toNat < L.length)), true), (pre (decide ((j : Int).toNat < L.length)), true), (pre (idxB (j : Int) L.length), true), (decide ((j : Int) < (L.length : Int)), true)] (by kernel_rfl) (by kernel_rfl) ?_
  rw [Int.toNat_natCast]
  exact all_cons (ob_inI (by omega)) <| all_cons (h2) <| all_cons (ob_lt hj) <| all_cons (ob_lt hj) <| all_cons (ob_idx (by omega)) <| all_cons (he h1) <| all_cons (ob_lt hj) <| all_cons (ob_lt hj) <| all_cons (ob_idx (by omega)) <| all_cons (ob_idx ha) <| all_cons (ob_idx ha) <| all_cons (ob_lt hj) <| all_cons (ob_lt hj) <| all_cons (ob_idx (by omega)) <| all_cons (ob_lt hj) <| all_cons (ob_lt hj) <| all_cons (ob_idx (by omega)) <| all_cons (h1) <| all_cons (ob_lt hj) <| all_cons (ob_lt hj) <| all_cons (ob_idx (by omega)) <| all_cons (ob_yes (by omega)) <| all_nil
theorem do_tft (L : List In) (hn : L.length ≤ 1000) (X : Nat → Int) (j : Nat) (hj : j < L.length) (ha : 0 ≤ (elL L j).a ∧ (elL L j).a < (32 : Nat)) (hd : 0 ≤ (elL L j).rd ∧ (elL L j).rd < (32 : Nat)) (hm : ((elL L j).op == 1) = true → -9223372036854775808 ≤ 4096 * (elL L j).imm ∧ 4096 * (elL L j).imm ≤ 9223372036854775807) (he : ((elL L j).op == 1) = false → pre (evC (elL L j).op (elL L j).imm) = true) (h1 : ((elL L j).op == 1) = false) (h2 : ((elL L j).rd != 0) = true) (w : World) : S2.Sem env9d w 57 doC (doS L X j) none (doS L (putX (elL L j).rd (evZ (elL L j).op (pickZ (regL X) (elL L j).a) (elL L j).imm) X) (j + 1)) := by
  refine sem_iter env9d_ok (GlobOk.none w) (p := doQ) (fuel := 1000) [true, false, true] [(pre (inI ((j : Int) + 1)), true), (pre (idxB (elL L (j : Int).toNat).rd 32), true), (pre (idxB (elL L (j : Int).toNat).rd 32), true), (pre (decide ((j : Int).toNat < L.length)), true), (pre (decide ((j : Int).toNat < L.length)), true), (pre (idxB (j : Int) L.length), true), ((elL L (j : Int).toNat).rd != 0, true), (pre (decide ((j : Int).toNat < L.length)), true), (pre (decide ((j : Int).toNat < L.length)), true), (pre (idxB (j : Int) L.length), true), (pre (evC (elL L (j : Int).toNat).op (elL L (j : Int).toNat).imm), true), (pre (decide ((j : Int).toNat < L.length)), true), (pre (decide ((j : Int).toNat < L.length)), true), (pre (idxB (j : Int) L.length), true), (pre (idxB (elL L (j : Int).toNat).a 32), true), (pre (idxB (elL L (j : Int).toNat).a 32), true), (pre (decide ((j : Int).toNat < L.length)), true), (pre (decide ((j : Int).toNat < L.length)), true), (pre (idxB (j : Int) L.length), true), (pre (decide ((j : Int).toNat < L.length)), true), (pre (decide ((j : Int).toNat < L.length)), true), (pre (idxB (j : Int) L.length), true), ((elL L (j : Int).toNat).op == 1, false), (pre (decide ((j : Int).toNat < L.length)), true), (pre (decide ((j : Int).toNat < L.length)), true), (pre (idxB (j : Int) L.length), true), (decide ((j : Int) < (L.length : Int)), true)] (by kernel_rfl) (by kernel_rfl) ?_
  rw [Int.toNat_natCast]
  exact all_cons (ob_inI (by omega)) <| all_cons (ob_idx hd) <| all_cons (ob_idx hd) <| all_cons (ob_lt hj) <| all_cons (ob_lt hj) <| all_cons (ob_idx (by omega)) <| all_cons (h2) <| all_cons (ob_lt hj) <| all_cons (ob_lt hj) <| all_cons (ob_idx (by omega)) <| all_cons (he h1) <| all_cons (ob_lt hj) <| all_cons (ob_lt hj) <| all_cons (ob_idx (by omega)) <| all_cons (ob_idx ha) <| all_cons (ob_idx ha) <| all_cons (ob_lt hj) <| all_cons (ob_lt hj) <| all_cons (ob_idx (by omega)) <| all_cons (ob_lt hj) <| all_cons (ob_lt hj) <| all_cons (ob_idx (by omega)) <| all_cons (h1) <| all_cons (ob_lt hj) <| all_cons (ob_lt hj) <| all_cons (ob_idx (by omega)) <| all_cons (ob_yes (by omega)) <| all_nil
theorem do_ttf (L : List In) (hn : L.length ≤ 1000) (X : Nat → Int) (j : Nat) (hj : j < L.length) (ha : 0 ≤ (elL L j).a ∧ (elL L j).a < (32 : Nat)) (hd : 0 ≤ (elL L j).rd ∧ (elL L j).rd < (32 : Nat)) (hm : ((elL L j).op == 1) = true → -9223372036854775808 ≤ 4096 * (elL L j).imm ∧ 4096 * (elL L j).imm ≤ 9223372036854775807) (he : ((elL L j).op == 1) = false → pre (evC (elL L j).op (elL L j).imm) = true) (h1 : ((elL L j).op == 1) = true) (h2 : ((elL L j).rd != 0) = false) (w : World) : S2.Sem env9d w 57 doC (doS L X j) none (doS L X (j + 1)) := by
  refine sem_iter env9d_ok (GlobOk.none w) (p := doQ) (fuel := 1000) [true, true, false] [(pre (inI ((j : Int) + 1)), true), ((elL L (j : Int).toNat).rd != 0, false), (pre (decide ((j : Int).toNat < L.length)), true), (pre (decide ((j : Int).toNat < L.length)), true), (pre (idxB (j : Int) L.length), true), (pre (inI (4096 * (elL L (j : Int).toNat).imm)), true), (pre (decide ((j : Int).toNat < L.length)), true), (pre (decide ((j : Int).toNat < L.length)), true), (pre (idxB (j : Int) L.length), true), ((elL L (j : Int).toNat).op == 1, true), (pre (decide ((j : Int).toNat < L.length)), true), (pre (decide ((j : Int).toNat < L.length)), true), (pre (idxB (j : Int) L.length), true), (decide ((j : Int) < (L.length : Int)), true)] (by kernel_rfl) (by kernel_rfl) ?_
  rw [Int.toNat_natCast]
  exact all_cons (ob_inI (by omega)) <| all_cons (h2) <| all_cons (ob_lt hj) <| all_cons (ob_lt hj) <| all_cons (ob_idx (by omega)) <| all_cons (ob_inI (hm h1)) <| all_cons (ob_lt hj) <| all_cons (ob_lt hj) <| all_cons (ob_idx (by omega)) <| all_cons (h1) <| all_cons (ob_lt hj) <| all_cons (ob_lt hj) <| all_cons (ob_idx (by omega)) <| all_cons (ob_yes (by omega)) <| all_nil
theorem do_ttt (L : List In) (hn : L.length ≤ 1000) (X : Nat → Int) (j : Nat) (hj : j < L.length) (ha : 0 ≤ (elL L j).a ∧ (elL L j).a < (32 : Nat)) (hd : 0 ≤ (elL L j).rd ∧ (elL L j).rd < (32 : Nat)) (hm : ((elL L j).op == 1) = true → -9223372036854775808 ≤ 4096 * (elL L j).imm ∧ 4096 * (elL L j).imm ≤ 9223372036854775807) (he : ((elL L j).op == 1) = false → pre (evC (elL L j).op (elL L j).imm) = true) (h1 : ((elL L j).op == 1) = true) (h2 : ((elL L j).rd != 0) = true) (w : World) : S2.Sem env9d w 57 doC (doS L X j) none (doS L (putX (elL L j).rd (4096 * (elL L j).imm) X) (j + 1)) := by
  refine sem_iter env9d_ok (GlobOk.none w) (p := doQ) (fuel := 1000) [true, true, true] [(pre (inI ((j : Int) + 1)), true), (pre (idxB (elL L (j : Int).toNat).rd 32), true), (pre (idxB (elL L (j : Int).toNat).rd 32), true), (pre (decide ((j : Int).toNat < L.length)), true), (pre (decide ((j : Int).toNat < L.length)), true), (pre (idxB (j : Int) L.length), true), ((elL L (j : Int).toNat).rd != 0, true), (pre (decide ((j : Int).toNat < L.length)), true), (pre (decide ((j : Int).toNat < L.length)), true), (pre (idxB (j : Int) L.length), true), (pre (inI (4096 * (elL L (j : Int).toNat).imm)), true), (pre (decide ((j : Int).toNat < L.length)), true), (pre (decide ((j : Int).toNat < L.length)), true), (pre (idxB (j : Int) L.length), true), ((elL L (j : Int).toNat).op == 1, true), (pre (decide ((j : Int).toNat < L.length)), true), (pre (decide ((j : Int).toNat < L.length)), true), (pre (idxB (j : Int) L.length), true), (decide ((j : Int) < (L.length : Int)), true)] (by kernel_rfl) (by kernel_rfl) ?_
  rw [Int.toNat_natCast]
  exact all_cons (ob_inI (by omega)) <| all_cons (ob_idx hd) <| all_cons (ob_idx hd) <| all_cons (ob_lt hj) <| all_cons (ob_lt hj) <| all_cons (ob_idx (by omega)) <| all_cons (h2) <| all_cons (ob_lt hj) <| all_cons (ob_lt hj) <| all_cons (ob_idx (by omega)) <| all_cons (ob_inI (hm h1)) <| all_cons (ob_lt hj) <| all_cons (ob_lt hj) <| all_cons (ob_idx (by omega)) <| all_cons (h1) <| all_cons (ob_lt hj) <| all_cons (ob_lt hj) <| all_cons (ob_idx (by omega)) <| all_cons (ob_yes (by omega)) <| all_nil
/-- What is asked of an instruction here. -/
def okI (i : In) : Prop := (0 ≤ i.a ∧ i.a < (32 : Nat)) ∧ (0 ≤ i.rd ∧ i.rd < (32 : Nat)) ∧ ((i.op == 1) = true → -9223372036854775808 ≤ 4096 * i.imm ∧ 4096 * i.imm ≤ 9223372036854775807) ∧ ((i.op == 1) = false → pre (evC i.op i.imm) = true)
theorem do_step (L : List In) (hn : L.length ≤ 1000) (X : Nat → Int) (j : Nat) (hj : j < L.length) (hok : okI (elL L j)) (w : World) : S2.Sem env9d w 57 doC (doS L X j) none (doS L (stepX (elL L j) X) (j + 1)) := by
  obtain ⟨ha, hd, hm, he⟩ := hok
  unfold stepX valX
  cases h2 : (elL L j).rd == 0
  · have h2' : ((elL L j).rd != 0) = true := by unfold bne; rw [h2]; rfl
    cases h1 : (elL L j).op == 1
    · exact do_tft L hn X j hj ha hd hm he h1 h2' w
    · exact do_ttt L hn X j hj ha hd hm he h1 h2' w
  · have h2' : ((elL L j).rd != 0) = false := by unfold bne; rw [h2]; rfl
    cases h1 : (elL L j).op == 1
    · exact do_tff L hn X j hj ha hd hm he h1 h2' w
    · exact do_ttf L hn X j hj ha hd hm he h1 h2' w
theorem does_ret (L : List In) (hn : L.length ≤ 1000) (X : Nat → Int) (hok : ∀ j, j < L.length → okI (elL L j)) (w : World) (vals : List Value) (ha : ArgsOk w [.inr (lsI L), .inl (regV X)] vals) : LRet Tryd.prog 12 vals false [.inl (regV (doesX (elL L) X L.length))] w := by
  refine fn_ok env9d_ok (fuel := 1000) (d := 30) (plan := [⟨doP, doQ, some (some 0), doS L (doesX (elL L) X L.length) L.length⟩]) (orc := []) (fls := [[], R32]) (l := []) (tr := [⟨.loop doC, doS L X 0, some (some 0), doS L (doesX (elL L) X L.length) L.length⟩]) (by kernel_rfl) all_nil Tryd.func12 w vals (GlobOk.none w) ha fun t ht => ?_
  obtain rfl := List.mem_singleton.mp ht
  exact sem_loop (fun j => doS L (doesX (elL L) X j) j) L.length (by simp) (fun j hj => do_step L hn _ j hj (hok j hj) w) (do_end L _ w)
end Go.Proofs.YtpmjfpdogbcigaaDoor
