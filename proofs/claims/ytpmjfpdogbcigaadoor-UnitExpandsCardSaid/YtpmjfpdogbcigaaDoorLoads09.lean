/- Layer 9: the law of loadings. -/
import Derived.Test.YtpmjfpdogbcigaaDoorAct09
namespace Go.Proofs.YtpmjfpdogbcigaaDoor
open Go.RowKit Sim S2
set_option linter.unusedVariables false
set_option linter.unusedSimpArgs false
noncomputable def env9a : S2.Env := { envk Tryd.prog (fun _ => none) true (orT tIsReg tFits) noP noL with lit := true }
theorem env9a_ok : CallOk env9a := envk_ok (nw := true) (tIsReg_ok.or tFits_ok) (.none _ _) (.none _ _)
theorem aw_sim : S2.simF env9a 1000 10 [] [true] 6 [] [] = some (false, [.inl (.bool true)], [(pre (decide (0 < 1)), true), (pre (idxB 0 1), true), (true, true)], []) := by kernel_rfl
theorem awake9_ret {gl : Gl} (w : World) : Ret Tryd.prog 6 #[] (.bool true) w := (ret7 env9a_ok _ _ aw_sim (all_cons (ob_dec (by decide)) <| all_cons (ob_idx (by decide)) <| all_cons rfl all_nil) Tryd.func6 w [] (GlobOk.none w) trivial)
noncomputable def tAw9 : Tab := row 6 dec0 fun _ => .bool true
theorem tAw9_ok {gl : Gl} : TabOk Tryd.prog gl tAw9 := tab0 fun w _ => awake9_ret (gl := gl) w
noncomputable def lLdN : LTab := lrow 9 fun args => match args with
  | [.inl (.int .i64 rd), .inl (.int .i64 x)] => some (false, [.inl (.slice none 0 0)], pre (!isRegB rd))
  | _ => none
noncomputable def lDo (L : List In) (X : Nat → Int) : LTab := lrow 12 fun args => match args with
  | [.inr e, .inl v] => some (false, [.inl (regV (doesX (elL L) X L.length))], pre (propB (isLs e L ∧ v = regV X)))
  | _ => none
noncomputable def env9n : S2.Env := { envk Tryd.prog gl9 true tAw9 noP lLdN with lit := true }
noncomputable def env9w (L : List In) (X : Nat → Int) : S2.Env := { envk Tryd.prog gl9 true (orT tAw9 tRefMay) noP (orL (orL (lLd 3) (lRf 3)) (lDo L X)) with lit := true }
def ulS (L : List In) (X : Nat → Int) (rd n : Int) (j : Nat) : S2.St := { tmps := [(0, .inl ([true], .int .i64 rd)), (1, .inl ([true], .int .i64 n)), (5, .inr (0, 0, none)), (7, .c 0), (8, .c 1), (9, .inl ([true], .int .i64 j))], own := ⟨[doB X], [lsE L, lsE L]⟩, lo := 0, llo := 0, mem := true, orc := [], obl := [] }
def ulQ : Pick := { ts := [0, 1, 5, 7, 8, 9], bs := [0], ls := [0, 1], opn := [9] }
def ulP : List Nat := [0, 1, 0, 1, 1, 1, 1, 1]
noncomputable def ulC : Code := codeAt (codeOf Tryd.prog 4) (0 :: ulP)
def regX (X : Nat → Int) : Nat → Int := fun k => bif Nat.beq k 0 then 0 else X k
theorem inSelf (x : In) : (!(x.op == x.op && (x.rd == x.rd && (x.a == x.a && (x.b == x.b && (x.imm == x.imm && (x.aq == x.aq && (x.rl == x.rl && true)))))))) = false := by simp
theorem lDo_ok {gl : Gl} (L : List In) (X : Nat → Int) (hn : L.length ≤ 1000) (hok : ∀ j, j < L.length → okI (elL L j)) : LTabOk Tryd.prog gl (lDo L X) := .row fun args tup res h w vals hG ha => by
  split at h
  · rename_i e v
    simp only [Option.some.injEq, Prod.mk.injEq] at h
    obtain ⟨rfl, rfl, hp⟩ := h
    obtain ⟨h1, rfl⟩ := propB_ok.mp hp
    match vals, ha with
    | [u, v], ha =>
      refine does_ret L hn X hok w [u, v] ⟨?_, ha.2⟩
      obtain ⟨e1, e2, e3⟩ := h1
      obtain ⟨_, a, cap, hv, hcap, hc⟩ := ha.1
      refine ⟨⟨by show 0 < 7; decide, fun j hj => ⟨rfl, rfl⟩⟩, a, cap, by rw [hv, e2]; rfl, by show L.length ≤ cap; omega, fun hp => ?_⟩
      obtain ⟨b, off, ha, hb, hcell⟩ := hc (by rw [e2]; exact hp)
      refine ⟨b, off, ha, hb, fun j hj o c ho => ?_⟩
      have := hcell j (by rw [e2]; exact hj) o c (by rw [e3 j hj]; exact ho)
      rw [e1] at this
      exact this
    | [], ha => exact ha.elim
    | [_], ha => exact ha.2.elim
    | _ :: _ :: _ :: _, ha => exact ha.2.2.elim
  · cases h
theorem lLdN_ok : LTabOk Tryd.prog gl9 lLdN := .row fun args tup res h w vals hG ha => by
  split at h
  · rename_i rd x
    simp only [Option.some.injEq, Prod.mk.injEq, pre] at h
    obtain ⟨rfl, rfl, hp⟩ := h
    match vals, ha with
    | [_, _], ⟨rfl, rfl, _⟩ => exact fn_ok env9l0_ok (ld_no rd x) (all_cons hp all_nil) Tryd.func9 w [.int .i64 rd, .int .i64 x] hG ⟨rfl, rfl, trivial⟩ (fun t ht => by cases ht)
  · cases h
theorem env9n_ok : CallOk env9n := envk_ok (nw := true) tAw9_ok (.none _ _) lLdN_ok
theorem env9w_ok (L : List In) (X : Nat → Int) (hn : L.length ≤ 1000) (hok : ∀ j, j < L.length → okI (elL L j)) : CallOk (env9w L X) :=
  envk_ok (nw := true) (tAw9_ok.or tRefMay_ok) (.none _ _) (((lLd_of 3 (loadP_ret 3 (by decide))).or (lRf_of 3 (loadR_ret 3 (by decide)))).or (lDo_ok L X hn hok))
theorem ul_tfff (L : List In) (Y : Nat → Int) (HC : CallOk (env9w L Y)) (hn : L.length ≤ 1000) (X : Nat → Int) (rd n : Int) (j : Nat) (hj : j < L.length) (hm : mayB (elL L j) = true) (h1 : ((elL L j).op != 1) = false) (w : World) (hG : GlobOk gl9 w) : S2.Sem (env9w L Y) w 101 ulC (ulS L X rd n j) none (ulS L X rd n (j + 1)) := by
  refine sem_iter HC hG (p := ulQ) (fuel := 1000) [true, false, false, false] [(pre (inI ((j : Int) + 1)), true), ((elL L (j : Int).toNat).op != 1, false), (pre (decide ((j : Int).toNat < L.length)), true), (pre (decide ((j : Int).toNat < L.length)), true), (pre (idxB (j : Int) L.length), true), (!mayB (elL L (j : Int).toNat), false), (pre (decide ((j : Int).toNat < L.length)), true), (pre (idxB (j : Int) L.length), true), (!((elL L (j : Int).toNat).op == (elL L (j : Int).toNat).op && ((elL L (j : Int).toNat).rd == (elL L (j : Int).toNat).rd && ((elL L (j : Int).toNat).a == (elL L (j : Int).toNat).a && ((elL L (j : Int).toNat).b == (elL L (j : Int).toNat).b && ((elL L (j : Int).toNat).imm == (elL L (j : Int).toNat).imm && ((elL L (j : Int).toNat).aq == (elL L (j : Int).toNat).aq && ((elL L (j : Int).toNat).rl == (elL L (j : Int).toNat).rl && true))))))), false), (pre (decide ((j : Int).toNat < L.length)), true), (pre (idxB (j : Int) L.length), true), (pre (decide ((j : Int).toNat < L.length)), true), (pre (idxB (j : Int) L.length), true), (decide ((j : Int) < (L.length : Int)), true)] (by kernel_rfl) (by kernel_rfl) ?_
  rw [Int.toNat_natCast]
  exact all_cons (ob_inI (by omega)) <| all_cons (h1) <| all_cons (ob_lt hj) <| all_cons (ob_lt hj) <| all_cons (ob_idx (by omega)) <| all_cons (by rw [hm]; rfl) <| all_cons (ob_lt hj) <| all_cons (ob_idx (by omega)) <| all_cons (inSelf _) <| all_cons (ob_lt hj) <| all_cons (ob_idx (by omega)) <| all_cons (ob_lt hj) <| all_cons (ob_idx (by omega)) <| all_cons (ob_yes (by omega)) <| all_nil
theorem ul_tfftff (L : List In) (Y : Nat → Int) (HC : CallOk (env9w L Y)) (hn : L.length ≤ 1000) (X : Nat → Int) (rd n : Int) (j : Nat) (hj : j < L.length) (hm : mayB (elL L j) = true) (h1 : ((elL L j).op != 1) = true) (h3 : 22 ≤ (elL L j).op ∧ (elL L j).op ≤ 31) (w : World) (hG : GlobOk gl9 w) : S2.Sem (env9w L Y) w 101 ulC (ulS L X rd n j) none (ulS L X rd n (j + 1)) := by
  refine sem_iter HC hG (p := ulQ) (fuel := 1000) [true, false, false, true, false, false] [(pre (inI ((j : Int) + 1)), true), (decide ((elL L (j : Int).toNat).op > 31), false), (pre (decide ((j : Int).toNat < L.length)), true), (pre (decide ((j : Int).toNat < L.length)), true), (pre (idxB (j : Int) L.length), true), (decide ((elL L (j : Int).toNat).op < 22), false), (pre (decide ((j : Int).toNat < L.length)), true), (pre (decide ((j : Int).toNat < L.length)), true), (pre (idxB (j : Int) L.length), true), ((elL L (j : Int).toNat).op != 1, true), (pre (decide ((j : Int).toNat < L.length)), true), (pre (decide ((j : Int).toNat < L.length)), true), (pre (idxB (j : Int) L.length), true), (!mayB (elL L (j : Int).toNat), false), (pre (decide ((j : Int).toNat < L.length)), true), (pre (idxB (j : Int) L.length), true), (!((elL L (j : Int).toNat).op == (elL L (j : Int).toNat).op && ((elL L (j : Int).toNat).rd == (elL L (j : Int).toNat).rd && ((elL L (j : Int).toNat).a == (elL L (j : Int).toNat).a && ((elL L (j : Int).toNat).b == (elL L (j : Int).toNat).b && ((elL L (j : Int).toNat).imm == (elL L (j : Int).toNat).imm && ((elL L (j : Int).toNat).aq == (elL L (j : Int).toNat).aq && ((elL L (j : Int).toNat).rl == (elL L (j : Int).toNat).rl && true))))))), false), (pre (decide ((j : Int).toNat < L.length)), true), (pre (idxB (j : Int) L.length), true), (pre (decide ((j : Int).toNat < L.length)), true), (pre (idxB (j : Int) L.length), true), (decide ((j : Int) < (L.length : Int)), true)] (by kernel_rfl) (by kernel_rfl) ?_
  rw [Int.toNat_natCast]
  exact all_cons (ob_inI (by omega)) <| all_cons (ob_no (by omega)) <| all_cons (ob_lt hj) <| all_cons (ob_lt hj) <| all_cons (ob_idx (by omega)) <| all_cons (ob_no (by omega)) <| all_cons (ob_lt hj) <| all_cons (ob_lt hj) <| all_cons (ob_idx (by omega)) <| all_cons (h1) <| all_cons (ob_lt hj) <| all_cons (ob_lt hj) <| all_cons (ob_idx (by omega)) <| all_cons (by rw [hm]; rfl) <| all_cons (ob_lt hj) <| all_cons (ob_idx (by omega)) <| all_cons (inSelf _) <| all_cons (ob_lt hj) <| all_cons (ob_idx (by omega)) <| all_cons (ob_lt hj) <| all_cons (ob_idx (by omega)) <| all_cons (ob_yes (by omega)) <| all_nil
theorem ul_end (L : List In) (Y : Nat → Int) (HC : CallOk (env9w L Y)) (X : Nat → Int) (rd n : Int) (w : World) (hG : GlobOk gl9 w) : S2.Sem (env9w L Y) w 101 ulC (ulS L X rd n L.length) (some (some 0)) (ulS L X rd n L.length) :=
  sem_iter HC hG (p := ulQ) (fuel := 1000) [false] [(decide ((L.length : Int) < L.length), false)] (by kernel_rfl) (by kernel_rfl) (all_cons (ob_no (by omega)) all_nil)
theorem uln_lo (X : Nat → Int) (rd n : Int) : S2.simF env9n 1000 10 [] [true] 4 [[true], [true], R32] [.inl (.int .i64 rd), .inl (.int .i64 n), .inl (regV X)] = some (false, [.inl (.bool true)], [(decide (rd < 0), true), (pre !isRegB rd, true)], []) := by kernel_rfl
theorem uln_hi (X : Nat → Int) (rd n : Int) : S2.simF env9n 1000 10 [] [false, true] 4 [[true], [true], R32] [.inl (.int .i64 rd), .inl (.int .i64 n), .inl (regV X)] = some (false, [.inl (.bool true)], [(decide (rd > 31), true), (decide (rd < 0), false), (pre !isRegB rd, true)], []) := by kernel_rfl
noncomputable def LD (rd n : Int) : List In := ldL 3 rd n
noncomputable def okLD (rd n : Int) : Bool := pre (isRegB rd && lvB 3 n)
theorem uly_0 (X : Nat → Int) (rd n : Int) : S2.simF (env9w (LD rd n) (regX X)) 1000 30 [⟨ulP, ulQ, some (some 0), ulS (LD rd n) X rd n (LD rd n).length⟩] [false, false, false, false, false, true] 4 [[true], [true], R32] [.inl (.int .i64 rd), .inl (.int .i64 n), .inl (regV X)] = some (false, [.inl (.bool true)], [(eqLZ (regL (doesX (elL (LD rd n)) (regX X) (LD rd n).length)) (regL (regX X)), true), (rd != 0, false), (pre (propB (isLs (lsE (LD rd n)) (LD rd n) ∧ regV (regX X) = regV (regX X))), true), (decide (((LD rd n).length : Int) > 8), false), (((LD rd n).length : Int) != ((LD rd n).length : Int), false), (okLD rd n, true), (decide (rd > 31), false), (decide (rd < 0), false), (okLD rd n, true)], [⟨.loop ulC, ulS (LD rd n) X rd n 0, some (some 0), ulS (LD rd n) X rd n (LD rd n).length⟩]) := by kernel_rfl
theorem uly_1 (X : Nat → Int) (rd n : Int) : S2.simF (env9w (LD rd n) (regX X)) 1000 30 [⟨ulP, ulQ, some (some 0), ulS (LD rd n) X rd n (LD rd n).length⟩] [false, false, false, false, true, true] 4 [[true], [true], R32] [.inl (.int .i64 rd), .inl (.int .i64 n), .inl (regV X)] = some (false, [.inl (.bool true)], [(eqLZ (regL (doesX (elL (LD rd n)) (regX X) (LD rd n).length)) (regL (putX rd n (regX X))), true), (pre (idxB rd 32), true), (pre (idxB rd 32), true), (rd != 0, true), (pre (propB (isLs (lsE (LD rd n)) (LD rd n) ∧ regV (regX X) = regV (regX X))), true), (decide (((LD rd n).length : Int) > 8), false), (((LD rd n).length : Int) != ((LD rd n).length : Int), false), (okLD rd n, true), (decide (rd > 31), false), (decide (rd < 0), false), (okLD rd n, true)], [⟨.loop ulC, ulS (LD rd n) X rd n 0, some (some 0), ulS (LD rd n) X rd n (LD rd n).length⟩]) := by kernel_rfl
end Go.Proofs.YtpmjfpdogbcigaaDoor
