/- Contracts of package text (layer 6), the side that writes. -/
import Derived.Test.YtgcglmnbkilfhaaGreatDoorBld06
import Derived.Test.YtgcglmnbkilfhaaGreatDoorLaw06
import Derived.Test.YtgcglmnbkilfhaaGreatDoorReg
namespace Go.Proofs.YtgcglmnbkilfhaaGreatDoor
open Go.RowKit Sim S2
set_option linter.unusedVariables false
set_option linter.unusedSimpArgs false

/-! ### Package-level cells -/
def abiC : List Value := (List.range 32).map fun i => .string (useS i)
def powC : List Value := Lib.pow10Tab.map fun z => .int .u64 z
/-- What the package-level variables hold: the tables; the two errors of strconv. -/
def gl6 (es er : Value) : Gl := fun g => bif Nat.beq g 0 then some (opL.map Value.string) else bif Nat.beq g 2 then some abiC
  else bif Nat.beq g 5 then some powC else bif Nat.beq g 3 then some [es] else bif Nat.beq g 4 then some [er] else none
theorem names_gl6 {es er : Value} (g : Nat) (cs : List Value) (h : namesGl g = some cs) : gl6 es er g = some cs := by
  unfold namesGl at h
  unfold gl6
  cases hb : Nat.beq g 0
  · rw [hb] at h; cases h
  · rw [hb] at h; exact h
theorem GlobOk.more {gl gl' : Gl} {w : World} (h : GlobOk gl' w) (hs : ∀ g cs, gl g = some cs → gl' g = some cs) : GlobOk gl w := fun g cs hg => h g cs (hs g cs hg)
theorem TabOk.more {P : Program} {gl gl' : Gl} {c : Tab} (h : TabOk P gl c) (hs : ∀ g cs, gl g = some cs → gl' g = some cs) : TabOk P gl' c := fun f args v hv w hG => h f args v hv w (GlobOk.more hG hs)
theorem tName6_ok {es er : Value} : TabOk Tryz.prog (gl6 es er) tName := TabOk.more tName_ok names_gl6
theorem tFind6_ok {es er : Value} : TabOk Tryz.prog (gl6 es er) tFind := TabOk.more tFind_ok names_gl6
theorem abiIs_of {es er : Value} {w : World} (h : GlobOk (gl6 es er) w) : AbiIs w := fun i hi => by
  refine (h 2 abiC rfl).1 i _ ?_
  unfold abiC
  rw [List.getElem?_map, List.getElem?_range hi]; rfl
theorem tabIs_of {es er : Value} {w : World} {n : String} (hn : Tryz.prog.globalNamed n = some 5) (h : GlobOk (gl6 es er) w) : Lib.TabIs Tryz.prog w n .u64 Lib.pow10Tab := by
  have hc := (h 5 powC rfl).2 rfl
  unfold Lib.TabIs World.var?
  rw [hn]
  simp only [Option.bind_some]
  have h0 := hc 0
  rw [show powC[0]? = some (.int .u64 1) from rfl] at h0
  unfold World.cell? at hc h0
  simp only at hc h0
  split at h0
  · rename_i cs T fz hh
    rw [hh] at hc
    simp only at hc
    show (match w.heap[5]? with | some (.cells cs _ _) => some cs | _ => none) = _
    rw [hh]
    show some cs = some powC.toArray
    congr 1
    refine Array.ext' ?_
    refine List.ext_getElem? fun i => ?_
    have := hc i
    rw [Array.getElem?_toList]
    simpa using this
  · cases h0
/-! ### Numbers, registers -/
theorem below_grow6 (w : World) (k : Nat) (os : Array Obj) : Below w.heap.size w (Go.Sort.grow (w.drewN k) os) :=
  ⟨rfl, rfl, rfl, by show w.heap.size ≤ (w.heap ++ os).size; simp, fun i hi => by show (w.heap ++ os)[i]? = w.heap[i]?; rw [Array.getElem?_append_left hi]⟩
theorem decDig_decF : ∀ (k n : Nat), n < 10 ^ k → 0 < k → Lib.decDigits n = decF k n
  | 0, n, _, h => by omega
  | k + 1, n, h, _ => by
    rw [Lib.decDigits]
    unfold decF
    by_cases h10 : n < 10
    · rw [dif_pos h10, if_pos h10]
    · rw [dif_neg h10, if_neg h10]
      cases k with
      | zero => simp at h; omega
      | succ k => rw [decDig_decF (k + 1) (n / 10) (by rw [Nat.pow_succ] at h; omega) (by omega)]
theorem itoa_digL {v : Int} (h : -9223372036854775808 ≤ v ∧ v ≤ 9223372036854775807) : Lib.itoa v = digL v := by
  have h20 : (10 : Nat) ^ 20 = 100000000000000000000 := by decide
  unfold Lib.itoa digL
  by_cases h0 : 0 ≤ v
  · rw [if_neg (by omega), if_pos h0]; exact decDig_decF 20 _ (by omega) (by omega)
  · rw [if_pos (by omega), if_neg h0, show v.natAbs = (-v).toNat by omega]
    rw [decDig_decF 20 _ (by omega) (by omega)]
noncomputable def pItoa : PTab := prowD 46 decDig
theorem pItoa_ok {es er : Value} : PTabOk Tryz.prog (gl6 es er) pItoa := .rowD fun args u hd w hG => by
  unfold decDig at hd
  split at hd
  · rename_i v
    simp only [Option.some.injEq, Prod.mk.injEq, pre] at hd
    obtain ⟨rfl, hc⟩ := hd
    simp [i64B] at hc
    have e : (⟨(Lib.itoa v).toArray⟩ : ByteArray) = digZ v := toL_inj (by rw [digZ_eq, itoa_digL hc]; simp [toL])
    have h := Any.strconv_Itoa laysM171 v hc.1 hc.2 w (tabIs_of (by kernel_rfl) hG)
    rw [e] at h
    refine h.mono fun r w' ⟨h1, k, os, h2⟩ => ⟨h1, ?_⟩
    subst h2
    exact below_grow6 w k os
  · cases hd
noncomputable def pRegName : PTab := prowD 45 decNum
theorem pRegName_ok {gl : Gl} : PTabOk Tryz.prog gl pRegName := .rowD fun args u hd w hG => by
  unfold decNum at hd
  split at hd
  · rename_i v
    simp only [Option.some.injEq, Prod.mk.injEq, pre] at hd
    obtain ⟨rfl, hc⟩ := hd
    simp [rg32B] at hc
    obtain ⟨v, rfl⟩ := Int.eq_ofNat_of_zero_le hc.1
    refine (Ret.of_same (regName_yes v w (by omega))).of_eq ?_
    congr 1
    exact toL_inj (by rw [numZ_eq]; rfl)
  · cases hd
/-! ### Suffixes, layouts, sets -/
theorem sfxZ_ex : ∃ g : Bool → Bool → ByteArray, ∀ a r, g a r = ⟨(sfxL a r).toArray⟩ := ⟨_, fun _ _ => rfl⟩
noncomputable def sfxZ : Bool → Bool → ByteArray := Classical.choose sfxZ_ex
theorem sfxZ_eq (a r : Bool) : toL (sfxZ a r) = sfxL a r := by rw [sfxZ, Classical.choose_spec sfxZ_ex]; simp [toL]
noncomputable def tSfx : Tab := row 16 decIn fun i => .string (sfxZ i.aq i.rl)
theorem suffix_ret {gl : Gl} (i : In) (w : World) (hG : GlobOk gl w) : Ret Tryz.prog 16 #[inV i] (.string (sfxZ i.aq i.rl)) w := by
  cases ha : i.aq <;> cases hr : i.rl
  · refine (ret (TabOk.none _ gl) (fuel := 1000) OIn [false, false, false] (v := .string ⟨#[]⟩) [(i.rl, false), (i.aq, false), (i.aq, false)] (by kernel_rfl) (by simp [ha, hr]) w hG).of_eq ?_
    congr 1; exact toL_inj (by rw [sfxZ_eq]; rfl)
  · refine (ret (TabOk.none _ gl) (fuel := 1000) OIn [false, false, true] (v := .string ⟨#[46, 114, 108]⟩) [(i.rl, true), (i.aq, false), (i.aq, false)] (by kernel_rfl) (by simp [ha, hr]) w hG).of_eq ?_
    congr 1; exact toL_inj (by rw [sfxZ_eq]; rfl)
  · refine (ret (TabOk.none _ gl) (fuel := 1000) OIn [true, false, true] (v := .string ⟨#[46, 97, 113]⟩) [(i.aq, true), (i.rl, false), (i.aq, true)] (by kernel_rfl) (by simp [ha, hr]) w hG).of_eq ?_
    congr 1; exact toL_inj (by rw [sfxZ_eq]; rfl)
  · refine (ret (TabOk.none _ gl) (fuel := 1000) OIn [true, true] (v := .string ⟨#[46, 97, 113, 114, 108]⟩) [(i.rl, true), (i.aq, true)] (by kernel_rfl) (by simp [ha, hr]) w hG).of_eq ?_
    congr 1; exact toL_inj (by rw [sfxZ_eq]; rfl)
theorem tSfx_ok {gl : Gl} : TabOk Tryz.prog gl tSfx := tabV decIn_eq fun x w hG => suffix_ret x w hG
/-- How the operands of an operation are laid out: ten ways. -/
def layC (op : Int) : Nat := bif formZ op == 1 || formZ op == 2 then 1 else bif formZ op == 3 then (bif op == 4 || readZ op then 2 else 3) else bif formZ op == 4 then 4 else bif formZ op == 5 then 5 else bif formZ op == 6 then 6 else bif formZ op == 7 || formZ op == 8 then 3
  else bif formZ op == 9 then 7 else bif formZ op == 10 then 8 else bif formZ op == 11 then 9 else 0
def layK : Nat → ByteArray
  | 1 => ⟨#[100, 44, 32, 105]⟩
  | 2 => ⟨#[100, 44, 32, 105, 40, 97, 41]⟩
  | 3 => ⟨#[100, 44, 32, 97, 44, 32, 105]⟩
  | 4 => ⟨#[97, 44, 32, 98, 44, 32, 105]⟩
  | 5 => ⟨#[98, 44, 32, 105, 40, 97, 41]⟩
  | 6 => ⟨#[100, 44, 32, 97, 44, 32, 98]⟩
  | 7 => ⟨#[112, 44, 32, 115]⟩
  | 8 => ⟨#[100, 44, 32, 40, 97, 41]⟩
  | 9 => ⟨#[100, 44, 32, 98, 44, 32, 40, 97, 41]⟩
  | _ => ⟨#[]⟩
theorem layout_in : (List.range 88).all (runs { P := Tryz.prog, glob := (fun _ => none), call := orT tForm tAccess } 1000 17 (fun n => [.int .i64 n]) fun n => .string (layK (layC n))) = true := by kernel_rfl
theorem layout_ret (op : Int) (w : World) : Ret Tryz.prog 17 #[.int .i64 op] (.string (layK (layC op))) w := by
  rcases op_cases op with ⟨n, h1, h2, rfl⟩ | h
  · exact runs_ret (tForm_ok.or tAccess_ok) layout_in n h2 w (GlobOk.none w)
  · have hf : formZ op = -1 := formZ_out h
    refine (ret (c := orT tForm tAccess) (tForm_ok.or tAccess_ok) (fuel := 1000) O1 (List.replicate 11 false) (v := .string ⟨#[]⟩) [(formZ op == 11, false), (formZ op == 10, false), (formZ op == 9, false), (formZ op == 6, false), (formZ op == 5, false), (formZ op == 4, false), (formZ op == 8, false), (formZ op == 7, false), (formZ op == 3, false), (formZ op == 2, false), (formZ op == 1, false)]
      (by kernel_rfl) (by simp [hf]) w (GlobOk.none w)).of_eq ?_
    unfold layC
    rw [hf]; rfl
noncomputable def decLay (k : Nat) : List Value → Option (Value × Bool)
  | [.int .i64 v] => some (.string (layK k), pre (layC v == k))
  | _ => none
noncomputable def pLay (k : Nat) : PTab := prowD 17 (decLay k)
theorem pLay_ok {gl : Gl} (k : Nat) : PTabOk Tryz.prog gl (pLay k) := .rowD fun args u hd w hG => by
  unfold decLay at hd
  split at hd
  · rename_i v
    simp only [Option.some.injEq, Prod.mk.injEq, pre] at hd
    obtain ⟨rfl, hc⟩ := hd
    rw [← eq_of_beq hc]
    exact layout_ret v w
  · cases hd
/-- The methods of strings.Builder that the text calls. -/
def bop6 : FuncId → Option BOp := fun f => bif Nat.beq f 14 then some .wstr else bif Nat.beq f 18 then some .wbyte else bif Nat.beq f 71 then some .wrune
  else bif Nat.beq f 20 then some .str else bif Nat.beq f 72 then some .len else none
theorem bop6_ok : ∀ f op, bop6 f = some op → BldOk Tryz.prog 39 5 op f := fun f op h => by
  unfold bop6 at h
  cases b1 : Nat.beq f 14
  · rw [b1] at h
    cases b2 : Nat.beq f 18
    · rw [b2] at h
      cases b3 : Nat.beq f 71
      · rw [b3] at h
        cases b4 : Nat.beq f 20
        · rw [b4] at h
          cases b5 : Nat.beq f 72
          · rw [b5] at h; cases h
          · rw [b5] at h; cases h; rw [Nat.eq_of_beq_eq_true b5]; exact bld_ln
        · rw [b4] at h; cases h; rw [Nat.eq_of_beq_eq_true b4]; exact bld_st
      · rw [b3] at h; cases h; rw [Nat.eq_of_beq_eq_true b3]; exact bld_wr
    · rw [b2] at h; cases h; rw [Nat.eq_of_beq_eq_true b2]; exact bld_wb
  · rw [b1] at h; cases h; rw [Nat.eq_of_beq_eq_true b1]; exact bld_ws
noncomputable def envW : S2.Env := envb Tryz.prog (fun _ => none) noT noP noL 39 5 bop6 (fun _ => false)
theorem envW_ok : CallOk envW := envb_ok (.none _ _) (.none _ _) (.none _ _) bop6_ok
--@s2 ws "(v : Int)" "simF envW 1000 10 [] $O 47 [[true]] [.inl (.int .i64 v)]" k0:ffff k1:ffft k2:fftf k3:fftt k4:ftff k5:ftft k6:fttf k7:fttt k8:tfff k9:tfft k10:tftf k11:tftt k12:ttff k13:ttft k14:tttf k15:tttt
theorem ws_k0 (v : Int) : simF envW 1000 10 [] [false, false, false, false] 47 [[true]] [.inl (.int .i64 v)] = some (false, [Sum.inl (Value.string (⟨#[48]⟩ : ByteArray))], [(arZ BinOp.and IntKind.i64 v 1 != 0, false), (arZ BinOp.and IntKind.i64 v 2 != 0, false), (arZ BinOp.and IntKind.i64 v 4 != 0, false), (arZ BinOp.and IntKind.i64 v 8 != 0, false)], []) := by kernel_rfl
theorem ws_k1 (v : Int) : simF envW 1000 10 [] [false, false, false, true] 47 [[true]] [.inl (.int .i64 v)] = some (false, [Sum.inl (Value.string (accB false (accB false ByteArray.empty (some (oneB 119))) none))], [(arZ BinOp.and IntKind.i64 v 1 != 0, true), (arZ BinOp.and IntKind.i64 v 2 != 0, false), (arZ BinOp.and IntKind.i64 v 4 != 0, false), (arZ BinOp.and IntKind.i64 v 8 != 0, false)], []) := by kernel_rfl
theorem ws_k2 (v : Int) : simF envW 1000 10 [] [false, false, true, false] 47 [[true]] [.inl (.int .i64 v)] = some (false, [Sum.inl (Value.string (accB false (accB false ByteArray.empty (some (oneB 114))) none))], [(arZ BinOp.and IntKind.i64 v 1 != 0, false), (arZ BinOp.and IntKind.i64 v 2 != 0, true), (arZ BinOp.and IntKind.i64 v 4 != 0, false), (arZ BinOp.and IntKind.i64 v 8 != 0, false)], []) := by kernel_rfl
theorem ws_k3 (v : Int) : simF envW 1000 10 [] [false, false, true, true] 47 [[true]] [.inl (.int .i64 v)] = some (false, [Sum.inl (Value.string (accB false (accB false (accB false ByteArray.empty (some (oneB 114))) (some (oneB 119))) none))], [(arZ BinOp.and IntKind.i64 v 1 != 0, true), (arZ BinOp.and IntKind.i64 v 2 != 0, true), (arZ BinOp.and IntKind.i64 v 4 != 0, false), (arZ BinOp.and IntKind.i64 v 8 != 0, false)], []) := by kernel_rfl
theorem ws_k4 (v : Int) : simF envW 1000 10 [] [false, true, false, false] 47 [[true]] [.inl (.int .i64 v)] = some (false, [Sum.inl (Value.string (accB false (accB false ByteArray.empty (some (oneB 111))) none))], [(arZ BinOp.and IntKind.i64 v 1 != 0, false), (arZ BinOp.and IntKind.i64 v 2 != 0, false), (arZ BinOp.and IntKind.i64 v 4 != 0, true), (arZ BinOp.and IntKind.i64 v 8 != 0, false)], []) := by kernel_rfl
theorem ws_k5 (v : Int) : simF envW 1000 10 [] [false, true, false, true] 47 [[true]] [.inl (.int .i64 v)] = some (false, [Sum.inl (Value.string (accB false (accB false (accB false ByteArray.empty (some (oneB 111))) (some (oneB 119))) none))], [(arZ BinOp.and IntKind.i64 v 1 != 0, true), (arZ BinOp.and IntKind.i64 v 2 != 0, false), (arZ BinOp.and IntKind.i64 v 4 != 0, true), (arZ BinOp.and IntKind.i64 v 8 != 0, false)], []) := by kernel_rfl
theorem ws_k6 (v : Int) : simF envW 1000 10 [] [false, true, true, false] 47 [[true]] [.inl (.int .i64 v)] = some (false, [Sum.inl (Value.string (accB false (accB false (accB false ByteArray.empty (some (oneB 111))) (some (oneB 114))) none))], [(arZ BinOp.and IntKind.i64 v 1 != 0, false), (arZ BinOp.and IntKind.i64 v 2 != 0, true), (arZ BinOp.and IntKind.i64 v 4 != 0, true), (arZ BinOp.and IntKind.i64 v 8 != 0, false)], []) := by kernel_rfl
theorem ws_k7 (v : Int) : simF envW 1000 10 [] [false, true, true, true] 47 [[true]] [.inl (.int .i64 v)] = some (false, [Sum.inl (Value.string (accB false (accB false (accB false (accB false ByteArray.empty (some (oneB 111))) (some (oneB 114))) (some (oneB 119))) none))], [(arZ BinOp.and IntKind.i64 v 1 != 0, true), (arZ BinOp.and IntKind.i64 v 2 != 0, true), (arZ BinOp.and IntKind.i64 v 4 != 0, true), (arZ BinOp.and IntKind.i64 v 8 != 0, false)], []) := by kernel_rfl
theorem ws_k8 (v : Int) : simF envW 1000 10 [] [true, false, false, false] 47 [[true]] [.inl (.int .i64 v)] = some (false, [Sum.inl (Value.string (accB false (accB false ByteArray.empty (some (oneB 105))) none))], [(arZ BinOp.and IntKind.i64 v 1 != 0, false), (arZ BinOp.and IntKind.i64 v 2 != 0, false), (arZ BinOp.and IntKind.i64 v 4 != 0, false), (arZ BinOp.and IntKind.i64 v 8 != 0, true)], []) := by kernel_rfl
theorem ws_k9 (v : Int) : simF envW 1000 10 [] [true, false, false, true] 47 [[true]] [.inl (.int .i64 v)] = some (false, [Sum.inl (Value.string (accB false (accB false (accB false ByteArray.empty (some (oneB 105))) (some (oneB 119))) none))], [(arZ BinOp.and IntKind.i64 v 1 != 0, true), (arZ BinOp.and IntKind.i64 v 2 != 0, false), (arZ BinOp.and IntKind.i64 v 4 != 0, false), (arZ BinOp.and IntKind.i64 v 8 != 0, true)], []) := by kernel_rfl
theorem ws_k10 (v : Int) : simF envW 1000 10 [] [true, false, true, false] 47 [[true]] [.inl (.int .i64 v)] = some (false, [Sum.inl (Value.string (accB false (accB false (accB false ByteArray.empty (some (oneB 105))) (some (oneB 114))) none))], [(arZ BinOp.and IntKind.i64 v 1 != 0, false), (arZ BinOp.and IntKind.i64 v 2 != 0, true), (arZ BinOp.and IntKind.i64 v 4 != 0, false), (arZ BinOp.and IntKind.i64 v 8 != 0, true)], []) := by kernel_rfl
theorem ws_k11 (v : Int) : simF envW 1000 10 [] [true, false, true, true] 47 [[true]] [.inl (.int .i64 v)] = some (false, [Sum.inl (Value.string (accB false (accB false (accB false (accB false ByteArray.empty (some (oneB 105))) (some (oneB 114))) (some (oneB 119))) none))], [(arZ BinOp.and IntKind.i64 v 1 != 0, true), (arZ BinOp.and IntKind.i64 v 2 != 0, true), (arZ BinOp.and IntKind.i64 v 4 != 0, false), (arZ BinOp.and IntKind.i64 v 8 != 0, true)], []) := by kernel_rfl
theorem ws_k12 (v : Int) : simF envW 1000 10 [] [true, true, false, false] 47 [[true]] [.inl (.int .i64 v)] = some (false, [Sum.inl (Value.string (accB false (accB false (accB false ByteArray.empty (some (oneB 105))) (some (oneB 111))) none))], [(arZ BinOp.and IntKind.i64 v 1 != 0, false), (arZ BinOp.and IntKind.i64 v 2 != 0, false), (arZ BinOp.and IntKind.i64 v 4 != 0, true), (arZ BinOp.and IntKind.i64 v 8 != 0, true)], []) := by kernel_rfl
theorem ws_k13 (v : Int) : simF envW 1000 10 [] [true, true, false, true] 47 [[true]] [.inl (.int .i64 v)] = some (false, [Sum.inl (Value.string (accB false (accB false (accB false (accB false ByteArray.empty (some (oneB 105))) (some (oneB 111))) (some (oneB 119))) none))], [(arZ BinOp.and IntKind.i64 v 1 != 0, true), (arZ BinOp.and IntKind.i64 v 2 != 0, false), (arZ BinOp.and IntKind.i64 v 4 != 0, true), (arZ BinOp.and IntKind.i64 v 8 != 0, true)], []) := by kernel_rfl
theorem ws_k14 (v : Int) : simF envW 1000 10 [] [true, true, true, false] 47 [[true]] [.inl (.int .i64 v)] = some (false, [Sum.inl (Value.string (accB false (accB false (accB false (accB false ByteArray.empty (some (oneB 105))) (some (oneB 111))) (some (oneB 114))) none))], [(arZ BinOp.and IntKind.i64 v 1 != 0, false), (arZ BinOp.and IntKind.i64 v 2 != 0, true), (arZ BinOp.and IntKind.i64 v 4 != 0, true), (arZ BinOp.and IntKind.i64 v 8 != 0, true)], []) := by kernel_rfl
theorem ws_k15 (v : Int) : simF envW 1000 10 [] [true, true, true, true] 47 [[true]] [.inl (.int .i64 v)] = some (false, [Sum.inl (Value.string (accB false (accB false (accB false (accB false (accB false ByteArray.empty (some (oneB 105))) (some (oneB 111))) (some (oneB 114))) (some (oneB 119))) none))], [(arZ BinOp.and IntKind.i64 v 1 != 0, true), (arZ BinOp.and IntKind.i64 v 2 != 0, true), (arZ BinOp.and IntKind.i64 v 4 != 0, true), (arZ BinOp.and IntKind.i64 v 8 != 0, true)], []) := by kernel_rfl
--@s2end
theorem and_bits : ∀ v : Fin 256, (arF .and .i64 (v.val : Nat) 8 != 0) = (((v.val : Nat) : Int) % 16 / 8 % 2 == 1) ∧ (arF .and .i64 (v.val : Nat) 4 != 0) = (((v.val : Nat) : Int) % 16 / 4 % 2 == 1) ∧ (arF .and .i64 (v.val : Nat) 2 != 0) = (((v.val : Nat) : Int) % 16 / 2 % 2 == 1) ∧ (arF .and .i64 (v.val : Nat) 1 != 0) = (((v.val : Nat) : Int) % 16 % 2 == 1) := by decide +kernel
theorem side_of {n : Int} {a b c d : Bool} (h8 : (n / 8 % 2 == 1) = a) (h4 : (n / 4 % 2 == 1) = b) (h2 : (n / 2 % 2 == 1) = c) (h1 : (n % 2 == 1) = d) :
    sideL n = (let l := (bif a then [105] else []) ++ (bif b then [111] else []) ++ (bif c then [114] else []) ++ (bif d then [119] else []); bif l.isEmpty then [48] else l) := by
  unfold sideL; rw [h8, h4, h2, h1]
def b256 (v : Int) : Bool := decide (0 ≤ v ∧ v < 256)
theorem writtenSet_ret (v : Int) (hv : b256 v = true) (w : World) : Ret Tryz.prog 47 #[.int .i64 v] (.string (sideZ (v % 16))) w := by
  simp [b256] at hv
  obtain ⟨m, rfl⟩ := Int.eq_ofNat_of_zero_le hv.1
  obtain ⟨q8, q4, q2, q1⟩ := and_bits ⟨m, by omega⟩
  simp only [← arZ_eq] at q8 q4 q2 q1
  generalize hn : ((m : Nat) : Int) = v at *
  cases e8 : (v % 16 / 8 % 2 == 1) <;> cases e4 : (v % 16 / 4 % 2 == 1) <;> cases e2 : (v % 16 / 2 % 2 == 1) <;> cases e1 : (v % 16 % 2 == 1)
  all_goals
    have h8 := q8.trans e8
    have h4 := q4.trans e4
    have h2 := q2.trans e2
    have h1 := q1.trans e1
  · exact (ret6 envW_ok _ _ (ws_k0 v) (all_cons h1 <| all_cons h2 <| all_cons h4 <| all_cons h8 all_nil) Tryz.func47 w [.int .i64 v] (GlobOk.none w) ⟨rfl, trivial⟩).of_eq (by congr 1; exact toL_inj (by rw [sideZ_eq, side_of e8 e4 e2 e1]; rfl))
  · exact (ret6 envW_ok _ _ (ws_k1 v) (all_cons h1 <| all_cons h2 <| all_cons h4 <| all_cons h8 all_nil) Tryz.func47 w [.int .i64 v] (GlobOk.none w) ⟨rfl, trivial⟩).of_eq (by congr 1; exact toL_inj (by rw [sideZ_eq, side_of e8 e4 e2 e1]; rfl))
  · exact (ret6 envW_ok _ _ (ws_k2 v) (all_cons h1 <| all_cons h2 <| all_cons h4 <| all_cons h8 all_nil) Tryz.func47 w [.int .i64 v] (GlobOk.none w) ⟨rfl, trivial⟩).of_eq (by congr 1; exact toL_inj (by rw [sideZ_eq, side_of e8 e4 e2 e1]; rfl))
  · exact (ret6 envW_ok _ _ (ws_k3 v) (all_cons h1 <| all_cons h2 <| all_cons h4 <| all_cons h8 all_nil) Tryz.func47 w [.int .i64 v] (GlobOk.none w) ⟨rfl, trivial⟩).of_eq (by congr 1; exact toL_inj (by rw [sideZ_eq, side_of e8 e4 e2 e1]; rfl))
  · exact (ret6 envW_ok _ _ (ws_k4 v) (all_cons h1 <| all_cons h2 <| all_cons h4 <| all_cons h8 all_nil) Tryz.func47 w [.int .i64 v] (GlobOk.none w) ⟨rfl, trivial⟩).of_eq (by congr 1; exact toL_inj (by rw [sideZ_eq, side_of e8 e4 e2 e1]; rfl))
  · exact (ret6 envW_ok _ _ (ws_k5 v) (all_cons h1 <| all_cons h2 <| all_cons h4 <| all_cons h8 all_nil) Tryz.func47 w [.int .i64 v] (GlobOk.none w) ⟨rfl, trivial⟩).of_eq (by congr 1; exact toL_inj (by rw [sideZ_eq, side_of e8 e4 e2 e1]; rfl))
  · exact (ret6 envW_ok _ _ (ws_k6 v) (all_cons h1 <| all_cons h2 <| all_cons h4 <| all_cons h8 all_nil) Tryz.func47 w [.int .i64 v] (GlobOk.none w) ⟨rfl, trivial⟩).of_eq (by congr 1; exact toL_inj (by rw [sideZ_eq, side_of e8 e4 e2 e1]; rfl))
  · exact (ret6 envW_ok _ _ (ws_k7 v) (all_cons h1 <| all_cons h2 <| all_cons h4 <| all_cons h8 all_nil) Tryz.func47 w [.int .i64 v] (GlobOk.none w) ⟨rfl, trivial⟩).of_eq (by congr 1; exact toL_inj (by rw [sideZ_eq, side_of e8 e4 e2 e1]; rfl))
  · exact (ret6 envW_ok _ _ (ws_k8 v) (all_cons h1 <| all_cons h2 <| all_cons h4 <| all_cons h8 all_nil) Tryz.func47 w [.int .i64 v] (GlobOk.none w) ⟨rfl, trivial⟩).of_eq (by congr 1; exact toL_inj (by rw [sideZ_eq, side_of e8 e4 e2 e1]; rfl))
  · exact (ret6 envW_ok _ _ (ws_k9 v) (all_cons h1 <| all_cons h2 <| all_cons h4 <| all_cons h8 all_nil) Tryz.func47 w [.int .i64 v] (GlobOk.none w) ⟨rfl, trivial⟩).of_eq (by congr 1; exact toL_inj (by rw [sideZ_eq, side_of e8 e4 e2 e1]; rfl))
  · exact (ret6 envW_ok _ _ (ws_k10 v) (all_cons h1 <| all_cons h2 <| all_cons h4 <| all_cons h8 all_nil) Tryz.func47 w [.int .i64 v] (GlobOk.none w) ⟨rfl, trivial⟩).of_eq (by congr 1; exact toL_inj (by rw [sideZ_eq, side_of e8 e4 e2 e1]; rfl))
  · exact (ret6 envW_ok _ _ (ws_k11 v) (all_cons h1 <| all_cons h2 <| all_cons h4 <| all_cons h8 all_nil) Tryz.func47 w [.int .i64 v] (GlobOk.none w) ⟨rfl, trivial⟩).of_eq (by congr 1; exact toL_inj (by rw [sideZ_eq, side_of e8 e4 e2 e1]; rfl))
  · exact (ret6 envW_ok _ _ (ws_k12 v) (all_cons h1 <| all_cons h2 <| all_cons h4 <| all_cons h8 all_nil) Tryz.func47 w [.int .i64 v] (GlobOk.none w) ⟨rfl, trivial⟩).of_eq (by congr 1; exact toL_inj (by rw [sideZ_eq, side_of e8 e4 e2 e1]; rfl))
  · exact (ret6 envW_ok _ _ (ws_k13 v) (all_cons h1 <| all_cons h2 <| all_cons h4 <| all_cons h8 all_nil) Tryz.func47 w [.int .i64 v] (GlobOk.none w) ⟨rfl, trivial⟩).of_eq (by congr 1; exact toL_inj (by rw [sideZ_eq, side_of e8 e4 e2 e1]; rfl))
  · exact (ret6 envW_ok _ _ (ws_k14 v) (all_cons h1 <| all_cons h2 <| all_cons h4 <| all_cons h8 all_nil) Tryz.func47 w [.int .i64 v] (GlobOk.none w) ⟨rfl, trivial⟩).of_eq (by congr 1; exact toL_inj (by rw [sideZ_eq, side_of e8 e4 e2 e1]; rfl))
  · exact (ret6 envW_ok _ _ (ws_k15 v) (all_cons h1 <| all_cons h2 <| all_cons h4 <| all_cons h8 all_nil) Tryz.func47 w [.int .i64 v] (GlobOk.none w) ⟨rfl, trivial⟩).of_eq (by congr 1; exact toL_inj (by rw [sideZ_eq, side_of e8 e4 e2 e1]; rfl))
noncomputable def decWset : List Value → Option (Value × Bool)
  | [.int .i64 v] => some (.string (sideZ (v % 16)), pre (b256 v))
  | _ => none
noncomputable def pWset : PTab := prowD 47 decWset
theorem pWset_ok {gl : Gl} : PTabOk Tryz.prog gl pWset := .rowD fun args u hd w hG => by
  unfold decWset at hd
  split at hd
  · rename_i v
    simp only [Option.some.injEq, Prod.mk.injEq, pre] at hd
    obtain ⟨rfl, hc⟩ := hd
    exact writtenSet_ret v hc w
  · cases hd
end Go.Proofs.YtgcglmnbkilfhaaGreatDoor
