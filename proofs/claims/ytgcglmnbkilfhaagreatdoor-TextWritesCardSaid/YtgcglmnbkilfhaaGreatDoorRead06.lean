/- Contracts of package text (layer 6), the side that reads: parts of strings, names, sets, registers, numbers, one operand. -/
import Derived.Test.YtgcglmnbkilfhaaGreatDoorWrite06
namespace Go.Proofs.YtgcglmnbkilfhaaGreatDoor
open Go.RowKit Sim S2
set_option linter.unusedVariables false
set_option linter.unusedSimpArgs false

theorem toL_mk (l : List UInt8) : toL ⟨l.toArray⟩ = l := by simp [toL]
theorem mk_toL (s : ByteArray) : (⟨(toL s).toArray⟩ : ByteArray) = s := toL_inj (toL_mk _)
/-! ### What stands ahead of a space and behind it -/
theorem idZ_ex : ∃ g : ByteArray → Int, ∀ s, g s = Lib.indexByte (toL s) 32 := ⟨_, fun _ => rfl⟩
noncomputable def idZ : ByteArray → Int := Classical.choose idZ_ex
theorem idZ_eq (s : ByteArray) : idZ s = Lib.indexByte (toL s) 32 := Classical.choose_spec idZ_ex s
theorem index_bnd (c : UInt8) : ∀ l : List UInt8, -1 ≤ Lib.indexByte l c ∧ Lib.indexByte l c < l.length
  | [] => by simp [Lib.indexByte]
  | b :: l => by
    have h := index_bnd c l
    unfold Lib.indexByte
    by_cases hb : (b == c) = true
    · rw [if_pos hb]; simp
    · rw [if_neg hb]
      by_cases h1 : (Lib.indexByte l c == -1) = true
      · rw [if_pos h1]; simp; omega
      · rw [if_neg h1]
        have : Lib.indexByte l c ≠ -1 := fun e => h1 (by rw [e]; rfl)
        simp; omega
theorem index_at (c : UInt8) : ∀ a b : List UInt8, c ∉ a → Lib.indexByte (a ++ c :: b) c = a.length
  | [], b, _ => by simp [Lib.indexByte]
  | x :: a, b, h => by
    have ih := index_at c a b (fun hc => h (List.mem_cons_of_mem _ hc))
    have hx : (x == c) = false := by
      refine Bool.eq_false_iff.mpr fun e => h ?_
      rw [eq_of_beq e]; exact List.mem_cons_self
    rw [List.cons_append]
    unfold Lib.indexByte
    rw [hx, if_neg (by simp), ih, if_neg (by simp)]
    simp
theorem index_no (c : UInt8) : ∀ a : List UInt8, c ∉ a → Lib.indexByte a c = -1
  | [], _ => rfl
  | x :: a, h => by
    have ih := index_no c a (fun hc => h (List.mem_cons_of_mem _ hc))
    have hx : (x == c) = false := by
      refine Bool.eq_false_iff.mpr fun e => h ?_
      rw [eq_of_beq e]; exact List.mem_cons_self
    unfold Lib.indexByte
    rw [hx, if_neg (by simp), ih]; rfl
def isSp (s : ByteArray) : Bool := s.data.toList == [32]
def decSpI : List Value → Option ByteArray
  | [.string s, .string p] => bif isSp p then some s else none
  | _ => none
noncomputable def tSpI : Tab := row 73 decSpI fun s => .int .i64 (idZ s)
theorem tSpI_ok {gl : Gl} : TabOk Tryz.prog gl tSpI := .row fun args a hd w hG => by
  unfold decSpI at hd
  split at hd
  · rename_i s p hs
    cases hb : isSp p
    · rw [hb] at hd; cases hd
    · rw [hb] at hd
      simp only [cond_true, Option.some.injEq] at hd
      subst hd
      have hp : p = ⟨#[32]⟩ := toL_inj (eq_of_beq hb)
      subst hp
      rw [args_eq hs]
      exact (Any.stringslite_Index_one lays219 s 32 w).mono fun r w' ⟨h1, h2⟩ => ⟨by rw [h1, idZ_eq]; rfl, h2 ▸ Below.refl _ _⟩
  · cases hd
noncomputable def envC (gl : Gl) : S2.Env := envq Tryz.prog gl tSpI noP noL
theorem envC_ok (gl : Gl) : CallOk (envC gl) := envq_ok tSpI_ok (.none _ _) (.none _ _)
--@s2 ct "(gl : Gl) (s : ByteArray)" "simF (envC gl) 1000 10 [] $O 27 [[true], []] [.inl (.string s), .inl (.string ⟨#[32]⟩)]" y:t n:f
theorem ct_y (gl : Gl) (s : ByteArray) : simF (envC gl) 1000 10 [] [true] 27 [[true], []] [.inl (.string s), .inl (.string ⟨#[32]⟩)] = some (false, [Sum.inl (Value.tuple { toList := [Value.string (extZ s 0 (idZ s)), Value.string (extZ s (idZ s + 1) (s.size : Int)), Value.bool true] })], [(pre (decide (0 ≤ idZ s + 1 ∧ idZ s + 1 ≤ (s.size : Int) ∧ (s.size : Int) ≤ (s.size : Int))), true), (pre (inI (idZ s + 1)), true), (pre (decide ((0 : Int) ≤ 0 ∧ 0 ≤ idZ s ∧ idZ s ≤ (s.size : Int))), true), (decide (idZ s ≥ 0), true)], []) := by kernel_rfl
theorem ct_n (gl : Gl) (s : ByteArray) : simF (envC gl) 1000 10 [] [false] 27 [[true], []] [.inl (.string s), .inl (.string ⟨#[32]⟩)] = some (false, [Sum.inl (Value.tuple { toList := [Value.string s, Value.string (⟨#[]⟩ : ByteArray), Value.bool false] })], [(decide (idZ s ≥ 0), false)], []) := by kernel_rfl
--@s2end
theorem cutA_ex : ∃ g : ByteArray → ByteArray, ∀ s, g s = if 0 ≤ idZ s then extZ s 0 (idZ s) else s := ⟨_, fun _ => rfl⟩
noncomputable def cutA : ByteArray → ByteArray := Classical.choose cutA_ex
theorem cutB_ex : ∃ g : ByteArray → ByteArray, ∀ s, g s = if 0 ≤ idZ s then extZ s (idZ s + 1) s.size else ⟨#[]⟩ := ⟨_, fun _ => rfl⟩
noncomputable def cutB : ByteArray → ByteArray := Classical.choose cutB_ex
theorem cutF_ex : ∃ g : ByteArray → Bool, ∀ s, g s = decide (0 ≤ idZ s) := ⟨_, fun _ => rfl⟩
noncomputable def cutF : ByteArray → Bool := Classical.choose cutF_ex
theorem idZ_bnd (s : ByteArray) : -1 ≤ idZ s ∧ idZ s < s.size := by rw [idZ_eq]; exact index_bnd 32 (toL s)
def smallB (s : ByteArray) : Bool := decide (s.size ≤ 1000000)
theorem cut_ret {gl : Gl} (s : ByteArray) (hs : smallB s = true) (w : World) (hG : GlobOk gl w) : Ret Tryz.prog 27 #[.string s, .string ⟨#[32]⟩] (.tuple #[.string (cutA s), .string (cutB s), .bool (cutF s)]) w := by
  have hb := idZ_bnd s
  simp [smallB] at hs
  by_cases h : 0 ≤ idZ s
  · refine (ret6 (envC_ok gl) _ _ (ct_y gl s) ?_ Tryz.func27 w [.string s, .string ⟨#[32]⟩] hG ⟨rfl, rfl, trivial⟩).of_eq ?_
    · (repeat refine all_cons (by
        first
          | (refine ob_inI ?_; omega)
          | (unfold pre; refine decide_eq_true ?_; omega)
          | (refine ob_yes ?_; omega)) ?_)
      exact all_nil
    · rw [cutA, Classical.choose_spec cutA_ex s, cutB, Classical.choose_spec cutB_ex s, cutF, Classical.choose_spec cutF_ex s, if_pos h, if_pos h, decide_eq_true h]
  · refine (ret6 (envC_ok gl) _ _ (ct_n gl s) ?_ Tryz.func27 w [.string s, .string ⟨#[32]⟩] hG ⟨rfl, rfl, trivial⟩).of_eq ?_
    · (repeat refine all_cons (by
        first
          | (refine ob_no ?_; omega)) ?_)
      exact all_nil
    · rw [cutA, Classical.choose_spec cutA_ex s, cutB, Classical.choose_spec cutB_ex s, cutF, Classical.choose_spec cutF_ex s, if_neg h, if_neg h, decide_eq_false h]
theorem tsZ_ex : ∃ g : ByteArray → ByteArray → ByteArray, ∀ s p, g s p = ⟨(Lib.trimSuffix (toL s) (toL p)).toArray⟩ := ⟨_, fun _ _ => rfl⟩
noncomputable def tsZ : ByteArray → ByteArray → ByteArray := Classical.choose tsZ_ex
theorem tsZ_eq (s p : ByteArray) : toL (tsZ s p) = Lib.trimSuffix (toL s) (toL p) := by rw [tsZ, Classical.choose_spec tsZ_ex]; exact toL_mk _
theorem hsZ_ex : ∃ g : ByteArray → ByteArray → Bool, ∀ s p, g s p = Lib.hasSuffix (toL s) (toL p) := ⟨_, fun _ _ => rfl⟩
noncomputable def hsZ : ByteArray → ByteArray → Bool := Classical.choose hsZ_ex
theorem hsZ_eq (s p : ByteArray) : hsZ s p = Lib.hasSuffix (toL s) (toL p) := Classical.choose_spec hsZ_ex s p
theorem tsZ_size (s p : ByteArray) : (tsZ s p).size ≤ s.size := by
  rw [toL_size, tsZ_eq, toL_size]
  unfold Lib.trimSuffix
  split
  · rw [List.length_take]; omega
  · omega
noncomputable def decCsx : List Value → Option (Value × Bool)
  | [.string s, .string p] => some (.tuple #[.string (tsZ s p), .bool (hsZ s p)], pre (smallB s))
  | _ => none
noncomputable def pCsx : PTab := prowD 52 decCsx
theorem pCsx_ok {gl : Gl} : PTabOk Tryz.prog gl pCsx := .rowD fun args u hd w hG => by
  unfold decCsx at hd
  split at hd
  · rename_i s p
    simp only [Option.some.injEq, Prod.mk.injEq, pre] at hd
    obtain ⟨rfl, hc⟩ := hd
    simp [smallB] at hc
    refine (Any.strings_CutSuffix lays104 s p w (by omega)).mono fun r w' ⟨h1, h2⟩ => ⟨?_, h2 ▸ Below.refl _ _⟩
    rw [h1, hsZ_eq]
    have e : tsZ s p = ⟨(Lib.trimSuffix (toL s) (toL p)).toArray⟩ := toL_inj ((tsZ_eq s p).trans (toL_mk _).symm)
    rw [e]; rfl
  · cases hd
def sAqrl : ByteArray := ⟨#[46, 97, 113, 114, 108]⟩
def sAq : ByteArray := ⟨#[46, 97, 113]⟩
def sRl : ByteArray := ⟨#[46, 114, 108]⟩
noncomputable def envN (es er : Value) : S2.Env := envq Tryz.prog (gl6 es er) tFind pCsx noL
theorem envN_ok (es er : Value) : CallOk (envN es er) := envq_ok tFind6_ok pCsx_ok (.none _ _)
--@s2 nm "(es er : Value) (a : ByteArray)" "simF (envN es er) 1000 10 [] $O 28 [[true]] [.inl (.string a)]" y:tt n:ff
theorem nm_y (es er : Value) (a : ByteArray) : simF (envN es er) 1000 10 [] [true, true] 28 [[true]] [.inl (.string a)] = some (false, [Sum.inl (Value.agg { toList := [Value.int IntKind.i64 ↑(findN (tsZ (tsZ (tsZ a (⟨#[46, 97, 113, 114, 108]⟩ : ByteArray)) (⟨#[46, 97, 113]⟩ : ByteArray)) (⟨#[46, 114, 108]⟩ : ByteArray))), Value.int IntKind.i64 0, Value.int IntKind.i64 0, Value.int IntKind.i64 0, Value.int IntKind.i64 0, Value.bool true, Value.bool true] })], [(hsZ a (⟨#[46, 97, 113, 114, 108]⟩ : ByteArray), true), (hsZ a (⟨#[46, 97, 113, 114, 108]⟩ : ByteArray), true), (pre (smallB (tsZ (tsZ a (⟨#[46, 97, 113, 114, 108]⟩ : ByteArray)) (⟨#[46, 97, 113]⟩ : ByteArray))), true), (pre (smallB (tsZ a (⟨#[46, 97, 113, 114, 108]⟩ : ByteArray))), true), (pre (smallB a), true)], []) := by kernel_rfl
theorem nm_n (es er : Value) (a : ByteArray) : simF (envN es er) 1000 10 [] [false, false] 28 [[true]] [.inl (.string a)] = some (false, [Sum.inl (Value.agg { toList := [Value.int IntKind.i64 ↑(findN (tsZ (tsZ (tsZ a (⟨#[46, 97, 113, 114, 108]⟩ : ByteArray)) (⟨#[46, 97, 113]⟩ : ByteArray)) (⟨#[46, 114, 108]⟩ : ByteArray))), Value.int IntKind.i64 0, Value.int IntKind.i64 0, Value.int IntKind.i64 0, Value.int IntKind.i64 0, Value.bool (hsZ (tsZ a (⟨#[46, 97, 113, 114, 108]⟩ : ByteArray)) (⟨#[46, 97, 113]⟩ : ByteArray)), Value.bool (hsZ (tsZ (tsZ a (⟨#[46, 97, 113, 114, 108]⟩ : ByteArray)) (⟨#[46, 97, 113]⟩ : ByteArray)) (⟨#[46, 114, 108]⟩ : ByteArray))] })], [(hsZ a (⟨#[46, 97, 113, 114, 108]⟩ : ByteArray), false), (hsZ a (⟨#[46, 97, 113, 114, 108]⟩ : ByteArray), false), (pre (smallB (tsZ (tsZ a (⟨#[46, 97, 113, 114, 108]⟩ : ByteArray)) (⟨#[46, 97, 113]⟩ : ByteArray))), true), (pre (smallB (tsZ a (⟨#[46, 97, 113, 114, 108]⟩ : ByteArray))), true), (pre (smallB a), true)], []) := by kernel_rfl
--@s2end
noncomputable def namN (a : ByteArray) : In := ⟨(findN (tsZ (tsZ (tsZ a sAqrl) sAq) sRl) : Nat), 0, 0, 0, 0, hsZ a sAqrl || hsZ (tsZ a sAqrl) sAq, hsZ a sAqrl || hsZ (tsZ (tsZ a sAqrl) sAq) sRl⟩
theorem named_ret (es er : Value) (a : ByteArray) (ha : smallB a = true) (w : World) (hG : GlobOk (gl6 es er) w) : Ret Tryz.prog 28 #[.string a] (inV (namN a)) w := by
  simp [smallB] at ha
  have s1 := tsZ_size a sAqrl
  have s2 := tsZ_size (tsZ a sAqrl) sAq
  have o1 : pre (smallB a) = true := by unfold pre smallB; exact decide_eq_true ha
  have o2 : pre (smallB (tsZ a sAqrl)) = true := by unfold pre smallB; exact decide_eq_true (by omega)
  have o3 : pre (smallB (tsZ (tsZ a sAqrl) sAq)) = true := by unfold pre smallB; exact decide_eq_true (by omega)
  cases hb : hsZ a sAqrl
  · refine (ret6 (envN_ok es er) _ _ (nm_n es er a) ?_ Tryz.func28 w [.string a] hG ⟨rfl, trivial⟩).of_eq ?_
    · (repeat refine all_cons (by first | exact o1 | exact o2 | exact o3 | exact hb) ?_)
      exact all_nil
    · unfold namN inV; rw [hb]; rfl
  · refine (ret6 (envN_ok es er) _ _ (nm_y es er a) ?_ Tryz.func28 w [.string a] hG ⟨rfl, trivial⟩).of_eq ?_
    · (repeat refine all_cons (by first | exact o1 | exact o2 | exact o3 | exact hb) ?_)
      exact all_nil
    · unfold namN inV; rw [hb]; rfl
theorem nam_all : ∀ (n : Fin 88) (p q : Bool), n.val = 0 ∨ (Lib.trimSuffix (Lib.trimSuffix (Lib.trimSuffix (headN n.val p q) (toL sAqrl)) (toL sAq)) (toL sRl) = toL (opS n.val) ∧ (Lib.hasSuffix (headN n.val p q) (toL sAqrl) || Lib.hasSuffix (Lib.trimSuffix (headN n.val p q) (toL sAqrl)) (toL sAq)) = p ∧
    (Lib.hasSuffix (headN n.val p q) (toL sAqrl) || Lib.hasSuffix (Lib.trimSuffix (Lib.trimSuffix (headN n.val p q) (toL sAqrl)) (toL sAq)) (toL sRl)) = q) := by decide +kernel
theorem namN_head {a : ByteArray} {op : Int} {p q : Bool} (ho : okB op = true) (h : toL a = headL op p q) : namN a = ⟨op, 0, 0, 0, 0, p, q⟩ := by
  rcases op_cases op with ⟨n, h1, h2, rfl⟩ | hb
  · rw [headL_nat] at h
    rcases nam_all ⟨n, h2⟩ p q with h0 | ⟨k1, k2, k3⟩
    · simp at h0; omega
    · simp only at k1 k2 k3
      have e : tsZ (tsZ (tsZ a sAqrl) sAq) sRl = opS n := toL_inj (by rw [tsZ_eq, tsZ_eq, tsZ_eq, h]; exact k1)
      unfold namN
      simp only [hsZ_eq, tsZ_eq, h, k2, k3, e, findN_own n h2]
  · rw [okB_out hb] at ho; cases ho
/-! ### Sets -/
theorem hcZ_ex : ∃ g : ByteArray → Int → Bool, ∀ s c, g s c = decide (0 ≤ Lib.indexByte (toL s) c.toNat.toUInt8) := ⟨_, fun _ _ => rfl⟩
noncomputable def hcZ : ByteArray → Int → Bool := Classical.choose hcZ_ex
theorem hcZ_eq (s : ByteArray) (c : Int) : hcZ s c = decide (0 ≤ Lib.indexByte (toL s) c.toNat.toUInt8) := Classical.choose_spec hcZ_ex s c
theorem rsZ_ex : ∃ g : ByteArray → Int, ∀ s, g s = (bif hcZ s 105 then 8 else 0) + (bif hcZ s 111 then 4 else 0) + (bif hcZ s 114 then 2 else 0) + (bif hcZ s 119 then 1 else 0) := ⟨_, fun _ => rfl⟩
noncomputable def rsZ : ByteArray → Int := Classical.choose rsZ_ex
theorem rsZ_eq (s : ByteArray) : rsZ s = (bif hcZ s 105 then 8 else 0) + (bif hcZ s 111 then 4 else 0) + (bif hcZ s 114 then 2 else 0) + (bif hcZ s 119 then 1 else 0) := Classical.choose_spec rsZ_ex s
theorem rs_all : ∀ n : Fin 16, ((bif decide (0 ≤ Lib.indexByte (sideL (n.val : Nat)) 105) then 8 else 0) + (bif decide (0 ≤ Lib.indexByte (sideL (n.val : Nat)) 111) then 4 else 0) + (bif decide (0 ≤ Lib.indexByte (sideL (n.val : Nat)) 114) then 2 else 0) + (bif decide (0 ≤ Lib.indexByte (sideL (n.val : Nat)) 119) then 1 else 0) : Int) = (n.val : Nat) := by decide +kernel
theorem rsZ_side {x : ByteArray} {n : Int} (h0 : 0 ≤ n) (h1 : n < 16) (h : toL x = sideL n) : rsZ x = n := by
  obtain ⟨n, rfl⟩ := Int.eq_ofNat_of_zero_le h0
  rw [rsZ_eq]
  simp only [hcZ_eq, h]
  exact rs_all ⟨n, by omega⟩
noncomputable def decHas : List Value → Option (Value × Bool)
  | [.string s, .int .i32 c] => some (.bool (hcZ s c), pre (decide (0 ≤ c ∧ c < 128)))
  | _ => none
noncomputable def pHas : PTab := prowD 80 decHas
theorem pHas_ok {gl : Gl} : PTabOk Tryz.prog gl pHas := .rowD fun args u hd w hG => by
  unfold decHas at hd
  split at hd
  · rename_i s c
    simp only [Option.some.injEq, Prod.mk.injEq, pre, decide_eq_true_eq] at hd
    obtain ⟨rfl, hc⟩ := hd
    refine (Any.strings_ContainsRune_ascii lays151 s c w hc.1 hc.2).mono fun r w' ⟨h1, h2⟩ => ⟨?_, h2 ▸ Below.refl _ _⟩
    rw [h1, hcZ_eq]; rfl
  · cases hd
noncomputable def envR (es er : Value) : S2.Env := envq Tryz.prog (gl6 es er) noT pHas noL
theorem envR_ok (es er : Value) : CallOk (envR es er) := envq_ok (.none _ _) pHas_ok (.none _ _)
--@s2 rs "(es er : Value) (x : ByteArray)" "simF (envR es er) 1000 10 [] $O 60 [[true]] [.inl (.string x)]" k0:ffff k1:ffft k2:fftf k3:fftt k4:ftff k5:ftft k6:fttf k7:fttt k8:tfff k9:tfft k10:tftf k11:tftt k12:ttff k13:ttft k14:tttf k15:tttt
theorem rs_k0 (es er : Value) (x : ByteArray) : simF (envR es er) 1000 10 [] [false, false, false, false] 60 [[true]] [.inl (.string x)] = some (false, [Sum.inl (Value.int IntKind.i64 0)], [(hcZ x 119, false), (pre (decide (0 ≤ 119 ∧ 119 < 128)), true), (hcZ x 114, false), (pre (decide (0 ≤ 114 ∧ 114 < 128)), true), (hcZ x 111, false), (pre (decide (0 ≤ 111 ∧ 111 < 128)), true), (hcZ x 105, false), (pre (decide (0 ≤ 105 ∧ 105 < 128)), true)], []) := by kernel_rfl
theorem rs_k1 (es er : Value) (x : ByteArray) : simF (envR es er) 1000 10 [] [false, false, false, true] 60 [[true]] [.inl (.string x)] = some (false, [Sum.inl (Value.int IntKind.i64 1)], [(hcZ x 119, true), (pre (decide (0 ≤ 119 ∧ 119 < 128)), true), (hcZ x 114, false), (pre (decide (0 ≤ 114 ∧ 114 < 128)), true), (hcZ x 111, false), (pre (decide (0 ≤ 111 ∧ 111 < 128)), true), (hcZ x 105, false), (pre (decide (0 ≤ 105 ∧ 105 < 128)), true)], []) := by kernel_rfl
theorem rs_k2 (es er : Value) (x : ByteArray) : simF (envR es er) 1000 10 [] [false, false, true, false] 60 [[true]] [.inl (.string x)] = some (false, [Sum.inl (Value.int IntKind.i64 2)], [(hcZ x 119, false), (pre (decide (0 ≤ 119 ∧ 119 < 128)), true), (hcZ x 114, true), (pre (decide (0 ≤ 114 ∧ 114 < 128)), true), (hcZ x 111, false), (pre (decide (0 ≤ 111 ∧ 111 < 128)), true), (hcZ x 105, false), (pre (decide (0 ≤ 105 ∧ 105 < 128)), true)], []) := by kernel_rfl
theorem rs_k3 (es er : Value) (x : ByteArray) : simF (envR es er) 1000 10 [] [false, false, true, true] 60 [[true]] [.inl (.string x)] = some (false, [Sum.inl (Value.int IntKind.i64 3)], [(hcZ x 119, true), (pre (decide (0 ≤ 119 ∧ 119 < 128)), true), (hcZ x 114, true), (pre (decide (0 ≤ 114 ∧ 114 < 128)), true), (hcZ x 111, false), (pre (decide (0 ≤ 111 ∧ 111 < 128)), true), (hcZ x 105, false), (pre (decide (0 ≤ 105 ∧ 105 < 128)), true)], []) := by kernel_rfl
theorem rs_k4 (es er : Value) (x : ByteArray) : simF (envR es er) 1000 10 [] [false, true, false, false] 60 [[true]] [.inl (.string x)] = some (false, [Sum.inl (Value.int IntKind.i64 4)], [(hcZ x 119, false), (pre (decide (0 ≤ 119 ∧ 119 < 128)), true), (hcZ x 114, false), (pre (decide (0 ≤ 114 ∧ 114 < 128)), true), (hcZ x 111, true), (pre (decide (0 ≤ 111 ∧ 111 < 128)), true), (hcZ x 105, false), (pre (decide (0 ≤ 105 ∧ 105 < 128)), true)], []) := by kernel_rfl
theorem rs_k5 (es er : Value) (x : ByteArray) : simF (envR es er) 1000 10 [] [false, true, false, true] 60 [[true]] [.inl (.string x)] = some (false, [Sum.inl (Value.int IntKind.i64 5)], [(hcZ x 119, true), (pre (decide (0 ≤ 119 ∧ 119 < 128)), true), (hcZ x 114, false), (pre (decide (0 ≤ 114 ∧ 114 < 128)), true), (hcZ x 111, true), (pre (decide (0 ≤ 111 ∧ 111 < 128)), true), (hcZ x 105, false), (pre (decide (0 ≤ 105 ∧ 105 < 128)), true)], []) := by kernel_rfl
theorem rs_k6 (es er : Value) (x : ByteArray) : simF (envR es er) 1000 10 [] [false, true, true, false] 60 [[true]] [.inl (.string x)] = some (false, [Sum.inl (Value.int IntKind.i64 6)], [(hcZ x 119, false), (pre (decide (0 ≤ 119 ∧ 119 < 128)), true), (hcZ x 114, true), (pre (decide (0 ≤ 114 ∧ 114 < 128)), true), (hcZ x 111, true), (pre (decide (0 ≤ 111 ∧ 111 < 128)), true), (hcZ x 105, false), (pre (decide (0 ≤ 105 ∧ 105 < 128)), true)], []) := by kernel_rfl
theorem rs_k7 (es er : Value) (x : ByteArray) : simF (envR es er) 1000 10 [] [false, true, true, true] 60 [[true]] [.inl (.string x)] = some (false, [Sum.inl (Value.int IntKind.i64 7)], [(hcZ x 119, true), (pre (decide (0 ≤ 119 ∧ 119 < 128)), true), (hcZ x 114, true), (pre (decide (0 ≤ 114 ∧ 114 < 128)), true), (hcZ x 111, true), (pre (decide (0 ≤ 111 ∧ 111 < 128)), true), (hcZ x 105, false), (pre (decide (0 ≤ 105 ∧ 105 < 128)), true)], []) := by kernel_rfl
theorem rs_k8 (es er : Value) (x : ByteArray) : simF (envR es er) 1000 10 [] [true, false, false, false] 60 [[true]] [.inl (.string x)] = some (false, [Sum.inl (Value.int IntKind.i64 8)], [(hcZ x 119, false), (pre (decide (0 ≤ 119 ∧ 119 < 128)), true), (hcZ x 114, false), (pre (decide (0 ≤ 114 ∧ 114 < 128)), true), (hcZ x 111, false), (pre (decide (0 ≤ 111 ∧ 111 < 128)), true), (hcZ x 105, true), (pre (decide (0 ≤ 105 ∧ 105 < 128)), true)], []) := by kernel_rfl
theorem rs_k9 (es er : Value) (x : ByteArray) : simF (envR es er) 1000 10 [] [true, false, false, true] 60 [[true]] [.inl (.string x)] = some (false, [Sum.inl (Value.int IntKind.i64 9)], [(hcZ x 119, true), (pre (decide (0 ≤ 119 ∧ 119 < 128)), true), (hcZ x 114, false), (pre (decide (0 ≤ 114 ∧ 114 < 128)), true), (hcZ x 111, false), (pre (decide (0 ≤ 111 ∧ 111 < 128)), true), (hcZ x 105, true), (pre (decide (0 ≤ 105 ∧ 105 < 128)), true)], []) := by kernel_rfl
theorem rs_k10 (es er : Value) (x : ByteArray) : simF (envR es er) 1000 10 [] [true, false, true, false] 60 [[true]] [.inl (.string x)] = some (false, [Sum.inl (Value.int IntKind.i64 10)], [(hcZ x 119, false), (pre (decide (0 ≤ 119 ∧ 119 < 128)), true), (hcZ x 114, true), (pre (decide (0 ≤ 114 ∧ 114 < 128)), true), (hcZ x 111, false), (pre (decide (0 ≤ 111 ∧ 111 < 128)), true), (hcZ x 105, true), (pre (decide (0 ≤ 105 ∧ 105 < 128)), true)], []) := by kernel_rfl
theorem rs_k11 (es er : Value) (x : ByteArray) : simF (envR es er) 1000 10 [] [true, false, true, true] 60 [[true]] [.inl (.string x)] = some (false, [Sum.inl (Value.int IntKind.i64 11)], [(hcZ x 119, true), (pre (decide (0 ≤ 119 ∧ 119 < 128)), true), (hcZ x 114, true), (pre (decide (0 ≤ 114 ∧ 114 < 128)), true), (hcZ x 111, false), (pre (decide (0 ≤ 111 ∧ 111 < 128)), true), (hcZ x 105, true), (pre (decide (0 ≤ 105 ∧ 105 < 128)), true)], []) := by kernel_rfl
theorem rs_k12 (es er : Value) (x : ByteArray) : simF (envR es er) 1000 10 [] [true, true, false, false] 60 [[true]] [.inl (.string x)] = some (false, [Sum.inl (Value.int IntKind.i64 12)], [(hcZ x 119, false), (pre (decide (0 ≤ 119 ∧ 119 < 128)), true), (hcZ x 114, false), (pre (decide (0 ≤ 114 ∧ 114 < 128)), true), (hcZ x 111, true), (pre (decide (0 ≤ 111 ∧ 111 < 128)), true), (hcZ x 105, true), (pre (decide (0 ≤ 105 ∧ 105 < 128)), true)], []) := by kernel_rfl
theorem rs_k13 (es er : Value) (x : ByteArray) : simF (envR es er) 1000 10 [] [true, true, false, true] 60 [[true]] [.inl (.string x)] = some (false, [Sum.inl (Value.int IntKind.i64 13)], [(hcZ x 119, true), (pre (decide (0 ≤ 119 ∧ 119 < 128)), true), (hcZ x 114, false), (pre (decide (0 ≤ 114 ∧ 114 < 128)), true), (hcZ x 111, true), (pre (decide (0 ≤ 111 ∧ 111 < 128)), true), (hcZ x 105, true), (pre (decide (0 ≤ 105 ∧ 105 < 128)), true)], []) := by kernel_rfl
theorem rs_k14 (es er : Value) (x : ByteArray) : simF (envR es er) 1000 10 [] [true, true, true, false] 60 [[true]] [.inl (.string x)] = some (false, [Sum.inl (Value.int IntKind.i64 14)], [(hcZ x 119, false), (pre (decide (0 ≤ 119 ∧ 119 < 128)), true), (hcZ x 114, true), (pre (decide (0 ≤ 114 ∧ 114 < 128)), true), (hcZ x 111, true), (pre (decide (0 ≤ 111 ∧ 111 < 128)), true), (hcZ x 105, true), (pre (decide (0 ≤ 105 ∧ 105 < 128)), true)], []) := by kernel_rfl
theorem rs_k15 (es er : Value) (x : ByteArray) : simF (envR es er) 1000 10 [] [true, true, true, true] 60 [[true]] [.inl (.string x)] = some (false, [Sum.inl (Value.int IntKind.i64 15)], [(hcZ x 119, true), (pre (decide (0 ≤ 119 ∧ 119 < 128)), true), (hcZ x 114, true), (pre (decide (0 ≤ 114 ∧ 114 < 128)), true), (hcZ x 111, true), (pre (decide (0 ≤ 111 ∧ 111 < 128)), true), (hcZ x 105, true), (pre (decide (0 ≤ 105 ∧ 105 < 128)), true)], []) := by kernel_rfl
--@s2end
theorem readSet_ret (es er : Value) (x : ByteArray) (w : World) (hG : GlobOk (gl6 es er) w) : Ret Tryz.prog 60 #[.string x] (.int .i64 (rsZ x)) w := by
  cases e8 : hcZ x 105 <;> cases e4 : hcZ x 111 <;> cases e2 : hcZ x 114 <;> cases e1 : hcZ x 119
  · exact (ret6 (envR_ok es er) _ _ (rs_k0 es er x) (all_cons e1 <| all_cons rfl <| all_cons e2 <| all_cons rfl <| all_cons e4 <| all_cons rfl <| all_cons e8 <| all_cons rfl all_nil) Tryz.func60 w [.string x] hG ⟨rfl, trivial⟩).of_eq (by rw [rsZ_eq, e8, e4, e2, e1]; rfl)
  · exact (ret6 (envR_ok es er) _ _ (rs_k1 es er x) (all_cons e1 <| all_cons rfl <| all_cons e2 <| all_cons rfl <| all_cons e4 <| all_cons rfl <| all_cons e8 <| all_cons rfl all_nil) Tryz.func60 w [.string x] hG ⟨rfl, trivial⟩).of_eq (by rw [rsZ_eq, e8, e4, e2, e1]; rfl)
  · exact (ret6 (envR_ok es er) _ _ (rs_k2 es er x) (all_cons e1 <| all_cons rfl <| all_cons e2 <| all_cons rfl <| all_cons e4 <| all_cons rfl <| all_cons e8 <| all_cons rfl all_nil) Tryz.func60 w [.string x] hG ⟨rfl, trivial⟩).of_eq (by rw [rsZ_eq, e8, e4, e2, e1]; rfl)
  · exact (ret6 (envR_ok es er) _ _ (rs_k3 es er x) (all_cons e1 <| all_cons rfl <| all_cons e2 <| all_cons rfl <| all_cons e4 <| all_cons rfl <| all_cons e8 <| all_cons rfl all_nil) Tryz.func60 w [.string x] hG ⟨rfl, trivial⟩).of_eq (by rw [rsZ_eq, e8, e4, e2, e1]; rfl)
  · exact (ret6 (envR_ok es er) _ _ (rs_k4 es er x) (all_cons e1 <| all_cons rfl <| all_cons e2 <| all_cons rfl <| all_cons e4 <| all_cons rfl <| all_cons e8 <| all_cons rfl all_nil) Tryz.func60 w [.string x] hG ⟨rfl, trivial⟩).of_eq (by rw [rsZ_eq, e8, e4, e2, e1]; rfl)
  · exact (ret6 (envR_ok es er) _ _ (rs_k5 es er x) (all_cons e1 <| all_cons rfl <| all_cons e2 <| all_cons rfl <| all_cons e4 <| all_cons rfl <| all_cons e8 <| all_cons rfl all_nil) Tryz.func60 w [.string x] hG ⟨rfl, trivial⟩).of_eq (by rw [rsZ_eq, e8, e4, e2, e1]; rfl)
  · exact (ret6 (envR_ok es er) _ _ (rs_k6 es er x) (all_cons e1 <| all_cons rfl <| all_cons e2 <| all_cons rfl <| all_cons e4 <| all_cons rfl <| all_cons e8 <| all_cons rfl all_nil) Tryz.func60 w [.string x] hG ⟨rfl, trivial⟩).of_eq (by rw [rsZ_eq, e8, e4, e2, e1]; rfl)
  · exact (ret6 (envR_ok es er) _ _ (rs_k7 es er x) (all_cons e1 <| all_cons rfl <| all_cons e2 <| all_cons rfl <| all_cons e4 <| all_cons rfl <| all_cons e8 <| all_cons rfl all_nil) Tryz.func60 w [.string x] hG ⟨rfl, trivial⟩).of_eq (by rw [rsZ_eq, e8, e4, e2, e1]; rfl)
  · exact (ret6 (envR_ok es er) _ _ (rs_k8 es er x) (all_cons e1 <| all_cons rfl <| all_cons e2 <| all_cons rfl <| all_cons e4 <| all_cons rfl <| all_cons e8 <| all_cons rfl all_nil) Tryz.func60 w [.string x] hG ⟨rfl, trivial⟩).of_eq (by rw [rsZ_eq, e8, e4, e2, e1]; rfl)
  · exact (ret6 (envR_ok es er) _ _ (rs_k9 es er x) (all_cons e1 <| all_cons rfl <| all_cons e2 <| all_cons rfl <| all_cons e4 <| all_cons rfl <| all_cons e8 <| all_cons rfl all_nil) Tryz.func60 w [.string x] hG ⟨rfl, trivial⟩).of_eq (by rw [rsZ_eq, e8, e4, e2, e1]; rfl)
  · exact (ret6 (envR_ok es er) _ _ (rs_k10 es er x) (all_cons e1 <| all_cons rfl <| all_cons e2 <| all_cons rfl <| all_cons e4 <| all_cons rfl <| all_cons e8 <| all_cons rfl all_nil) Tryz.func60 w [.string x] hG ⟨rfl, trivial⟩).of_eq (by rw [rsZ_eq, e8, e4, e2, e1]; rfl)
  · exact (ret6 (envR_ok es er) _ _ (rs_k11 es er x) (all_cons e1 <| all_cons rfl <| all_cons e2 <| all_cons rfl <| all_cons e4 <| all_cons rfl <| all_cons e8 <| all_cons rfl all_nil) Tryz.func60 w [.string x] hG ⟨rfl, trivial⟩).of_eq (by rw [rsZ_eq, e8, e4, e2, e1]; rfl)
  · exact (ret6 (envR_ok es er) _ _ (rs_k12 es er x) (all_cons e1 <| all_cons rfl <| all_cons e2 <| all_cons rfl <| all_cons e4 <| all_cons rfl <| all_cons e8 <| all_cons rfl all_nil) Tryz.func60 w [.string x] hG ⟨rfl, trivial⟩).of_eq (by rw [rsZ_eq, e8, e4, e2, e1]; rfl)
  · exact (ret6 (envR_ok es er) _ _ (rs_k13 es er x) (all_cons e1 <| all_cons rfl <| all_cons e2 <| all_cons rfl <| all_cons e4 <| all_cons rfl <| all_cons e8 <| all_cons rfl all_nil) Tryz.func60 w [.string x] hG ⟨rfl, trivial⟩).of_eq (by rw [rsZ_eq, e8, e4, e2, e1]; rfl)
  · exact (ret6 (envR_ok es er) _ _ (rs_k14 es er x) (all_cons e1 <| all_cons rfl <| all_cons e2 <| all_cons rfl <| all_cons e4 <| all_cons rfl <| all_cons e8 <| all_cons rfl all_nil) Tryz.func60 w [.string x] hG ⟨rfl, trivial⟩).of_eq (by rw [rsZ_eq, e8, e4, e2, e1]; rfl)
  · exact (ret6 (envR_ok es er) _ _ (rs_k15 es er x) (all_cons e1 <| all_cons rfl <| all_cons e2 <| all_cons rfl <| all_cons e4 <| all_cons rfl <| all_cons e8 <| all_cons rfl all_nil) Tryz.func60 w [.string x] hG ⟨rfl, trivial⟩).of_eq (by rw [rsZ_eq, e8, e4, e2, e1]; rfl)
noncomputable def tRs : Tab := row 60 Sim.decS fun x => .int .i64 (rsZ x)
theorem tRs_ok {es er : Value} : TabOk Tryz.prog (gl6 es er) tRs := tabS fun x w hG => readSet_ret es er x w hG
end Go.Proofs.YtgcglmnbkilfhaaGreatDoor
