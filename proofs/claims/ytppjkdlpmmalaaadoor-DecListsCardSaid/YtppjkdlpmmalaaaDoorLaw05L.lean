/- The law of layer 5 on lists of bytes, by the evaluator with lists. -/
import Derived.Test.YtppjkdlpmmalaaaDoorLaw05
import Derived.Test.YtppjkdlpmmalaaaDoorLists05
import Derived.Test.YtppjkdlpmmalaaaDoorOpen
namespace Go.Proofs.YtppjkdlpmmalaaaDoor
open Go.RowKit Sim S2
set_option linter.unusedVariables false
set_option linter.unusedSimpArgs false

noncomputable def envX (m : Nat) (f : Nat → Nat) : S2.Env := envq Tryd.prog decGl tAwake05 pDecodeD (orL (lDecAll m f) <| orL lRefBytes lRefSame)
theorem envX_ok (m : Nat) (f : Nat → Nat) : CallOk (envX m f) := envq_ok tAwake05_ok pDecodeD_ok ((lDecAll_ok m f).or (lRefBytes_ok.or lRefSame_ok))
noncomputable def envXN (n : Nat) (f : Nat → Nat) : S2.Env := envq Tryd.prog decGl tAwake05 pDecodeD (lDecAllNo n f)
theorem envXN_ok (n : Nat) (f : Nat → Nat) : CallOk (envXN n f) := envq_ok tAwake05_ok pDecodeD_ok (lDecAllNo_ok n f)
def dlPath : List Nat := [0, 1, 0, 1, 1, 1, 1, 1]
noncomputable def dlC : Code := codeAt (codeOf Tryd.prog 6) (0 :: dlPath)
noncomputable def dlS (m : Nat) (f : Nat → Nat) (j : Nat) : S2.St := { tmps := [(0, .c 0), (3, .c 1), (5, .inl ([true], .int .i64 j))], own := ⟨[], [bytesIn (4 * m) f, insD m f]⟩, lo := 0, llo := 0, mem := true, orc := [], obl := [] }
/-- The word, as the law's own loop makes it. -/
noncomputable def stepZ (x : Int) (b : Nat) : Int := arZ .add .u32 x (IntKind.u32.wrap (b : Int))
noncomputable def accZ (f : Nat → Nat) (j : Nat) : Int := stepZ (arZ .mul .u32 256 (stepZ (arZ .mul .u32 256 (stepZ (arZ .mul .u32 256 (stepZ 0 (f (4 * (j : Int) + 3).toNat))) (f (4 * (j : Int) + 2).toNat))) (f (4 * (j : Int) + 1).toNat))) (f (4 * (j : Int) + 0).toNat)
theorem stepZ_eq (x : Int) (b : Nat) (h0 : 0 ≤ x) (hb : b < 256) (h : x + b < 4294967296) : stepZ x b = x + b := by
  unfold stepZ
  rw [arZ_eq]
  show IntKind.u32.wrap (x + IntKind.u32.wrap (b : Int)) = _
  rw [IntKind.wrap_u32, IntKind.wrap_u32]; omega
theorem mulZ_eq (x : Int) (h0 : 0 ≤ x) (h : 256 * x < 4294967296) : arZ .mul .u32 256 x = 256 * x := by
  rw [arZ_eq]
  show IntKind.u32.wrap (256 * x) = _
  rw [IntKind.wrap_u32]; omega
theorem accZ_eq (f : Nat → Nat) (hf : ∀ i, f i < 256) (j : Nat) : accZ f j = w4 f (4 * j) := by
  have e3 : (4 * (j : Int) + 3).toNat = 4 * j + 3 := by omega
  have e2 : (4 * (j : Int) + 2).toNat = 4 * j + 2 := by omega
  have e1 : (4 * (j : Int) + 1).toNat = 4 * j + 1 := by omega
  have e0 : (4 * (j : Int) + 0).toNat = 4 * j + 0 := by omega
  have h3 := hf (4 * j + 3)
  have h2 := hf (4 * j + 2)
  have h1 := hf (4 * j + 1)
  have h0 := hf (4 * j + 0)
  unfold accZ
  rw [e3, e2, e1, e0, w4_eq]
  simp only [joinN]
  generalize f (4 * j + 3) = x3 at *
  generalize f (4 * j + 2) = x2 at *
  generalize f (4 * j + 1) = x1 at *
  generalize f (4 * j + 0) = x0 at *
  rw [stepZ_eq 0 x3 (by omega) h3 (by omega), mulZ_eq (0 + (x3 : Int)) (by omega) (by omega), stepZ_eq (256 * (0 + (x3 : Int))) x2 (by omega) h2 (by omega), mulZ_eq (256 * (0 + (x3 : Int)) + x2) (by omega) (by omega), stepZ_eq (256 * (256 * (0 + (x3 : Int)) + x2)) x1 (by omega) h1 (by omega), mulZ_eq (256 * (256 * (0 + (x3 : Int)) + x2) + x1) (by omega) (by omega), stepZ_eq _ x0 (by omega) h0 (by omega)]
  omega
def inNe (i k : In) : Bool := !(i.op == k.op && (i.rd == k.rd && (i.a == k.a && (i.b == k.b && (i.imm == k.imm && (i.aq == k.aq && (i.rl == k.rl && true)))))))
theorem inNe_self (i : In) : inNe i i = false := by simp [inNe]
noncomputable def partE (m : Nat) (f : Nat → Nat) (j : Nat) : LE := ⟨5, 1, (4 * (j : Int) + 4).toNat - (4 * (j : Int)).toNat, fun i => (bytesIn (4 * m) f).el ((4 * (j : Int)).toNat + i), false, false, true⟩
theorem part_same (m : Nat) (f : Nat → Nat) (hf : ∀ i, f i < 256) (j : Nat) : sameBytes (bytesE 4 (byteZ (IntKind.u64.wrap (accZ f j)))) (partE m f j) := by
  have hr := w4_rng f (4 * j) hf
  simp [w32B] at hr
  have hw : IntKind.u64.wrap (accZ f j) = ((joinN (fun i => f (4 * j + i)) 4 : Nat) : Int) := by
    rw [accZ_eq f hf j, ← w4_eq, IntKind.wrap_u64]; omega
  have ej : (4 * (j : Int)).toNat = 4 * j := by omega
  refine ⟨(List.range 4).map fun i => f (4 * j + i), rfl, rfl, rfl, ?_, by simp, fun i hi => ?_⟩
  · show (4 * (j : Int) + 4).toNat - (4 * (j : Int)).toNat = _
    first | (simp; done) | (simp; omega)
  · have hi' : i < 4 := by simpa using hi
    have hx : ((List.range 4).map fun i => f (4 * j + i)).getD i 0 = f (4 * j + i) := by simp [List.getD_eq_getElem?_getD, hi']
    rw [hx]
    refine ⟨?_, ?_⟩
    · show [Value.int .u8 (byteZ (IntKind.u64.wrap (accZ f j)) i)] = _
      rw [hw, byteZ_eq, Int.toNat_natCast, byte_join (fun i => f (4 * j + i)) (fun i => hf _) 4 i hi']
    · show [Value.int .u8 ((f ((4 * (j : Int)).toNat + i) : Nat) : Int)] = _
      rw [ej]
noncomputable def dlL (m : Nat) (f : Nat → Nat) (j : Nat) : List (Bool × Bool) :=
  [(pre (inI ((j : Int) + 1)), true), (false, false), (pre (propB (sameBytes (bytesE 4 (byteZ (IntKind.u64.wrap (accZ f j)))) (partE m f j))), true),
    (pre (decide ((4 * (j : Int)).toNat + ((4 * (j : Int) + 4).toNat - (4 * (j : Int)).toNat) ≤ 4 * m)), true), (pre (decide (0 ≤ 4 * (j : Int) ∧ 4 * (j : Int) ≤ 4 * (j : Int) + 4 ∧ 4 * (j : Int) + 4 ≤ ((4 * m : Nat) : Int))), true), (pre (inI (4 * (j : Int) + 4)), true), (pre (inI (4 * (j : Int))), true), (pre (inI (4 * (j : Int))), true),
    (pre (decide (0 ≤ IntKind.u64.wrap (accZ f j) ∧ IntKind.u64.wrap (accZ f j) < 18446744073709551616 ∧ (0 : Int) ≤ 4 ∧ (4 : Int) ≤ 65536)), true),
    (inNe (decodeZ (w4 f (4 * j))) (decodeZ (accZ f j)), false), (pre (w32B (accZ f j)), true), (pre (decide (j < m)), true), (pre (idxB (j : Int) m), true),
    (pre (decide ((4 * (j : Int) + 0).toNat < 4 * m)), true), (pre (idxB (4 * (j : Int) + 0) (4 * m)), true), (pre (inI (4 * (j : Int) + 0)), true), (pre (inI (4 * (j : Int))), true),
    (pre (decide ((4 * (j : Int) + 1).toNat < 4 * m)), true), (pre (idxB (4 * (j : Int) + 1) (4 * m)), true), (pre (inI (4 * (j : Int) + 1)), true), (pre (inI (4 * (j : Int))), true),
    (pre (decide ((4 * (j : Int) + 2).toNat < 4 * m)), true), (pre (idxB (4 * (j : Int) + 2) (4 * m)), true), (pre (inI (4 * (j : Int) + 2)), true), (pre (inI (4 * (j : Int))), true),
    (pre (decide ((4 * (j : Int) + 3).toNat < 4 * m)), true), (pre (idxB (4 * (j : Int) + 3) (4 * m)), true), (pre (inI (4 * (j : Int) + 3)), true), (pre (inI (4 * (j : Int))), true), (decide ((j : Int) < (m : Int)), true)]
theorem ob_slice {l h : Int} {n : Nat} (k : 0 ≤ l ∧ l ≤ h ∧ h ≤ (n : Int)) : pre (decide (0 ≤ l ∧ l ≤ h ∧ h ≤ (n : Int))) = true := by unfold pre; exact decide_eq_true k
theorem ob_le {a b : Nat} (k : a ≤ b) : pre (decide (a ≤ b)) = true := by unfold pre; exact decide_eq_true k
theorem dlL_ok (m : Nat) (f : Nat → Nat) (hm : m ≤ 1000) (hf : ∀ i, f i < 256) (j : Nat) (hj : j < m) : ∀ p ∈ dlL m f j, p.1 = p.2 := by
  have ha := accZ_eq f hf j
  have hw := w4_rng f (4 * j) hf
  have hu : pre (decide (0 ≤ IntKind.u64.wrap (accZ f j) ∧ IntKind.u64.wrap (accZ f j) < 18446744073709551616 ∧ (0 : Int) ≤ 4 ∧ (4 : Int) ≤ 65536)) = true := by
    have : 0 ≤ IntKind.u64.wrap (accZ f j) ∧ IntKind.u64.wrap (accZ f j) < 18446744073709551616 := by rw [IntKind.wrap_u64]; omega
    unfold pre; exact decide_eq_true ⟨this.1, this.2, by decide, by decide⟩
  exact all_cons (ob_inI (by omega)) <| all_cons rfl <| all_cons (propB_ok.mpr (part_same m f hf j)) <| all_cons (ob_le (by omega)) <| all_cons (ob_slice (by omega)) <| all_cons (ob_inI (by omega)) <| all_cons (ob_inI (by omega)) <| all_cons (ob_inI (by omega)) <|
    all_cons hu <| all_cons (by rw [ha]; exact inNe_self _) <| all_cons (by rw [ha]; unfold pre; exact hw) <| all_cons (ob_lt hj) <| all_cons (ob_idx (by omega)) <|
    all_cons (ob_lt (by omega)) <| all_cons (ob_idx (by omega)) <| all_cons (ob_inI (by omega)) <| all_cons (ob_inI (by omega)) <|
    all_cons (ob_lt (by omega)) <| all_cons (ob_idx (by omega)) <| all_cons (ob_inI (by omega)) <| all_cons (ob_inI (by omega)) <|
    all_cons (ob_lt (by omega)) <| all_cons (ob_idx (by omega)) <| all_cons (ob_inI (by omega)) <| all_cons (ob_inI (by omega)) <|
    all_cons (ob_lt (by omega)) <| all_cons (ob_idx (by omega)) <| all_cons (ob_inI (by omega)) <| all_cons (ob_inI (by omega)) <| all_cons (ob_yes (by omega)) all_nil
theorem dl_step (m : Nat) (f : Nat → Nat) (hm : m ≤ 1000) (hf : ∀ i, f i < 256) (j : Nat) (hj : j < m) (w : World) (hG : GlobOk decGl w) : S2.Sem (envX m f) w 84 dlC (dlS m f j) none (dlS m f (j + 1)) :=
  sem_iter (envX_ok m f) hG (p := { ts := [0, 3, 5], bs := [], ls := [0, 1] }) (fuel := 1000) [true, false, false, false] (dlL m f j) (by kernel_rfl) (by kernel_rfl) (dlL_ok m f hm hf j hj)
theorem dl_last (m : Nat) (f : Nat → Nat) (w : World) (hG : GlobOk decGl w) : S2.Sem (envX m f) w 84 dlC (dlS m f m) (some (some 0)) (dlS m f m) :=
  sem_iter (envX_ok m f) hG (p := { ts := [0, 3, 5], bs := [], ls := [0, 1] }) (fuel := 1000) [false] [(decide ((m : Int) < (m : Int)), false)] (by kernel_rfl) (by kernel_rfl) (all_cons (ob_no (by omega)) all_nil)
theorem decLists_yes (m : Nat) (f : Nat → Nat) (hm : m ≤ 1000) (hf : ∀ i, f i < 256) (w : World) (vals : List Value) (hG : GlobOk decGl w) (ha : ArgsOk w [.inr (bytesIn (4 * m) f)] vals) :
    LRet Tryd.prog 6 vals false [.inl (.bool true)] w := by
  have hd : IntKind.i64.wrap ((((4 * m : Nat) : Int)).tdiv 4) = (m : Int) := by
    rw [Int.tdiv_eq_ediv_of_nonneg (by omega), IntKind.wrap_i64]; omega
  refine fn_ok (envX_ok m f) (fuel := 1000) (d := 30) (plan := [⟨dlPath, { ts := [0, 3, 5], bs := [], ls := [0, 1], opn := [5] }, some (some 0), dlS m f m⟩]) (orc := [false, false, false, false]) (fls := [[]])
    (l := [(false, false), ((m : Int) != IntKind.i64.wrap ((((4 * m : Nat) : Int)).tdiv 4), false), ((((4 * m : Nat) : Int)).tmod 4 != 0, false), (pre (propB (bytesIn (4 * m) f = bytesIn (4 * m) f ∧ m ≤ 1000000000 ∧ ∀ i, f i < 256)), true), (decide (((4 * m : Nat) : Int) > 4000), false)])
    (tr := [⟨.loop dlC, dlS m f 0, some (some 0), dlS m f m⟩]) (by kernel_rfl)
    (all_cons rfl <| all_cons (by rw [hd]; simp) <| all_cons (by rw [Int.tmod_eq_emod_of_nonneg (by omega)]; first | (simp; done) | (simp; omega)) <| all_cons (propB_ok.mpr ⟨rfl, by omega, hf⟩) <| all_cons (ob_no (by omega)) all_nil)
    Tryd.func6 w vals hG ha fun t ht => ?_
  obtain rfl := List.mem_singleton.mp ht
  exact sem_loop (dlS m f) m (by simp) (fun j hj => dl_step m f hm hf j hj w hG) (dl_last m f w hG)
theorem decLists_no (n : Nat) (f : Nat → Nat) (hn : n ≤ 4000) (h4 : n % 4 ≠ 0) (w : World) (vals : List Value) (hG : GlobOk decGl w) (ha : ArgsOk w [.inr (bytesIn n f)] vals) :
    LRet Tryd.prog 6 vals false [.inl (.bool true)] w :=
  fn_ok (envXN_ok n f) (fuel := 1000) (d := 30) (plan := []) (orc := [false, true, true, true]) (fls := [[]])
    (l := [(true, true), (true, true), (((n : Int)).tmod 4 != 0, true), (pre (propB (bytesIn n f = bytesIn n f ∧ n % 4 ≠ 0)), true), (decide ((n : Int) > 4000), false)]) (tr := []) (by kernel_rfl)
    (all_cons rfl <| all_cons rfl <| all_cons (by rw [Int.tmod_eq_emod_of_nonneg (by omega)]; first | (simp; done) | (simp; omega)) <| all_cons (propB_ok.mpr ⟨rfl, h4⟩) <| all_cons (ob_no (by omega)) all_nil)
    Tryd.func6 w vals hG ha fun t ht => by cases ht
theorem decLists_long (n : Nat) (f : Nat → Nat) (hn : 4000 < n) (w : World) (vals : List Value) (hG : GlobOk decGl w) (ha : ArgsOk w [.inr (bytesIn n f)] vals) :
    LRet Tryd.prog 6 vals false [.inl (.bool true)] w :=
  fn_ok (envXN_ok n f) (fuel := 1000) (d := 30) (plan := []) (orc := [true]) (fls := [[]]) (l := [(decide ((n : Int) > 4000), true)]) (tr := []) (by kernel_rfl) (all_cons (ob_yes (by omega)) all_nil)
    Tryd.func6 w vals hG ha fun t ht => by cases ht
theorem decLists_walk (n : Nat) (f : Nat → Nat) (hf : ∀ i, f i < 256) (w : World) (vals : List Value) (hG : GlobOk decGl w) (ha : ArgsOk w [.inr (bytesIn n f)] vals) : Ret Tryd.prog 6 vals.toArray (.bool true) w := by
  refine LRet.plain ?_
  by_cases hn : 4000 < n
  · exact decLists_long n f hn w vals hG ha
  · by_cases h4 : n % 4 = 0
    · obtain ⟨m, rfl⟩ : ∃ m, n = 4 * m := ⟨n / 4, by omega⟩
      exact decLists_yes m f (by omega) hf w vals hG ha
    · exact decLists_no n f (by omega) h4 w vals hG ha
/-- A slice of bytes that came in, as a list. -/
theorem bytes_in {w : World} {a : Option Addr} {len cap : Nat} {zs : List Int} (h : SliceIn .u8 w a len cap zs) : ∃ f : Nat → Nat, (∀ i, f i < 256) ∧ InB w.heap.size w (bytesIn len f) (.slice a len cap) := by
  obtain ⟨hl, hm, hz, hwf, hc⟩ := h
  have h0 : IntKind.u8.min = 0 := by decide
  have h1 : IntKind.u8.max = 255 := by decide
  have rng : ∀ i, 0 ≤ zs.getD i 0 ∧ zs.getD i 0 < 256 := fun i => by
    rw [List.getD_eq_getElem?_getD]
    cases hi : zs[i]? with
    | none => simp
    | some z =>
      have := hwf z (List.mem_of_getElem? hi)
      simp [Lit.wf, h0, h1] at this
      simp; omega
  refine ⟨fun i => (zs.getD i 0).toNat, fun i => by have := rng i; show (zs.getD i 0).toNat < 256; omega, ⟨by show 0 < 1; omega, fun j _ => ⟨rfl, rfl⟩⟩, a, cap, rfl, hl, fun hp => ?_⟩
  have hp : 0 < len := hp
  obtain ⟨b, off, ha, hb, hcell⟩ := hc (by omega)
  refine ⟨b, off, ha, hb, fun j hj o c hoc => ?_⟩
  have hj : j < len := hj
  have hoc : [Value.int .u8 (((zs.getD j 0).toNat : Nat) : Int)][o]? = some c := hoc
  cases o with
  | zero =>
    simp at hoc
    subst hoc
    have := hcell j (by omega)
    have e : (bytesIn len fun i => (zs.getD i 0).toNat).size = 1 := rfl
    rw [e, Nat.mul_one, Nat.add_zero, this]
    have := (rng j).1
    simp only [List.getD_eq_getElem?_getD] at this ⊢
    congr 2
    omega
  | succ o => simp at hoc
theorem decLists_law (a : Option Addr) (len cap : Nat) (zs : List Int) (w : World) (hG : GlobOk decGl w) (h : SliceIn .u8 w a len cap zs) : Calls Tryd.prog 6 #[.slice a len cap] w (Holds w) := by
  obtain ⟨f, hf, hb⟩ := bytes_in h
  exact decLists_walk len f hf w [.slice a len cap] hG ⟨hb, trivial⟩
end Go.Proofs.YtppjkdlpmmalaaaDoor
