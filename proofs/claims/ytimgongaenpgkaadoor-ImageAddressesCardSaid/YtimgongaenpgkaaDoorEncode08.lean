/- Contracts of package image: Encode as a whole. -/
import Derived.Test.YtimgongaenpgkaaDoorEnc08
namespace Go.Proofs.YtimgongaenpgkaaDoor
open Go.RowKit Sim S2
set_option linter.unusedVariables false
set_option linter.unusedSimpArgs false

noncomputable def envE (i : Im) : S2.Env := envf Tryd.prog (fun _ => none) noT noP (orL (lCheck i) lBytes) eWrite
theorem envE_ok (i : Im) : CallOk (envE i) := envf_ok (.none _ _) (.none _ _) ((lCheck_ok i).or lBytes_ok) eWrite_ok
noncomputable def eHd (i : Im) : LE := ⟨5, 1, 16, joinE 12 (joinE 8 (joinE 4 (tabE (chunks 1 4 [.int .u8 83, .int .u8 80, .int .u8 73, .int .u8 78])) (bytesE 4 (byteZ (IntKind.u32.wrap i.n))).el) (bytesE 4 (byteZ (IntKind.u32.wrap i.m))).el) (bytesE 4 (byteZ (IntKind.u32.wrap i.h))).el, true, false, true⟩
noncomputable def eR1 (i : Im) : LE := bytesE ((eHd i).n + 4 * (w32L false i.n i.c).n) (apZ (eHd i).n 4 (numL (eHd i)) (wuG (numL (w32L false i.n i.c))))
noncomputable def eR2 (i : Im) : LE := bytesE ((eR1 i).n + 8 * (intL false i.m i.d).n) (apZ (eR1 i).n 8 (numL (eR1 i)) (wlG (numL (intL false i.m i.d))))
noncomputable def eR3 (i : Im) : LE := bytesE ((eR2 i).n + 4 * (intL false i.h i.e).n) (apZ (eR2 i).n 4 (numL (eR2 i)) (whG (numL (intL false i.h i.e))))
def apB (n : Nat) : Bool := pre (decide (n + 4 ≤ maxLen ∧ (n + 4) * 1 ≤ 140737488355328 ∧ 0 < 4))
def u32C (x : Int) : Bool := pre (decide (0 ≤ IntKind.u32.wrap x ∧ IntKind.u32.wrap x < 4294967296))
def imC (i : Im) : List (Sum Value LE) := [.inr (w32L false i.n i.c), .inr (intL false i.m i.d), .inr (intL false i.h i.e)]
theorem enc_yes_sim (i : Im) : S2.simF (envE i) 1000 30 [] [false] 13 [[]] [imX false i] = some (true, [.inr (eR3 i), .inl (.int .i64 0)],
    [(pre (propB (isRow (eR2 i) ∧ isInt (intL false i.h i.e))), true), (pre (propB (isRow (eR1 i) ∧ isInt (intL false i.m i.d))), true), (pre (propB (22 = 22 ∧ isRow (eHd i) ∧ isW32 (w32L false i.n i.c))), true),
     (apB 12, true), (u32C i.h, true), (apB 8, true), (u32C i.m, true), (apB 4, true), (u32C i.n, true), (imE i != 0, false), (pre (propB (isIm i (imC i) ∧ smallIm i)), true)], []) := by kernel_rfl
theorem enc_no_sim (i : Im) : S2.simF (envE i) 1000 30 [] [true] 13 [[]] [imX false i] = some (false, [.inl (.tuple #[.slice none 0 0, .int .i64 (imE i)])],
    [(imE i != 0, true), (pre (propB (isIm i (imC i) ∧ smallIm i)), true)], []) := by kernel_rfl
theorem LRet.sameRow {P : Program} {f : FuncId} {vals : List Value} {e e' : LE} {x : Value} {w : World} (h : LRet P f vals true [.inr e, .inl x] w) (hs : sameE e e') : LRet P f vals true [.inr e', .inl x] w := h.mono fun r w' ⟨vs, h1, ⟨us, h2, h3⟩, h4⟩ => ⟨vs, h1, ⟨us, by
    obtain ⟨v, vs', us', e1, e2, e3⟩ := h2
    exact ⟨v, vs', us', e1, e2, e3⟩, by
    obtain ⟨v, vs', us', e1, e2, e3⟩ := h2
    subst e2
    exact ⟨⟨h3.1.1.same hs, h3.1.2⟩, h3.2⟩⟩, h4⟩
/-- What a valid image is. -/
structure okIm (i : Im) : Prop where
  n0 : 1 ≤ i.n
  n : i.n ≤ 262144
  m : i.m ≤ 4096
  h0 : 1 ≤ i.h
  h : i.h ≤ 8
  e : ∀ j, j < i.h → 0 ≤ i.e j ∧ i.e j < (i.n : Int)
theorem imE_zero {i : Im} (h : imE i = 0) : okIm i := by
  unfold imE at h
  split at h
  · cases h
  · split at h
    · cases h
    · split at h
      · cases h
      · rename_i h1 h2 h3
        refine ⟨by omega, by omega, by omega, by omega, by omega, fun j hj => ?_⟩
        have hb : badE i j = false := by
          cases hb : badE i j
          · rfl
          · exact absurd (List.any_eq_true.mpr ⟨j, List.mem_range.mpr hj, hb⟩) h3
        unfold badE at hb
        have := of_decide_eq_false hb
        omega
theorem imE_ok {i : Im} (h : okIm i) : imE i = 0 := by
  obtain ⟨h1, h2, h3, h4, h5, h6⟩ := h
  unfold imE
  rw [if_neg (by omega), if_neg (by omega), if_neg]
  rw [Bool.not_eq_true, List.any_eq_false]
  intro j hj
  have := h6 j (List.mem_range.mp hj)
  unfold badE
  rw [decide_eq_true_eq]
  omega
theorem u32_u64 (x : Int) (h : 0 ≤ x ∧ x < 4294967296) : IntKind.u32.wrap x = IntKind.u64.wrap x := by rw [IntKind.wrap_u32, IntKind.wrap_u64]; omega
theorem u64_id (x : Int) (h : 0 ≤ x ∧ x < 4294967296) : IntKind.u64.wrap x = x := by rw [IntKind.wrap_u64]; omega
theorem eHd_el {i : Im} (h : okIm i) (p : Nat) (hp : p < 16) : (eHd i).el p = [.int .u8 (imgZ i p)] := by
  have h1 := h.n
  have h2 := h.m
  have h3 := h.h
  have e := by0_el i p hp
  rw [← u32_u64 i.n (by omega), ← u32_u64 i.m (by omega), ← u32_u64 i.h (by omega)] at e
  exact e
theorem eHd_num {i : Im} (h : okIm i) (p : Nat) (hp : p < 16) : numL (eHd i) p = imgZ i p := by
  unfold numL
  rw [eHd_el h p hp]; rfl
theorem divmod (p b s : Nat) (hs : 0 < s) (hp : b ≤ p) : b + s * ((p - b) / s) + (p - b) % s = p := by
  have := Nat.div_add_mod (p - b) s
  omega
theorem eR1_num {i : Im} (h : okIm i) (hc : ∀ j, j < i.n → 0 ≤ i.c j ∧ i.c j < 4294967296) (p : Nat) (hp : p < 16 + 4 * i.n) : numL (eR1 i) p = imgZ i p := by
  show apZ 16 4 (numL (eHd i)) (wuG (numL (w32L false i.n i.c))) p = _
  unfold apZ
  by_cases h0 : p < 16
  · rw [if_pos h0]; exact eHd_num h p h0
  · rw [if_neg h0]
    have hj : (p - 16) / 4 < i.n := by omega
    have e := img_c i ((p - 16) / 4) ((p - 16) % 4) hj (Nat.mod_lt _ (by decide))
    rw [divmod p 16 4 (by decide) (by omega)] at e
    rw [e, u64_id _ (hc _ hj)]
    rfl
theorem eR2_num {i : Im} (h : okIm i) (hc : ∀ j, j < i.n → 0 ≤ i.c j ∧ i.c j < 4294967296) (p : Nat) (hp : p < 16 + 4 * i.n + 8 * i.m) : numL (eR2 i) p = imgZ i p := by
  show apZ (16 + 4 * i.n) 8 (numL (eR1 i)) (wlG (numL (intL false i.m i.d))) p = _
  unfold apZ
  by_cases h0 : p < 16 + 4 * i.n
  · rw [if_pos h0]; exact eR1_num h hc p h0
  · rw [if_neg h0]
    have hj : (p - (16 + 4 * i.n)) / 8 < i.m := by omega
    have e := img_d i ((p - (16 + 4 * i.n)) / 8) ((p - (16 + 4 * i.n)) % 8) hj (Nat.mod_lt _ (by decide))
    rw [divmod p (16 + 4 * i.n) 8 (by decide) (by omega)] at e
    rw [e]
    rfl
theorem eR3_num {i : Im} (h : okIm i) (hc : ∀ j, j < i.n → 0 ≤ i.c j ∧ i.c j < 4294967296) (p : Nat) (hp : p < 16 + 4 * i.n + 8 * i.m + 4 * i.h) : numL (eR3 i) p = imgZ i p := by
  show apZ (16 + 4 * i.n + 8 * i.m) 4 (numL (eR2 i)) (whG (numL (intL false i.h i.e))) p = _
  unfold apZ
  by_cases h0 : p < 16 + 4 * i.n + 8 * i.m
  · rw [if_pos h0]; exact eR2_num h hc p h0
  · rw [if_neg h0]
    have hj : (p - (16 + 4 * i.n + 8 * i.m)) / 4 < i.h := by omega
    have e := img_e i ((p - (16 + 4 * i.n + 8 * i.m)) / 4) ((p - (16 + 4 * i.n + 8 * i.m)) % 4) (Nat.mod_lt _ (by decide))
    rw [divmod p (16 + 4 * i.n + 8 * i.m) 4 (by decide) (by omega)] at e
    have hee := h.e _ hj
    have hn := h.n
    rw [e, ← u32_u64 _ (by omega)]
    rfl
theorem encode_yes {i : Im} (h : okIm i) (hc : ∀ j, j < i.n → 0 ≤ i.c j ∧ i.c j < 4294967296) (w : World) (vals : List Value) (ha : ArgsOk w [imX false i] vals) :
    LRet Tryd.prog 13 vals true [.inr (bytesE (16 + 4 * i.n + 8 * i.m + 4 * i.h) (imgZ i)), .inl (.int .i64 0)] w := by
  have h1 := h.n
  have h2 := h.m
  have h3 := h.h
  have b0 : isRow (eHd i) := ⟨rfl, rfl, rfl, rfl, by show 16 ≤ _; omega, fun p hp => by rw [eHd_num h p hp]; exact eHd_el h p hp⟩
  have b1 : isRow (eR1 i) := ⟨rfl, rfl, rfl, rfl, by show 16 + 4 * i.n ≤ _; omega, fun p hp => rfl⟩
  have b2 : isRow (eR2 i) := ⟨rfl, rfl, rfl, rfl, by show 16 + 4 * i.n + 8 * i.m ≤ _; omega, fun p hp => rfl⟩
  have c1 : isW32 (w32L false i.n i.c) := ⟨rfl, rfl, rfl, rfl, by show i.n ≤ _; omega, fun j hj => ⟨rfl, hc j hj⟩⟩
  have c2 : isInt (intL false i.m i.d) := ⟨rfl, rfl, rfl, rfl, by show i.m ≤ _; omega, fun j hj => rfl⟩
  have c3 : isInt (intL false i.h i.e) := ⟨rfl, rfl, rfl, rfl, by show i.h ≤ _; omega, fun j hj => rfl⟩
  have ub : ∀ x, u32C x = true := fun x => by unfold u32C pre; exact decide_eq_true (u32w x)
  refine LRet.sameRow (fn_ok (envE_ok i) (enc_yes_sim i) ?_ Tryd.func13 w vals (GlobOk.none w) ha fun t ht => by cases ht) ⟨rfl, rfl, rfl, rfl, rfl, fun p hp => ?_⟩
  · exact all_cons (propB_ok.mpr ⟨b2, c3⟩) <| all_cons (propB_ok.mpr ⟨b1, c2⟩) <| all_cons (propB_ok.mpr ⟨rfl, b0, c1⟩) <| all_cons (ob_app (by decide) (by decide) (by decide)) <| all_cons (ub _) <| all_cons (ob_app (by decide) (by decide) (by decide)) <| all_cons (ub _) <| all_cons (ob_app (by decide) (by decide) (by decide)) <| all_cons (ub _) <| all_cons (by rw [imE_ok h]; rfl) <|
      all_cons (propB_ok.mpr ⟨⟨_, _, _, rfl, rfl, rfl, rfl⟩, by omega, by omega, by omega⟩) all_nil
  · show [Value.int .u8 (numL (eR3 i) p)] = [Value.int .u8 (imgZ i p)]
    rw [eR3_num h hc p hp]
theorem encode_no {i : Im} (h : imE i ≠ 0) (hs : smallIm i) (w : World) (vals : List Value) (ha : ArgsOk w [imX false i] vals) :
    LRet Tryd.prog 13 vals false [.inl (.tuple #[.slice none 0 0, .int .i64 (imE i)])] w :=
  fn_ok (envE_ok i) (enc_no_sim i) (all_cons (by simpa using h) <| all_cons (propB_ok.mpr ⟨⟨_, _, _, rfl, rfl, rfl, rfl⟩, hs⟩) all_nil) Tryd.func13 w vals (GlobOk.none w) ha fun t ht => by cases ht
end Go.Proofs.YtimgongaenpgkaaDoor
