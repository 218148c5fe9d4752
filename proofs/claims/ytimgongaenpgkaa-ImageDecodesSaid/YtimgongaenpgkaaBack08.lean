/- The bytes of an image and back: arithmetic. -/
import Derived.Test.YtimgongaenpgkaaLaw08
import Derived.Test.YtimgongaenpgkaaOpen08
namespace Go.Proofs.Ytimgongaenpgkaa
open Go.RowKit Sim S2
set_option linter.unusedVariables false
set_option linter.unusedSimpArgs false

/-! ### Bytes and images -/
theorem byteZ_w (el : Nat → List Value) (k : Nat) (hk : k < 4) : byteZ (wwZ el) k = ((byN el k : Nat) : Int) := by
  rw [byteZ_eq, wwZ_eq, Int.toNat_natCast, byte_join (byN el) (byN_lt el) 4 k hk]
theorem byteZ_n (el : Nat → List Value) (k : Nat) (hk : k < 8) : byteZ (IntKind.u64.wrap (nnZ el)) k = ((byN el k : Nat) : Int) := by
  rw [byteZ_eq, nnZ_eq, u64_i64N _ (joinN_lt64 _ 8 (by decide) (byN_lt el)), Int.toNat_natCast, byte_join (byN el) (byN_lt el) 8 k hk]
theorem byN_off (el : Nat → List Value) (o k : Nat) : byN (offL el o) k = byN el (o + k) := rfl
theorem joinN_z {x : Int} {n : Nat} {el : Nat → List Value} (h : ∀ k, k < n → ((byN el k : Nat) : Int) = byteZ x k) : joinN (byN el) n = joinN (byteN x.toNat) n := joinN_congr _ _ n fun k hk => by
  have := h k hk
  rw [byteZ_eq] at this
  omega
theorem wwZ_of {x : Int} {el : Nat → List Value} (h0 : 0 ≤ x) (h1 : x < 4294967296) (h : ∀ k, k < 4 → ((byN el k : Nat) : Int) = byteZ x k) : wwZ el = x := by
  rw [wwZ_eq, joinN_z h, joinN_bytes4 _ (by omega)]; omega
theorem nnZ_of {x : Int} {el : Nat → List Value} (h0 : -9223372036854775808 ≤ x) (h1 : x ≤ 9223372036854775807) (h : ∀ k, k < 8 → ((byN el k : Nat) : Int) = byteZ (IntKind.u64.wrap x) k) : nnZ el = x := by
  have e := u64N_eq x
  rw [nnZ_eq, joinN_z h, e, Int.toNat_natCast, joinN_bytes8 _ (u64N_lt x), i64N_u64N x h0 h1]
theorem byteZ_rng (x : Int) (k : Nat) : 0 ≤ byteZ x k ∧ byteZ x k < 256 := by
  have := byteN_lt x.toNat k
  rw [byteZ_eq]; omega
theorem img_rng (i : Im) (p : Nat) : 0 ≤ imgZ i p ∧ imgZ i p < 256 := by
  rw [imgZ_eq]
  unfold imgZ0
  split
  · rename_i h
    match p, h with
    | 0, _ => exact ⟨by decide, by decide⟩
    | 1, _ => exact ⟨by decide, by decide⟩
    | 2, _ => exact ⟨by decide, by decide⟩
    | 3, _ => exact ⟨by decide, by decide⟩
    | p + 4, h => omega
  · repeat' split
    all_goals exact byteZ_rng _ _
theorem elI_by (i : Im) (p : Nat) : ((byN (elI i) p : Nat) : Int) = imgZ i p := by
  have := img_rng i p
  unfold byN elI
  show (((imgZ i p).toNat % 256 : Nat) : Int) = _
  omega
theorem elI_isB (i : Im) (n : Nat) : isB n (elI i) := fun j _ => by rw [elI_by]; rfl
theorem sameRows (n : Nat) (f : Nat → Int) (g : Nat → List Value) (hn : n ≤ 1000000000000) (hf : ∀ p, p < n → 0 ≤ f p) (hg : ∀ p, p < n → g p = [.int .u8 (f p)]) (o d q : Bool) : sameBytes (bytesE n f) ⟨5, 1, n, g, o, d, q⟩ := by
  have key : ∀ p, p < n → ((List.range n).map fun p => (f p).toNat).getD p 0 = (f p).toNat := fun p hp => by
    rw [List.getD_eq_getElem?_getD, List.getElem?_map, List.getElem?_range hp]; rfl
  refine ⟨(List.range n).map fun p => (f p).toNat, rfl, rfl, by simp [bytesE], by simp, by simpa using hn, fun p hp => ?_⟩
  have hp : p < n := by simpa using hp
  rw [key p hp]
  have e : Value.int .u8 (f p) = byteV (f p).toNat := by
    show Value.int .u8 (f p) = .int .u8 ((f p).toNat : Int)
    rw [Int.toNat_of_nonneg (hf p hp)]
  exact ⟨by show [Value.int .u8 (f p)] = _; rw [e], by show g p = _; rw [hg p hp, e]⟩
/-! ### The bytes of an image lead back to it -/
section
variable {i : Im} (h : okIm i) (hw : wfIm i)
theorem back1 (h : okIm i) : dW1 (elI i) = (i.n : Int) := by
  have h1 := h.n
  unfold dW1
  rw [dW_rng]
  refine wwZ_of (by omega) (by omega) fun k hk => ?_
  rw [byN_off, byN_off, elI_by, show 4 + (0 + k) = 4 + k by omega, img_n i k hk, u64_id _ (by omega)]
theorem back2 (h : okIm i) : dW2 (elI i) = (i.m : Int) := by
  have h1 := h.m
  unfold dW2
  rw [dW_rng]
  refine wwZ_of (by omega) (by omega) fun k hk => ?_
  rw [byN_off, byN_off, byN_off, elI_by, show 4 + (4 + (0 + k)) = 8 + k by omega, img_m i k hk, u64_id _ (by omega)]
theorem back3 (h : okIm i) : dW3 (elI i) = (i.h : Int) := by
  have h1 := h.h
  unfold dW3
  rw [dW_rng]
  refine wwZ_of (by omega) (by omega) fun k hk => ?_
  rw [byN_off, byN_off, byN_off, byN_off, elI_by, show 4 + (4 + (4 + (0 + k))) = 12 + k by omega, img_h i k hk, u64_id _ (by omega)]
theorem backN (h : okIm i) : (dW1 (elI i)).toNat = i.n ∧ (dW2 (elI i)).toNat = i.m ∧ (dW3 (elI i)).toNat = i.h := by
  rw [back1 h, back2 h, back3 h]; omega
theorem dE_n (h : okIm i) : (dE1 (imLen i) (elI i)).n = 4 * i.n + 8 * i.m + 4 * i.h ∧ (dE2 (imLen i) (elI i)).n = 8 * i.m + 4 * i.h ∧ (dE3 (imLen i) (elI i)).n = 4 * i.h ∧ (dE4 (imLen i) (elI i)).n = 0 := by
  obtain ⟨b1, b2, b3⟩ := backN h
  have e1 : (dE1 (imLen i) (elI i)).n = 4 * i.n + 8 * i.m + 4 * i.h := by show imLen i - 4 - 4 - 4 - 4 = _; unfold imLen; omega
  have e2 : (dE2 (imLen i) (elI i)).n = 8 * i.m + 4 * i.h := by show (dE1 (imLen i) (elI i)).n - 4 * (dW1 (elI i)).toNat = _; rw [e1, b1]; omega
  have e3 : (dE3 (imLen i) (elI i)).n = 4 * i.h := by show (dE2 (imLen i) (elI i)).n - 8 * (dW2 (elI i)).toNat = _; rw [e2, b2]; omega
  have e4 : (dE4 (imLen i) (elI i)).n = 0 := by show (dE3 (imLen i) (elI i)).n - 4 * (dW3 (elI i)).toNat = _; rw [e3, b3]; omega
  exact ⟨e1, e2, e3, e4⟩
theorem dE1_by (n : Nat) (el : Nat → List Value) (o k : Nat) : byN (offL (dE1 n el).el o) k = byN el (16 + o + k) := by
  show byN el (4 + (4 + (4 + (4 + (o + k))))) = _
  congr 1; omega
theorem dE2_by (n : Nat) (el : Nat → List Value) (o k : Nat) : byN (offL (dE2 n el).el o) k = byN el (16 + 4 * (dW1 el).toNat + o + k) := by
  show byN (offL (dE1 n el).el (4 * (dW1 el).toNat)) (o + k) = _
  rw [dE1_by]; congr 1; omega
theorem dE3_by (n : Nat) (el : Nat → List Value) (o k : Nat) : byN (offL (dE3 n el).el o) k = byN el (16 + 4 * (dW1 el).toNat + 8 * (dW2 el).toNat + o + k) := by
  show byN (offL (dE2 n el).el (8 * (dW2 el).toNat)) (o + k) = _
  rw [dE2_by]; congr 1; omega
theorem backSame (h : okIm i) (hw : wfIm i) : ImSame (dIm (imLen i) (elI i)) i := by
  obtain ⟨b1, b2, b3⟩ := backN h
  refine ⟨b1, b2, b3, fun j hj => ?_, fun j hj => ?_, fun j hj => ?_⟩
  · have hj : j < i.n := by have hj : j < (dW1 (elI i)).toNat := hj; omega
    have hc := hw.c j hj
    show wwZ (offL (dE1 (imLen i) (elI i)).el (4 * j)) = i.c j
    refine wwZ_of hc.1 hc.2 fun k hk => ?_
    rw [dE1_by, elI_by, img_c i j k hj hk, u64_id _ hc]
  · have hj : j < i.m := by have hj : j < (dW2 (elI i)).toNat := hj; omega
    have hd := hw.d j hj
    show nnZ (offL (dE2 (imLen i) (elI i)).el (8 * j)) = i.d j
    refine nnZ_of hd.1 hd.2 fun k hk => ?_
    rw [dE2_by, elI_by, b1, img_d i j k hj hk]
  · have hj : j < i.h := by have hj : j < (dW3 (elI i)).toNat := hj; omega
    have he := h.e j hj
    have hn := h.n
    show IntKind.i64.wrap (wwZ (offL (dE3 (imLen i) (elI i)).el (4 * j))) = i.e j
    rw [dW_rng]
    refine wwZ_of (by omega) (by omega) fun k hk => ?_
    rw [dE3_by, elI_by, b1, b2, img_e i j k hk, u64_id _ (by omega)]
theorem okIm_same {i k : Im} (h : okIm i) (hs : ImSame k i) : okIm k := ⟨by rw [hs.n]; exact h.n0, by rw [hs.n]; exact h.n, by rw [hs.m]; exact h.m, by rw [hs.h]; exact h.h0, by rw [hs.h]; exact h.h, fun j hj => by
  rw [hs.e j hj, hs.n]
  exact h.e j (by rw [← hs.h]; exact hj)⟩
theorem stB_iff (el : Nat → List Value) (h : isB 4 el) : stB el = false ↔ byN el 0 = 83 ∧ byN el 1 = 80 ∧ byN el 2 = 73 ∧ byN el 3 = 78 := by
  have e : strZ 4 (offL el 0) = ⟨#[UInt8.ofNat (byN el 0), UInt8.ofNat (byN el 1), UInt8.ofNat (byN el 2), UInt8.ofNat (byN el 3)]⟩ := by
    rw [strZ_eq, offL_zero]
    unfold strOf strOfNums
    have q : ∀ j, j < 4 → (S2.intOf (el j)).toNat = byN el j := fun j hj => by
      rw [h j hj]
      show ((byN el j : Nat) : Int).toNat = _
      exact Int.toNat_natCast _
    simp only [show List.range 4 = [0, 1, 2, 3] from rfl, List.map_cons, List.map_nil, q 0 (by decide), q 1 (by decide), q 2 (by decide), q 3 (by decide)]
  have hu : ∀ x y : Nat, x < 256 → y < 256 → (UInt8.ofNat x = UInt8.ofNat y ↔ x = y) := fun x y hx hy => ⟨fun e => by
    have := congrArg UInt8.toNat e
    simpa [UInt8.toNat_ofNat', Nat.mod_eq_of_lt hx, Nat.mod_eq_of_lt hy] using this, fun e => by rw [e]⟩
  have h0 := byN_lt el 0
  have h1 := byN_lt el 1
  have h2 := byN_lt el 2
  have h3 := byN_lt el 3
  unfold stB
  rw [e, Bool.not_eq_false', beq_iff_eq]
  constructor
  · intro q
    have q : [UInt8.ofNat (byN el 0), UInt8.ofNat (byN el 1), UInt8.ofNat (byN el 2), UInt8.ofNat (byN el 3)] = [UInt8.ofNat 83, UInt8.ofNat 80, UInt8.ofNat 73, UInt8.ofNat 78] := by
      rw [ByteArray.toList_eq, ByteArray.toList_eq] at q
      exact q
    simp only [List.cons.injEq, and_true] at q
    exact ⟨(hu _ _ h0 (by decide)).mp q.1, (hu _ _ h1 (by decide)).mp q.2.1, (hu _ _ h2 (by decide)).mp q.2.2.1, (hu _ _ h3 (by decide)).mp q.2.2.2⟩
  · rintro ⟨a, b, c, d⟩
    rw [a, b, c, d]; rfl
theorem backGood (h : okIm i) (hw : wfIm i) : dGood (imLen i) (elI i) := by
  obtain ⟨b1, b2, b3⟩ := backN h
  obtain ⟨e1, e2, e3, e4⟩ := dE_n h
  refine ⟨by unfold imLen; omega, by rw [e1, b1]; omega, by rw [e2, b2]; omega, by rw [e3, b3]; omega, e4, ?_, imE_ok (okIm_same h (backSame h hw))⟩
  refine (stB_iff (elI i) (elI_isB i 4)).mpr ?_
  have q : ∀ p, p < 4 → ((byN (elI i) p : Nat) : Int) = [83, 80, 73, 78].getD p 0 := fun p hp => by rw [elI_by, img_head i p hp]
  have q0 := q 0 (by decide)
  have q1 := q 1 (by decide)
  have q2 := q 2 (by decide)
  have q3 := q 3 (by decide)
  simp at q0 q1 q2 q3
  omega
end
/-! ### What is found has these bytes -/
theorem fwdW1 (n : Nat) (el : Nat → List Value) : ((dIm n el).n : Int) = wwZ (offL (offL el 4) 0) := by
  have := (wwZ_rng (offL (offL el 4) 0)).1
  show (((dW1 el).toNat : Nat) : Int) = _
  unfold dW1
  rw [dW_rng]; omega
theorem fwdW2 (n : Nat) (el : Nat → List Value) : ((dIm n el).m : Int) = wwZ (offL (offL (offL el 4) 4) 0) := by
  have := (wwZ_rng (offL (offL (offL el 4) 4) 0)).1
  show (((dW2 el).toNat : Nat) : Int) = _
  unfold dW2
  rw [dW_rng]; omega
theorem fwdW3 (n : Nat) (el : Nat → List Value) : ((dIm n el).h : Int) = wwZ (offL (offL (offL (offL el 4) 4) 4) 0) := by
  have := (wwZ_rng (offL (offL (offL (offL el 4) 4) 4) 0)).1
  show (((dW3 el).toNat : Nat) : Int) = _
  unfold dW3
  rw [dW_rng]; omega
theorem fwdLen {n : Nat} {el : Nat → List Value} (g : dGood n el) : n = 16 + 4 * (dIm n el).n + 8 * (dIm n el).m + 4 * (dIm n el).h := by
  obtain ⟨h16, c1, c2, c3, c4, _, _⟩ := g
  have e1 : (dE1 n el).n = n - 4 - 4 - 4 - 4 := rfl
  have e2 : (dE2 n el).n = (dE1 n el).n - 4 * (dW1 el).toNat := rfl
  have e3 : (dE3 n el).n = (dE2 n el).n - 8 * (dW2 el).toNat := rfl
  have e4 : (dE4 n el).n = (dE3 n el).n - 4 * (dW3 el).toNat := rfl
  show n = 16 + 4 * (dW1 el).toNat + 8 * (dW2 el).toNat + 4 * (dW3 el).toNat
  omega
theorem fwdBytes {n : Nat} {el : Nat → List Value} (hb : isB n el) (g : dGood n el) (p : Nat) (hp : p < n) : imgZ (dIm n el) p = ((byN el p : Nat) : Int) := by
  have hl := fwdLen g
  have ok := imE_zero g.ok
  have h16 := g.n16
  have k1 := wwZ_rng (offL (offL el 4) 0)
  have k2 := wwZ_rng (offL (offL (offL el 4) 4) 0)
  have k3 := wwZ_rng (offL (offL (offL (offL el 4) 4) 4) 0)
  rcases Nat.lt_or_ge p 4 with a | a
  · rw [img_head _ p a]
    obtain ⟨s0, s1, s2, s3⟩ := (stB_iff el (fun j hj => hb j (by omega))).mp g.st
    match p, a with
    | 0, _ => rw [s0]; rfl
    | 1, _ => rw [s1]; rfl
    | 2, _ => rw [s2]; rfl
    | 3, _ => rw [s3]; rfl
    | p + 4, a => omega
  rcases Nat.lt_or_ge p 8 with b | b
  · obtain ⟨k, rfl⟩ : ∃ k, p = 4 + k := ⟨p - 4, by omega⟩
    rw [img_n _ k (by omega), fwdW1, u64_id _ k1, byteZ_w _ k (by omega), byN_off, byN_off]
    congr 2; omega
  rcases Nat.lt_or_ge p 12 with c | c
  · obtain ⟨k, rfl⟩ : ∃ k, p = 8 + k := ⟨p - 8, by omega⟩
    rw [img_m _ k (by omega), fwdW2, u64_id _ k2, byteZ_w _ k (by omega), byN_off, byN_off, byN_off]
    congr 2; omega
  rcases Nat.lt_or_ge p 16 with d | d
  · obtain ⟨k, rfl⟩ : ∃ k, p = 12 + k := ⟨p - 12, by omega⟩
    rw [img_h _ k (by omega), fwdW3, u64_id _ k3, byteZ_w _ k (by omega), byN_off, byN_off, byN_off, byN_off]
    congr 2; omega
  rcases Nat.lt_or_ge p (16 + 4 * (dIm n el).n) with e | e
  · obtain ⟨j, k, hk, hj, rfl⟩ : ∃ j k, k < 4 ∧ j < (dIm n el).n ∧ p = 16 + 4 * j + k := ⟨(p - 16) / 4, (p - 16) % 4, by omega, by omega, by omega⟩
    rw [img_c _ j k hj hk]
    show byteZ (IntKind.u64.wrap (wwZ (offL (dE1 n el).el (4 * j)))) k = _
    rw [u64_id _ (wwZ_rng _), byteZ_w _ k hk, dE1_by]
  rcases Nat.lt_or_ge p (16 + 4 * (dIm n el).n + 8 * (dIm n el).m) with f | f
  · obtain ⟨j, k, hk, hj, rfl⟩ : ∃ j k, k < 8 ∧ j < (dIm n el).m ∧ p = 16 + 4 * (dIm n el).n + 8 * j + k := ⟨(p - 16 - 4 * (dIm n el).n) / 8, (p - 16 - 4 * (dIm n el).n) % 8, by omega, by omega, by omega⟩
    rw [img_d _ j k hj hk]
    show byteZ (IntKind.u64.wrap (nnZ (offL (dE2 n el).el (8 * j)))) k = _
    rw [byteZ_n _ k hk, dE2_by]; rfl
  · obtain ⟨j, k, hk, hj, rfl⟩ : ∃ j k, k < 4 ∧ j < (dIm n el).h ∧ p = 16 + 4 * (dIm n el).n + 8 * (dIm n el).m + 4 * j + k := ⟨(p - 16 - 4 * (dIm n el).n - 8 * (dIm n el).m) / 4, (p - 16 - 4 * (dIm n el).n - 8 * (dIm n el).m) % 4, by omega, by omega, by omega⟩
    rw [img_e _ j k hk]
    show byteZ (IntKind.u64.wrap (IntKind.i64.wrap (wwZ (offL (dE3 n el).el (4 * j))))) k = _
    rw [dW_rng, u64_id _ (wwZ_rng _), byteZ_w _ k hk, dE3_by]; rfl
/-! ### The walks -/
theorem imC_im (i : Im) : isIm i (imC i) := ⟨_, _, _, rfl, rfl, rfl, rfl⟩
theorem imC_ims (i : Im) : isImS i (imC i) := ⟨_, _, _, rfl, .refl _, .refl _, .refl _⟩
theorem imD_im (i : Im) : isIm i (imD i) := ⟨_, _, _, rfl, rfl, rfl, rfl⟩
theorem neSelf (x : Int) : (x != x) = false := by simp
theorem imageChecks_walk (i : Im) (v : Value) (w : World) (hw : wfIm i) (ha : ∀ o, ArgsOk w [imX o i] [v]) : Ret Try.prog 3 #[v] (.bool true) w := by
  have F := Try.func3
  refine LRet.plain ?_
  by_cases l1 : i.n > 2000
  · exact fn_ok (envN8_ok i) (ic_large1 i) (all_cons (ob_yes (by omega)) all_nil) F w [v] (GlobOk.none w) (ha false) fun t ht => by cases ht
  by_cases l2 : i.m > 5000
  · exact fn_ok (envN8_ok i) (ic_large2 i) (all_cons (ob_yes (by omega)) <| all_cons (ob_no (by omega)) all_nil) F w [v] (GlobOk.none w) (ha false) fun t ht => by cases ht
  by_cases l3 : i.h > 100
  · exact fn_ok (envN8_ok i) (ic_large3 i) (all_cons (ob_yes (by omega)) <| all_cons (ob_no (by omega)) <| all_cons (ob_no (by omega)) all_nil) F w [v] (GlobOk.none w) (ha false) fun t ht => by cases ht
  have hs : smallIm i := ⟨by omega, by omega, by omega⟩
  have L := all_cons (ob_no (show ¬ (i.h : Int) > 100 by omega)) <| all_cons (ob_no (show ¬ (i.m : Int) > 5000 by omega)) <| all_cons (ob_no (show ¬ (i.n : Int) > 2000 by omega)) all_nil
  have c : pre (propB (isIm i (imC i) ∧ smallIm i)) = true := propB_ok.mpr ⟨imC_im i, hs⟩
  by_cases h0 : imE i = 0
  · have ok := imE_zero h0
    have hsame := backSame ok hw
    have hg := backGood ok hw
    have hk : smallIm (dIm (imLen i) (elI i)) := ⟨by rw [hsame.n]; omega, by rw [hsame.m]; omega, by rw [hsame.h]; omega⟩
    refine fn_ok (envY8_ok i) (ic_yes i) ?_ F w [v] (GlobOk.none w) (ha false) fun t ht => by cases ht
    exact all_cons rfl <| all_cons (propB_ok.mpr ⟨imD_im _, imC_im i, hsame, hk⟩) <| all_cons rfl <| all_cons rfl <| all_cons (propB_ok.mpr (sameRows _ _ _ (by unfold imLen; omega) (fun p _ => (img_rng i p).1) (fun p _ => rfl) true false true)) <| all_cons c <| all_cons (propB_ok.mpr ⟨⟨.refl _, elI_isB i _, by unfold imLen; omega⟩, hg⟩) <|
      all_cons (by rw [h0]; rfl) <| all_cons (by rw [h0]; rfl) <| all_cons (neSelf _) <| all_cons c <| all_cons (propB_ok.mpr ⟨imC_ims i, ok, hw.c⟩) <| all_cons c L
  · refine fn_ok (envN8_ok i) (ic_no i) ?_ F w [v] (GlobOk.none w) (ha false) fun t ht => by cases ht
    exact all_cons rfl <| all_cons (by simpa using h0) <| all_cons (neSelf _) <| all_cons (neSelf _) <| all_cons c <| all_cons (propB_ok.mpr ⟨imC_ims i, h0, hs⟩) <| all_cons c L
theorem imageDecodes_list (n : Nat) (el : Nat → List Value) (hb : isB n el) (w : World) (vals : List Value) (ha : ArgsOk w [.inr (restE n el)] vals) : LRet Try.prog 4 vals false [.inl (.bool true)] w := by
  have F := Try.func4
  by_cases l1 : n > 5000
  · exact fn_ok (envDN8_ok n el) (id_large n el) (all_cons (ob_yes (by omega)) all_nil) F w vals (GlobOk.none w) ha fun t ht => by cases ht
  have hL : isL n el (restE n el) := ⟨.refl _, hb, by omega⟩
  by_cases g : dGood n el
  · have hl := fwdLen g
    have hs : smallIm (dIm n el) := ⟨by omega, by omega, by omega⟩
    have c : pre (propB (isIm (dIm n el) (imD (dIm n el)) ∧ smallIm (dIm n el))) = true := propB_ok.mpr ⟨imD_im (dIm n el), hs⟩
    refine fn_ok (envDY8_ok n el) (id_yes n el) ?_ F w vals (GlobOk.none w) ha fun t ht => by cases ht
    refine all_cons rfl <| all_cons (propB_ok.mpr ?_) <| all_cons c <| all_cons (by rw [g.ok]; rfl) <| all_cons c <| all_cons rfl <| all_cons (propB_ok.mpr ⟨hL, g⟩) <| all_cons (ob_no (by omega)) all_nil
    rw [← hl]
    exact sameRows n _ el (by omega) (fun p _ => (img_rng _ p).1) (fun p hp => by rw [fwdBytes hb g p hp]; exact hb p hp) false false true
  · exact fn_ok (envDN8_ok n el) (id_no n el) (all_cons rfl <| all_cons rfl <| all_cons rfl <| all_cons rfl <| all_cons (propB_ok.mpr ⟨hL, g⟩) <| all_cons (ob_no (by omega)) all_nil) F w vals (GlobOk.none w) ha fun t ht => by cases ht
theorem imageDecodes_walk (a : Option Addr) (len cap : Nat) (zs : List Int) (w : World) (h : SliceIn .u8 w a len cap zs) : Ret Try.prog 4 #[.slice a len cap] (.bool true) w := by
  refine LRet.plain (imageDecodes_list len (fun i => [.int .u8 (zs.getD i 0)]) (fun j hj => ?_) w [.slice a len cap] ⟨sliceIn_inB h _ false false true, trivial⟩)
  have := sliceIn_rng h j hj
  have hr : 0 ≤ zs.getD j 0 ∧ zs.getD j 0 < 256 := by
    simp only [Lit.wf, Bool.and_eq_true, decide_eq_true_eq] at this
    have e0 : IntKind.u8.min = 0 := rfl
    have e1 : IntKind.u8.max = 255 := rfl
    omega
  show [Value.int .u8 (zs.getD j 0)] = [Value.int .u8 (((zs.getD j 0).toNat % 256 : Nat) : Int)]
  congr 2
  omega
end Go.Proofs.Ytimgongaenpgkaa
