/- Layer 13: package cand: Decode. -/
import Derived.Test.YtmaffamhjmlonaaPEnc13
import Derived.Test.YtmaffamhjmlonaaLaw13B
import Derived.Test.YtmaffamhjmlonaaFine13
set_option linter.unusedVariables false
set_option linter.unusedSimpArgs false
namespace Go.Proofs.Ytmaffamhjmlonaa
open Go Go.RowKit Sim S2
noncomputable def deB : Code := codeOf Try.prog 11
noncomputable def deC (p : List Nat) : Code := codeAt deB p
noncomputable def de3 : Code := deC [0, 1, 1, 1]
noncomputable def de4 : Code := deC [0, 1, 1, 1, 1]
noncomputable def de5 : Code := deC [0, 1, 1, 1, 1, 1]
theorem deB_eq : deB = .seq (deC [0]) (.seq (deC [0, 1]) (.seq (deC [0, 1, 1]) (.seq (.region (regI de3) (regO de3) false) (.seq (.region (regI de4) (regO de4) false) (.seq (.region (regI de5) (regO de5) false) (deC [1, 1, 1, 1, 1, 1])))))) := by kernel_rfl
def nlV : Value := .slice none 0 0
def deS (T : List (Nat × S2.SV)) (bs : List S2.Blk) (ls : List LE) : S2.St := { tmps := T, own := ⟨bs, ls⟩, lo := 0, llo := 0, mem := true, orc := [], obl := [] }
def de0 (B : List Int) : S2.St := deS [(0, .c 0)] [] [rsE B]
def de1 (B : List Int) : S2.St := deS [(0, .c 0), (2, .inr (0, 0, none))] [zB nlV nlV] [rsE B]
def de2 (B : List Int) : S2.St := deS [(0, .c 0), (2, .inr (0, 0, none)), (4, .inr (1, 0, none))] [zB nlV nlV, rdK 0 false] [rsE B]
def deS3 (B : List Int) : S2.St := deS [(0, .c 0), (2, .inr (0, 0, none)), (4, .inr (1, 0, none)), (5, .inr (2, 0, none))] [zB nlV nlV, rdK 0 false, zB nlV nlV] [rsE B]
def deA3 (B : List Int) : S2.St := deS [(0, .c 0), (2, .inr (0, 0, none)), (4, .inr (1, 0, none)), (5, .inr (2, 0, none)), (11, .inr (1, 0, none)), (13, .fn 27 [.a 1 0] [])] [zB nlV nlV, rdK 0 false, zB nlV nlV] [rsE B]
def deS4 (B B1 : List Int) (b : Bool) (v : Value) : S2.St := deS [(0, .c 0), (2, .inr (0, 0, none)), (4, .inr (1, 0, none)), (5, .inr (2, 0, none))] [zB nlV nlV, rdK 1 b, zB v nlV] [rsE B, rsE B1]
def deA4 (B B1 : List Int) (b : Bool) (v : Value) : S2.St := deS [(0, .c 0), (2, .inr (0, 0, none)), (5, .inr (2, 0, none)), (16, .inr (1, 0, none)), (18, .fn 29 [.a 1 0] [])] [zB nlV nlV, rdK 1 b, zB v nlV] [rsE B, rsE B1]
def deS5 (B : List Int) (v u : Value) : S2.St := deS [(0, .c 0), (2, .inr (0, 0, none)), (5, .inr (1, 0, none))] [zB nlV nlV, zB v u] [rsE B]
def deA5 (B : List Int) (v u : Value) : S2.St := deS [(0, .c 0), (2, .inr (0, 0, none)), (5, .inr (1, 0, none)), (22, .inl ([true, true], .agg #[v, u]))] [zB nlV nlV, zB v u] [rsE B]
def deS6 (B E : List Int) (v u : Value) (k : Int) : S2.St := deS [(0, .c 0), (2, .inr (0, 0, none)), (5, .inr (1, 0, none)), (6, .c 1), (7, .inl ([true], .int .i64 k))] [zB nlV nlV, zB v u] [rsE B, byE E]
section
variable (w0 : S2.Base) (hG : GlobB (enH13 eNB) w0)
include hG
theorem de_r0 (B : List Int) : SemA (enH13 eNB) w0 0 1 36 (deC [0]) (de0 B) none (de1 B) :=
 semA_iter enB_ok hG (p := { ts := [0, 2], bs := [0], ls := [0], opb := [0] }) (fuel := 1000) [] [] (by kernel_rfl) (by kernel_rfl) qZ
theorem de_r1 (B : List Int) : SemA (enH13 eNB) w0 0 1 36 (deC [0, 1]) (de1 B) none (de2 B) :=
 semA_iter enB_ok hG (p := { ts := [0, 2, 4], bs := [0, 1], ls := [0], opb := [0, 1] }) (fuel := 1000) [] [] (by kernel_rfl) (by kernel_rfl) qZ
theorem de_r2 (B : List Int) : SemA (enH13 eNB) w0 0 1 36 (deC [0, 1, 1]) (de2 B) none (deS3 B) :=
 semA_iter enB_ok hG (p := { ts := [0, 2, 4, 5], bs := [0, 1, 2], ls := [0], opb := [0, 1, 2] }) (fuel := 1000) [] [] (by kernel_rfl) (by kernel_rfl) qZ
end
noncomputable def opX (c : Code) (k : Nat) : Oper := ((regO c).toList[k]?).getD default
theorem de3_ops : (regO de3).toList = (regO de3).toList.take 3 ++ opX de3 3 :: (regO de3).toList.drop 4 := by kernel_rfl
theorem de4_ops : (regO de4).toList = (regO de4).toList.take 3 ++ opX de4 3 :: (regO de4).toList.drop 4 := by kernel_rfl
theorem de5_ops : (regO de5).toList = (regO de5).toList.take 1 ++ opX de5 1 :: (regO de5).toList.drop 2 := by kernel_rfl
theorem de3_a (B : List Int) : runOps (enH13 eNB) 1000 36 (regO de3) ((regO de3).toList.take 3) { ts := [0, 2, 4, 5, 11, 13], bs := [0, 1, 2], ls := [0] } [] (deS3 B) = some (deA3 B, []) := by kernel_rfl
theorem de4_a (B B1 : List Int) (b : Bool) (v : Value) : runOps (enH13 eNB) 1000 36 (regO de4) ((regO de4).toList.take 3) { ts := [0, 2, 5, 16, 18], bs := [0, 1, 2], ls := [0, 1] } [] (deS4 B B1 b v) = some (deA4 B B1 b v, []) := by kernel_rfl
theorem de5_a (B : List Int) (v u : Value) : runOps (enH13 eNB) 1000 36 (regO de5) ((regO de5).toList.take 1) { ts := [0, 2, 5, 22], bs := [0, 1], ls := [0] } [] (deS5 B v u) = some (deA5 B v u, []) := by kernel_rfl
def deB3 (B B1 : List Int) (b : Bool) (a : Option Addr) (n c : Nat) : S2.St := deS ((14, .inl ([true], .slice a n c)) :: (deA3 B).tmps) [zB nlV nlV, rdK 1 b, zB nlV nlV] [rsE B, rsE B1]
def deB4 (B B1 B2 : List Int) (b : Bool) (v : Value) (a : Option Addr) (n c : Nat) : S2.St := deS ((19, .inl ([true], .slice a n c)) :: (deA4 B B1 b v).tmps) [zB nlV nlV, rdK 2 b, zB v nlV] [rsE B, rsE B1, rsE B2]
def deB5 (B E : List Int) (v u : Value) (k : Int) : S2.St := deS ((23, .tp [.inr 1, .inl ([true], .int .i64 k)]) :: (deA5 B v u).tmps) [zB nlV nlV, zB v u] [rsE B, byE E]
theorem de3_b (B B1 : List Int) (b : Bool) (a : Option Addr) (n c : Nat) : runOps (enH13 eNB) 1000 36 (regO de3) ((regO de3).toList.drop 4) { ts := [0, 2, 4, 5], bs := [0, 1, 2], ls := [0, 1] } [] (deB3 B B1 b a n c) = some (deS4 B B1 b (.slice a n c), []) := by kernel_rfl
theorem de4_b (B B1 B2 : List Int) (b : Bool) (v : Value) (a : Option Addr) (n c : Nat) : runOps (enH13 eNB) 1000 36 (regO de4) ((regO de4).toList.drop 4) { ts := [0, 2, 5], bs := [0, 2], ls := [0] } [] (deB4 B B1 B2 b v a n c) = some (deS5 B v (.slice a n c), []) := by kernel_rfl
theorem de5_b (B E : List Int) (v u : Value) (k : Int) : runOps (enH13 eNB) 1000 36 (regO de5) ((regO de5).toList.drop 2) { ts := [0, 2, 5, 6, 7], bs := [0, 1], ls := [0, 1] } [] (deB5 B E v u k) = some (deS6 B E v u k, []) := by kernel_rfl
noncomputable def de6 : Code := deC [1, 1, 1, 1, 1, 1]
def deT (B : List Int) (v u : Value) (k : Int) : S2.St := deS [(2, .inr (0, 0, none)), (3, .inl ([], .int .i64 k))] [zB v u] [rsE B]
def de6P : Pick := { ts := [2, 3], bs := [0], ls := [0], opb := [0] }
theorem by_bytes (B : List Int) : pre (bytesB (byE B).n (byE B).el) = true := by
 unfold pre bytesB
 exact @decide_eq_true _ (Classical.propDecidable _) fun j hj => rfl
theorem rs_bytes (B : List Int) : pre (bytesB (rsE B).n (rsE B).el) = true := by
 unfold pre bytesB
 exact @decide_eq_true _ (Classical.propDecidable _) fun j hj => rfl
noncomputable def sameS (E B : List Int) : Bool := (strZ (byE E).n (byE E).el).toList == (strZ (rsE B).n (rsE B).el).toList
section
variable (w0 : S2.Base) (hG : GlobB (enH13 eNB) w0)
include hG
theorem de6_t (B E : List Int) (a b : Option Addr) (n c m d : Nat) (k : Int) (hk : k ≠ 0) : SemA (enH13 eNB) w0 0 1 36 de6 (deS6 B E (.slice a n c) (.slice b m d) k) (some none) (deT B nlV nlV 1) :=
 semA_iter enB_ok hG (p := de6P) (fuel := 1000) [true] [(k != 0, true)] (by kernel_rfl) (by kernel_rfl) (qA (by simpa using hk) qZ)
theorem de6_ft (B E : List Int) (a b : Option Addr) (n c m d : Nat) (hs : sameS E B = false) : SemA (enH13 eNB) w0 0 1 36 de6 (deS6 B E (.slice a n c) (.slice b m d) 0) (some none) (deT B nlV nlV 1) := by
 have h : ∀ k : Int, k = 0 -> SemA (enH13 eNB) w0 0 1 36 de6 (deS6 B E (.slice a n c) (.slice b m d) k) (some none) (deT B nlV nlV 1) := fun k hk =>
   semA_iter enB_ok hG (p := de6P) (fuel := 1000) [false, true] [(!sameS E B, true), (pre (bytesB (rsE B).n (rsE B).el), true), (pre (bytesB (byE E).n (byE E).el), true), (k != 0, false)] (by kernel_rfl) (by kernel_rfl) (qA (by rw [hs]; rfl) <| qA (rs_bytes B) <| qA (by_bytes E) <| qA (by rw [hk]; rfl) qZ)
 exact h 0 rfl
theorem de6_ff (B E : List Int) (a b : Option Addr) (n c m d : Nat) (hs : sameS E B = true) : SemA (enH13 eNB) w0 0 1 36 de6 (deS6 B E (.slice a n c) (.slice b m d) 0) (some none) (deT B (.slice a n c) (.slice b m d) 0) := by
 have h : ∀ k : Int, k = 0 -> SemA (enH13 eNB) w0 0 1 36 de6 (deS6 B E (.slice a n c) (.slice b m d) k) (some none) (deT B (.slice a n c) (.slice b m d) 0) := fun k hk =>
   semA_iter enB_ok hG (p := de6P) (fuel := 1000) [false, false] [(!sameS E B, false), (pre (bytesB (rsE B).n (rsE B).el), true), (pre (bytesB (byE E).n (byE E).el), true), (k != 0, false)] (by kernel_rfl) (by kernel_rfl) (qA (by rw [hs]; rfl) <| qA (rs_bytes B) <| qA (by_bytes E) <| qA (by rw [hk]; rfl) qZ)
 exact h 0 rfl
theorem de3_cx (B : List Int) (hB : B.length <= 1000000000000) : CX Try.prog 36 0 1 w0 (deS3 B) (.region (regI de3) (regO de3) false) fun x w1 s1 => x = none /\ w1.toWorld = w0.toWorld /\ FLe w0.F w1.F /\ ∃ a n c, s1 = deS4 B (xhO B false).2.1 (xhO B false).2.2 (.slice a n c) /\ xhRow w1.F (.slice a n c) (xhO B false).1 := by
 refine CX.mid (E := enH13 eNB) enB_ok hG (l1 := (regO de3).toList.take 3) (o := opX de3 3) (l2 := (regO de3).toList.drop 4) (d := 14) [] [] (s1 := deA3 B) (f := 26) (args := [.inr (1, 0, none), .inl ([], .int .i64 8), .fn 27 [.a 1 0] []]) de3_ops (by kernel_rfl) (de3_a B) qZ (by kernel_rfl) (by kernel_rfl) (by decide) (by kernel_rfl) (by kernel_rfl) ⟨_, Try.func26, by kernel_rfl, by kernel_rfl⟩ fun ν1 w1 vs hw hvs => ?_
 refine (xh_calls nlV nlV nlV nlV B false hB w0 hG hvs hw).mono fun e w2 h => ?_
 obtain ⟨wb, ν2, v, q1, q2, q3, q4, q5, el, hrow, hok⟩ := h
 obtain ⟨a, cap, hv⟩ := outE_one hrow
 subst hv
 exact ⟨_, wb, ν2, .inl ([true], _), _, deS4 B (xhO B false).2.1 (xhO B false).2.2 (.slice a _ cap), _, [], [], q4, q3, rfl, q5, glob_at hG enB_bt q1, by kernel_rfl, de3_b B (xhO B false).2.1 (xhO B false).2.2 a _ cap, qZ, rfl, q1, q2, a, _, cap, rfl, el, hrow, hok⟩
theorem de4_cx (B B1 : List Int) (hB : B1.length <= 1000000000000) (b : Bool) (v : Value) : CX Try.prog 36 0 1 w0 (deS4 B B1 b v) (.region (regI de4) (regO de4) false) fun x w1 s1 => x = none /\ w1.toWorld = w0.toWorld /\ FLe w0.F w1.F /\ ∃ a n c, s1 = deS5 B v (.slice a n c) /\ xrRow w1.F (.slice a n c) (xrO B1 b).1 := by
 refine CX.mid (E := enH13 eNB) enB_ok hG (l1 := (regO de4).toList.take 3) (o := opX de4 3) (l2 := (regO de4).toList.drop 4) (d := 19) [] [] (s1 := deA4 B B1 b v) (f := 28) (args := [.inr (1, 0, none), .inl ([], .int .i64 8192), .fn 29 [.a 1 0] []]) de4_ops (by kernel_rfl) (de4_a B B1 b v) qZ (by kernel_rfl) (by kernel_rfl) (by decide) (by kernel_rfl) (by kernel_rfl) ⟨_, Try.func28, by kernel_rfl, by kernel_rfl⟩ fun ν1 w1 vs hw hvs => ?_
 refine (xr_calls nlV nlV v nlV B B1 b hB w0 hG hvs hw).mono fun e w2 h => ?_
 obtain ⟨wb, ν2, u, q1, q2, q3, q4, q5, el, hrow, hok⟩ := h
 obtain ⟨a, cap, hv⟩ := outE_one hrow
 subst hv
 exact ⟨_, wb, ν2, .inl ([true], _), _, deS5 B v (.slice a _ cap), _, [], [], q4, q3, rfl, q5, glob_at hG enB_bt q1, by kernel_rfl, de4_b B B1 (xrO B1 b).2.1 (xrO B1 b).2.2 v a _ cap, qZ, rfl, q1, q2, a, _, cap, rfl, el, hrow, hok⟩
end
end Go.Proofs.Ytmaffamhjmlonaa
