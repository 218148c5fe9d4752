/- Contracts of the answers by definition for layer 8: images. -/
import Derived.Test.YtimgongaenpgkaaDoorS2I
import Derived.Test.YtimgongaenpgkaaDoorBytesL
namespace Go.Proofs.YtimgongaenpgkaaDoor
open Go.RowKit Sim S2
set_option linter.unusedVariables false
set_option linter.unusedSimpArgs false

noncomputable def env8 : S2.Env := envq Tryd.prog (fun _ => none) noT noP noL
theorem env8_ok : CallOk env8 := envq_ok (.none _ _) (.none _ _) (.none _ _)
/-! ### Images, as arguments -/
def w32L (o : Bool) (n : Nat) (c : Nat → Int) : LE := ⟨41, 1, n, fun i => [.int .u32 (c i)], o, false, true⟩
def intL (o : Bool) (n : Nat) (c : Nat → Int) : LE := ⟨3, 1, n, fun i => [.int .i64 (c i)], o, false, true⟩
/-- Code, data, entries. -/
structure Im where
  n : Nat
  m : Nat
  h : Nat
  c : Nat → Int
  d : Nat → Int
  e : Nat → Int
def imX (o : Bool) (i : Im) : XV := .st [.inr (w32L o i.n i.c), .inr (intL o i.m i.d), .inr (intL o i.h i.e)]
def imLs (i : Im) : List LE := [w32L false i.n i.c, intL false i.m i.d, intL false i.h i.e]
/-- The struct in a cell of the call's own. -/
def imB : S2.Blk := ⟨[.c 0, .c 1, .c 2], 25, .cells⟩
/-- Which error an image has. -/
def badE (i : Im) (j : Nat) : Bool := decide (i.e j < 0 ∨ i.e j > (i.n : Int) - 1)
def imE (i : Im) : Int := if i.n > 262144 ∨ i.m > 4096 then 3 else if i.n < 1 ∨ i.h < 1 ∨ i.h > 8 then 2 else if (List.range i.h).any (badE i) then 2 else 0
def rkR : S2.St := { tmps := [(2, .inl ([], .int .i64 2))], own := ⟨[], []⟩, lo := 0, llo := 0, mem := true, orc := [], obl := [] }
theorem first_bad (f : Nat → Bool) : ∀ (h : Nat), (List.range h).any f = true → ∃ k, k < h ∧ f k = true ∧ ∀ j, j < k → f j = false
  | 0, hf => by simp at hf
  | h + 1, hf => by
    cases hp : (List.range h).any f
    · rw [List.range_succ, List.any_append, hp] at hf
      simp at hf
      refine ⟨h, by omega, hf, fun j hj => ?_⟩
      rw [List.any_eq_false] at hp
      simpa using hp j (List.mem_range.mpr hj)
    · obtain ⟨k, h1, h2, h3⟩ := first_bad f h hp
      exact ⟨k, by omega, h2, h3⟩
/-- The bytes of an image. -/
noncomputable def imgZ0 (i : Im) (p : Nat) : Int :=
  if p < 4 then [83, 80, 73, 78].getD p 0 else if p < 8 then byteZ (IntKind.u64.wrap i.n) (p - 4) else if p < 12 then byteZ (IntKind.u64.wrap i.m) (p - 8) else if p < 16 then byteZ (IntKind.u64.wrap i.h) (p - 12)
  else if p < 16 + 4 * i.n then byteZ (IntKind.u64.wrap (i.c ((p - 16) / 4))) ((p - 16) % 4)
  else if p < 16 + 4 * i.n + 8 * i.m then byteZ (IntKind.u64.wrap (i.d ((p - 16 - 4 * i.n) / 8))) ((p - 16 - 4 * i.n) % 8)
  else byteZ (IntKind.u64.wrap (i.e ((p - 16 - 4 * i.n - 8 * i.m) / 4))) ((p - 16 - 4 * i.n - 8 * i.m) % 4)
theorem imgZ_ex : ∃ f : Im → Nat → Int, ∀ i p, f i p = imgZ0 i p := ⟨_, fun _ _ => rfl⟩
noncomputable def imgZ : Im → Nat → Int := Classical.choose imgZ_ex
theorem imgZ_eq (i : Im) (p : Nat) : imgZ i p = imgZ0 i p := Classical.choose_spec imgZ_ex i p
theorem img_head (i : Im) (p : Nat) (hp : p < 4) : imgZ i p = [83, 80, 73, 78].getD p 0 := by rw [imgZ_eq]; unfold imgZ0; rw [if_pos hp]
theorem img_n (i : Im) (k : Nat) (hk : k < 4) : imgZ i (4 + k) = byteZ (IntKind.u64.wrap i.n) k := by
  rw [imgZ_eq]; unfold imgZ0
  rw [if_neg (by omega), if_pos (by omega), show 4 + k - 4 = k by omega]
theorem img_m (i : Im) (k : Nat) (hk : k < 4) : imgZ i (8 + k) = byteZ (IntKind.u64.wrap i.m) k := by
  rw [imgZ_eq]; unfold imgZ0
  rw [if_neg (by omega), if_neg (by omega), if_pos (by omega), show 8 + k - 8 = k by omega]
theorem img_h (i : Im) (k : Nat) (hk : k < 4) : imgZ i (12 + k) = byteZ (IntKind.u64.wrap i.h) k := by
  rw [imgZ_eq]; unfold imgZ0
  rw [if_neg (by omega), if_neg (by omega), if_neg (by omega), if_pos (by omega), show 12 + k - 12 = k by omega]
theorem img_c (i : Im) (j k : Nat) (hj : j < i.n) (hk : k < 4) : imgZ i (16 + 4 * j + k) = byteZ (IntKind.u64.wrap (i.c j)) k := by
  rw [imgZ_eq]; unfold imgZ0
  rw [if_neg (by omega), if_neg (by omega), if_neg (by omega), if_neg (by omega), if_pos (by omega), show (16 + 4 * j + k - 16) / 4 = j by omega, show (16 + 4 * j + k - 16) % 4 = k by omega]
theorem img_d (i : Im) (j k : Nat) (hj : j < i.m) (hk : k < 8) : imgZ i (16 + 4 * i.n + 8 * j + k) = byteZ (IntKind.u64.wrap (i.d j)) k := by
  rw [imgZ_eq]; unfold imgZ0
  rw [if_neg (by omega), if_neg (by omega), if_neg (by omega), if_neg (by omega), if_neg (by omega), if_pos (by omega), show (16 + 4 * i.n + 8 * j + k - 16 - 4 * i.n) / 8 = j by omega, show (16 + 4 * i.n + 8 * j + k - 16 - 4 * i.n) % 8 = k by omega]
theorem img_e (i : Im) (j k : Nat) (hk : k < 4) : imgZ i (16 + 4 * i.n + 8 * i.m + 4 * j + k) = byteZ (IntKind.u64.wrap (i.e j)) k := by
  rw [imgZ_eq]; unfold imgZ0
  rw [if_neg (by omega), if_neg (by omega), if_neg (by omega), if_neg (by omega), if_neg (by omega), if_neg (by omega), show (16 + 4 * i.n + 8 * i.m + 4 * j + k - 16 - 4 * i.n - 8 * i.m) / 4 = j by omega, show (16 + 4 * i.n + 8 * i.m + 4 * j + k - 16 - 4 * i.n - 8 * i.m) % 4 = k by omega]
theorem by0_el (i : Im) : ∀ p, p < 16 → joinE 12 (joinE 8 (joinE 4 (tabE (chunks 1 4 [.int .u8 83, .int .u8 80, .int .u8 73, .int .u8 78])) (bytesE 4 (byteZ (IntKind.u64.wrap i.n))).el) (bytesE 4 (byteZ (IntKind.u64.wrap i.m))).el) (bytesE 4 (byteZ (IntKind.u64.wrap i.h))).el p = [Value.int .u8 (imgZ i p)] := by
  have h0 : ∀ p, p < 4 → tabE (chunks 1 4 [.int .u8 83, .int .u8 80, .int .u8 73, .int .u8 78]) p = [Value.int .u8 (imgZ i p)] := fun p hp => by
    rw [img_head i p hp]
    match p, hp with
    | 0, _ => rfl
    | 1, _ => rfl
    | 2, _ => rfl
    | 3, _ => rfl
    | p + 4, hp => exact absurd hp (by omega)
  have h1 : ∀ p, p < 4 + 4 → joinE 4 (tabE (chunks 1 4 [.int .u8 83, .int .u8 80, .int .u8 73, .int .u8 78])) (bytesE 4 (byteZ (IntKind.u64.wrap i.n))).el p = [Value.int .u8 (imgZ i p)] := fun p hp => by
    unfold joinE
    cases hb : Nat.blt p 4
    · have : ¬ p < 4 := by intro hc; rw [← Nat.blt_eq, hb] at hc; cases hc
      have e := img_n i (p - 4) (by omega)
      rw [show 4 + (p - 4) = p by omega] at e
      show [Value.int .u8 (byteZ (IntKind.u64.wrap i.n) (p - 4))] = _
      rw [e]
    · exact h0 p (by simpa [Nat.blt_eq] using hb)
  have h2 : ∀ p, p < 8 + 4 → joinE 8 (joinE 4 (tabE (chunks 1 4 [.int .u8 83, .int .u8 80, .int .u8 73, .int .u8 78])) (bytesE 4 (byteZ (IntKind.u64.wrap i.n))).el) (bytesE 4 (byteZ (IntKind.u64.wrap i.m))).el p = [Value.int .u8 (imgZ i p)] := fun p hp => by
    unfold joinE
    cases hb : Nat.blt p 8
    · have : ¬ p < 8 := by intro hc; rw [← Nat.blt_eq, hb] at hc; cases hc
      have e := img_m i (p - 8) (by omega)
      rw [show 8 + (p - 8) = p by omega] at e
      show [Value.int .u8 (byteZ (IntKind.u64.wrap i.m) (p - 8))] = _
      rw [e]
    · exact h1 p (by have : p < 8 := by simpa [Nat.blt_eq] using hb
                     omega)
  intro p hp
  unfold joinE
  cases hb : Nat.blt p 12
  · have : ¬ p < 12 := by intro hc; rw [← Nat.blt_eq, hb] at hc; cases hc
    have e := img_h i (p - 12) (by omega)
    rw [show 12 + (p - 12) = p by omega] at e
    show [Value.int .u8 (byteZ (IntKind.u64.wrap i.h) (p - 12))] = _
    rw [e]
  · exact h2 p (by have : p < 12 := by simpa [Nat.blt_eq] using hb
                   omega)
end Go.Proofs.YtimgongaenpgkaaDoor
