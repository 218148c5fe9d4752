/- Contracts of package dec (layer 5) on lists of bytes, by the evaluator with lists. -/
import Derived.Test.YtppjkdlpmmalaaaDoorDecode
import Derived.Test.YtppjkdlpmmalaaaDoorLists04
namespace Go.Proofs.YtppjkdlpmmalaaaDoor
open Go.RowKit Sim S2
set_option linter.unusedVariables false
set_option linter.unusedSimpArgs false

/-- A list of bytes that came in. -/
def bytesIn (n : Nat) (f : Nat → Nat) : LE := ⟨5, 1, n, fun i => [.int .u8 ((f i : Nat) : Int)], false, false, true⟩
/-- The word of four bytes; the kernel does not look into it. -/
theorem w4_ex : ∃ g : (Nat → Nat) → Nat → Int, ∀ f p, g f p = ((joinN (fun i => f (p + i)) 4 : Nat) : Int) := ⟨_, fun _ _ => rfl⟩
noncomputable def w4 : (Nat → Nat) → Nat → Int := Classical.choose w4_ex
theorem w4_eq (f : Nat → Nat) (p : Nat) : w4 f p = ((joinN (fun i => f (p + i)) 4 : Nat) : Int) := Classical.choose_spec w4_ex f p
theorem w4_rng (f : Nat → Nat) (p : Nat) (hf : ∀ i, f i < 256) : w32B (w4 f p) = true := by
  have := joinN_lt (fun i => f (p + i)) 4 (fun i => hf (p + i))
  rw [w4_eq]
  simp [w32B]
  omega
noncomputable def lWord (n : Nat) (f : Nat → Nat) : LTab := lrow 33 fun args => match args with
  | [.inr e, .inl (.int .i64 p)] => some (false, [.inl (.tuple #[.int .u32 (w4 f p.toNat), .int .i64 0])], pre (propB (e = bytesIn n f ∧ n ≤ 1000000000000 ∧ 0 ≤ p ∧ p + 4 ≤ n ∧ ∀ i, f i < 256)))
  | _ => none
theorem lWord_ok {gl : Nat → Option (List Value)} (n : Nat) (f : Nat → Nat) : LTabOk Tryd.prog gl (lWord n f) := .row fun args tup res h w vals hG ha => by
  split at h
  · rename_i e p
    simp only [Option.some.injEq, Prod.mk.injEq] at h
    obtain ⟨rfl, rfl, hp⟩ := h
    obtain ⟨rfl, hn, p0, p1, hf⟩ := propB_ok.mp hp
    cases vals with
    | nil => exact ha.elim
    | cons u r =>
      obtain ⟨⟨_, a, cap, hu, hcap, hc⟩, hr⟩ := ha
      rw [args1 hr]
      obtain ⟨p, rfl⟩ := Int.eq_ofNat_of_zero_le p0
      have hlt : 0 < (bytesIn n f).n := by show 0 < n; omega
      obtain ⟨b, off, rfl, hb, hcell⟩ := hc hlt
      have hu : u = .slice (some ⟨b, off, none⟩) n cap := hu
      subst hu
      refine (Ret.of_same (word_yes w b off n cap p (fun i => f (p + i)) (by omega) (by omega) (fun i hi => ?_) (fun i => hf _))).mono fun e w' ⟨he, hbel⟩ => ⟨[_], he, ⟨by rw [w4_eq, Int.toNat_natCast], trivial⟩, hbel⟩
      have := hcell (p + i) (by show p + i < n; omega) 0 (.int .u8 ((f (p + i) : Nat) : Int)) rfl
      have e1 : (bytesIn n f).size = 1 := rfl
      rw [e1, Nat.mul_one, Nat.add_zero] at this
      exact this
  · cases h
noncomputable def insD (n : Nat) (f : Nat → Nat) : LE := ⟨24, 7, n, fun j => inC (decodeZ (w4 f (4 * j))), true, false, true⟩
noncomputable def envD (n : Nat) (f : Nat → Nat) : S2.Env := env Tryd.prog decGl noT pDecodeD (lWord n f)
theorem envD_ok (n : Nat) (f : Nat → Nat) : CallOk (envD n f) := env_ok (.none _ _) pDecodeD_ok (lWord_ok n f)
noncomputable def daS (m : Nat) (f : Nat → Nat) (j : Nat) : S2.St := { tmps := [(0, .c 0), (4, .c 1), (5, .inl ([true], .int .i64 ((4 * j : Nat) : Int)))], own := ⟨[], [bytesIn (4 * m) f, insD j f]⟩, lo := 0, llo := 0, mem := true, orc := [], obl := [] }
noncomputable def daP (f : Nat → Nat) : Pick := { ts := [0, 4, 5], bs := [], ls := [0, 1], nil := [(4, 24, 7, (insD 0 f).el)], opn := [5] }
def daPath : List Nat := [0, 1, 0, 1, 1, 1]
noncomputable def daC : Code := codeAt (codeOf Tryd.prog 13) (0 :: daPath)
theorem da_step (m : Nat) (f : Nat → Nat) (hm : m ≤ 1000000000) (hf : ∀ i, f i < 256) (j : Nat) (hj : j < m) (w : World) (hG : GlobOk decGl w) : S2.Sem (envD (4 * m) f) w 30 daC (daS m f j) none (daS m f (j + 1)) :=
  (sem_iter (envD_ok (4 * m) f) hG (p := { ts := [0, 4, 5], bs := [], ls := [0, 2] }) (fuel := 1000) (s' := { daS m f (j + 1) with own := ⟨[], [bytesIn (4 * m) f, ⟨24, 7, j + 1, joinE j (insD j f).el (tabE [inC (decodeZ (w4 f (4 * j)))]), true, false, true⟩]⟩ }) [true]
    [(pre (inI (((4 * j : Nat) : Int) + 4)), true), (pre (decide (j + 1 ≤ maxLen ∧ (j + 1) * 48 ≤ 140737488355328 ∧ 0 < 1)), true), (pre (w32B (w4 f (4 * j))), true), (pre (propB (bytesIn (4 * m) f = bytesIn (4 * m) f ∧ 4 * m ≤ 1000000000000 ∧ (0 : Int) ≤ ((4 * j : Nat) : Int) ∧ ((4 * j : Nat) : Int) + 4 ≤ ((4 * m : Nat) : Int) ∧ ∀ i, f i < 256)), true), (decide (((4 * j : Nat) : Int) < ((4 * m : Nat) : Int)), true)]
    (by kernel_rfl) (by kernel_rfl) (all_cons (ob_inI (by omega)) <| all_cons (ob_app (by omega) (by decide) (by decide)) <| all_cons (by unfold pre; exact w4_rng f _ hf) <| all_cons (propB_ok.mpr ⟨rfl, by omega, by omega, by omega, hf⟩) <| all_cons (ob_yes (by omega)) all_nil)).same rfl rfl ⟨.refl _, ⟨rfl, rfl, rfl, rfl, rfl, joinE_one rfl⟩, trivial⟩ rfl
theorem da_last (m : Nat) (f : Nat → Nat) (w : World) (hG : GlobOk decGl w) : S2.Sem (envD (4 * m) f) w 30 daC (daS m f m) (some (some 0)) (daS m f m) :=
  sem_iter (envD_ok (4 * m) f) hG (p := { ts := [0, 4, 5], bs := [], ls := [0, 1] }) (fuel := 1000) [false] [(decide (((4 * m : Nat) : Int) < ((4 * m : Nat) : Int)), false)] (by kernel_rfl) (by kernel_rfl) (all_cons (ob_no (by omega)) all_nil)
theorem decAll_yes (m : Nat) (f : Nat → Nat) (hm : m ≤ 1000000000) (hf : ∀ i, f i < 256) (w : World) (vals : List Value) (hG : GlobOk decGl w) (ha : ArgsOk w [.inr (bytesIn (4 * m) f)] vals) :
    LRet Tryd.prog 13 vals true [.inr (insD m f), .inl (.int .i64 0)] w := by
  refine fn_ok (envD_ok (4 * m) f) (fuel := 1000) (d := 30) (plan := [⟨daPath, daP f, some (some 0), daS m f m⟩]) (orc := [false]) (fls := [[]]) (l := [((((4 * m : Nat) : Int)).tmod 4 != 0, false)]) (tr := [⟨.loop daC, daS m f 0, some (some 0), daS m f m⟩]) (by kernel_rfl)
    (all_cons (by rw [Int.tmod_eq_emod_of_nonneg (by omega)]; first | (simp; done) | (simp; omega)) all_nil) Tryd.func13 w vals hG ha fun t ht => ?_
  obtain rfl := List.mem_singleton.mp ht
  exact sem_loop (daS m f) m (by simp) (fun j hj => da_step m f hm hf j hj w hG) (da_last m f w hG)
theorem decAll_no (n : Nat) (f : Nat → Nat) (hn : n % 4 ≠ 0) (w : World) (vals : List Value) (hG : GlobOk decGl w) (ha : ArgsOk w [.inr (bytesIn n f)] vals) :
    LRet Tryd.prog 13 vals false [.inl (.tuple #[.slice none 0 0, .int .i64 1])] w :=
  fn_ok (envD_ok n f) (fuel := 1000) (d := 30) (plan := []) (orc := [true]) (fls := [[]]) (l := [(((n : Int)).tmod 4 != 0, true)]) (tr := []) (by kernel_rfl)
    (all_cons (by rw [Int.tmod_eq_emod_of_nonneg (by omega)]; simp; omega) all_nil) Tryd.func13 w vals hG ha fun t ht => by cases ht
noncomputable def lDecAll (m : Nat) (f : Nat → Nat) : LTab := lrow 13 fun args => match args with
  | [.inr e] => some (true, [.inr (insD m f), .inl (.int .i64 0)], pre (propB (e = bytesIn (4 * m) f ∧ m ≤ 1000000000 ∧ ∀ i, f i < 256)))
  | _ => none
theorem lDecAll_ok (m : Nat) (f : Nat → Nat) : LTabOk Tryd.prog decGl (lDecAll m f) := .row fun args tup res h w vals hG ha => by
  split at h
  · rename_i e
    simp only [Option.some.injEq, Prod.mk.injEq] at h
    obtain ⟨rfl, rfl, hp⟩ := h
    obtain ⟨rfl, h1, h2⟩ := propB_ok.mp hp
    exact decAll_yes m f h1 h2 w vals hG ha
  · cases h
noncomputable def lDecAllNo (n : Nat) (f : Nat → Nat) : LTab := lrow 13 fun args => match args with
  | [.inr e] => some (false, [.inl (.tuple #[.slice none 0 0, .int .i64 1])], pre (propB (e = bytesIn n f ∧ n % 4 ≠ 0)))
  | _ => none
theorem lDecAllNo_ok (n : Nat) (f : Nat → Nat) : LTabOk Tryd.prog decGl (lDecAllNo n f) := .row fun args tup res h w vals hG ha => by
  split at h
  · rename_i e
    simp only [Option.some.injEq, Prod.mk.injEq] at h
    obtain ⟨rfl, rfl, hp⟩ := h
    obtain ⟨rfl, h1⟩ := propB_ok.mp hp
    exact decAll_no n f h1 w vals hG ha
  · cases h
end Go.Proofs.YtppjkdlpmmalaaaDoor
