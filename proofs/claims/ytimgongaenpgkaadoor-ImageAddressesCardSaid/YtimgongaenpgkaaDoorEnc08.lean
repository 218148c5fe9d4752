/- Contracts of package image: Encode. -/
import Derived.Test.YtimgongaenpgkaaDoorCheck08
namespace Go.Proofs.YtimgongaenpgkaaDoor
open Go.RowKit Sim S2
set_option linter.unusedVariables false
set_option linter.unusedSimpArgs false

/-- Bytes, and behind them those of so many elements, sz each. -/
def apZ (nb sz : Nat) (gb : Nat → Int) (h : Nat → Nat → Int) (p : Nat) : Int := if p < nb then gb p else h ((p - nb) / sz) ((p - nb) % sz)
theorem apZ_new {nb sz : Nat} {gb : Nat → Int} {h : Nat → Nat → Int} (hs : 0 < sz) (j k : Nat) (hk : k < sz) : apZ nb sz gb h (nb + sz * j + k) = h j k := by
  unfold apZ
  rw [if_neg (by omega), show nb + sz * j + k - nb = sz * j + k by omega, Nat.mul_add_div hs, Nat.mul_add_mod, Nat.div_eq_of_lt hk, Nat.mod_eq_of_lt hk, Nat.add_zero]
theorem apZ_old {nb sz : Nat} {gb : Nat → Int} {h : Nat → Nat → Int} (p : Nat) (hp : p < nb) : apZ nb sz gb h p = gb p := if_pos hp
def deadL (e : LE) : LE := { e with dead := true }
def fnv (f : FuncId) : S2.SV := .inl ([], .func (.func f) #[] #[])
/-- A list's numbers. -/
def numL (e : LE) (j : Nat) : Int := S2.intOf (e.el j)
/-- A row of bytes of the call's own; a list of numbers that came in. -/
def isRow (e : LE) : Prop := e.elT = 5 ∧ e.size = 1 ∧ e.own = true ∧ e.dead = false ∧ e.n ≤ 100000000000 ∧ ∀ p, p < e.n → e.el p = [.int .u8 (numL e p)]
def isW32 (e : LE) : Prop := e.elT = 41 ∧ e.size = 1 ∧ e.own = false ∧ e.dead = false ∧ e.n ≤ 1000000000 ∧ ∀ j, j < e.n → e.el j = [.int .u32 (numL e j)] ∧ 0 ≤ numL e j ∧ numL e j < 4294967296
def isInt (e : LE) : Prop := e.elT = 3 ∧ e.size = 1 ∧ e.own = false ∧ e.dead = false ∧ e.n ≤ 1000000000 ∧ ∀ j, j < e.n → e.el j = [.int .i64 (numL e j)]
theorem u32w (x : Int) : 0 ≤ IntKind.u32.wrap x ∧ IntKind.u32.wrap x < 4294967296 := by rw [IntKind.wrap_u32]; omega
def wrPath : List Nat := [0, 1, 0, 1]
def wrP : Pick := { ts := [0, 2, 9, 10, 11], bs := [], ls := [0, 1, 2], opn := [11], mv := [0] }
def wrQ : Pick := { ts := [0, 2, 9, 10, 11], bs := [], ls := [0, 1, 4] }
def wrR : Pick := { ts := [0, 2, 9, 10, 11], bs := [], ls := [0, 1, 2] }
noncomputable def wrE : S2.Env := envf Tryd.prog (fun _ => none) noT noP (orL lBytes lLong) (fun _ => none)
theorem wrE_ok : CallOk wrE := envf_ok (.none _ _) (.none _ _) (lBytes_ok.or lLong_ok) .none
noncomputable def wuG (c : Nat → Int) (j k : Nat) : Int := byteZ (c j) k
noncomputable def wuC : Code := codeAt (codeOf Tryd.prog 21) (0 :: wrPath)
noncomputable def wuS (nb : Nat) (gb : Nat → Int) (m : Nat) (c : Nat → Int) (j : Nat) : S2.St := { tmps := [(0, .c 2), (2, fnv 22), (9, .c 1), (10, .inl ([true], .int .i64 m)), (11, .inl ([true], .int .i64 j))], own := ⟨[], [deadL (bytesE nb gb), w32L false m c, bytesE (nb + 4 * j) (apZ nb 4 gb (wuG c))]⟩, lo := 0, llo := 0, mem := true, orc := [], obl := [] }
noncomputable def wuT (nb : Nat) (gb : Nat → Int) (m : Nat) (c : Nat → Int) (j : Nat) (g : Nat → Int) : S2.St := { tmps := [(0, .c 2), (2, fnv 22), (9, .c 1), (10, .inl ([true], .int .i64 m)), (11, .inl ([true], .int .i64 (j + 1 : Nat)))], own := ⟨[], [deadL (bytesE nb gb), w32L false m c, ⟨5, 1, nb + 4 * j + 4, joinE (nb + 4 * j) (bytesE (nb + 4 * j) (apZ nb 4 gb (wuG c))).el (bytesE 4 g).el, true, false, true⟩]⟩, lo := 0, llo := 0, mem := true, orc := [], obl := [] }
theorem wu_step (nb : Nat) (gb : Nat → Int) (m : Nat) (c : Nat → Int) (hnb : nb ≤ 100000000000) (hm : m ≤ 1000000000) (j : Nat) (hj : j < m) (hc : 0 ≤ c j ∧ c j < 4294967296) (w0 : S2.Base) (hG : GlobB wrE w0) : SemA wrE w0 0 2 22 wuC (wuS nb gb m c j) none (wuS nb gb m c (j + 1)) := by
  have h := semA_iter wrE_ok hG (nb := 0) (nl := 2) (p := wrQ) (n := 22) (c := wuC) (s := wuS nb gb m c j) (x := none) (fuel := 1000) (s' := wuT nb gb m c j (wuG c ((j : Int).toNat))) [true]
    [(pre (inI ((j : Int) + 1)), true), (pre (decide (nb + 4 * j + 4 ≤ maxLen ∧ (nb + 4 * j + 4) * 1 ≤ 140737488355328 ∧ 0 < 4)), true), (pre (decide (0 ≤ c ((j : Int).toNat) ∧ c ((j : Int).toNat) < 4294967296)), true), (pre (decide ((j : Int).toNat < m)), true), (pre (idxB (j : Int) m), true), (decide ((j : Int) < (m : Int)), true)]
    (by kernel_rfl) (by kernel_rfl) ?_
  · rw [Int.toNat_natCast] at h
    exact h.same rfl rfl ⟨.refl _, .refl _, ⟨rfl, rfl, by show nb + 4 * j + 4 = nb + 4 * (j + 1); omega, rfl, rfl, joinE_many (m := 4) (fun k hk => by show [Value.int .u8 (wuG c j k)] = [Value.int .u8 (apZ nb 4 gb (wuG c) (nb + 4 * j + k))]; rw [apZ_new (by decide) j k hk])⟩, trivial⟩ rfl
  · rw [Int.toNat_natCast]
    exact all_cons (ob_inI (by omega)) <| all_cons (ob_app (by omega) (by decide) (by decide)) <| all_cons (by unfold pre; exact decide_eq_true hc) <| all_cons (ob_lt hj) <| all_cons (ob_idx (by omega)) <| all_cons (ob_yes (by omega)) all_nil
theorem wu_end (nb : Nat) (gb : Nat → Int) (m : Nat) (c : Nat → Int) (w0 : S2.Base) (hG : GlobB wrE w0) : SemA wrE w0 0 2 22 wuC (wuS nb gb m c m) (some (some 0)) (wuS nb gb m c m) :=
  semA_iter wrE_ok hG (p := wrR) (fuel := 1000) [false] [(decide ((m : Int) < (m : Int)), false)] (by kernel_rfl) (by kernel_rfl) (all_cons (ob_no (by omega)) all_nil)
noncomputable def wu0 (nb : Nat) (gb : Nat → Int) (m : Nat) (c : Nat → Int) : S2.St := { tmps := [(0, .c 2), (2, fnv 22), (9, .c 1), (10, .inl ([true], .int .i64 m)), (11, .inl ([true], .int .i64 0))], own := ⟨[], [deadL (bytesE nb gb), w32L false m c, bytesE nb gb]⟩, lo := 0, llo := 0, mem := true, orc := [], obl := [] }
theorem wu_sem (nb : Nat) (gb : Nat → Int) (m : Nat) (c : Nat → Int) (hnb : nb ≤ 100000000000) (hm : m ≤ 1000000000) (hc : ∀ j, j < m → 0 ≤ c j ∧ c j < 4294967296) : SemF Tryd.prog (fun _ => none) 21 [.c 0, .c 1, fnv 22] ⟨[], [bytesE nb gb, w32L false m c]⟩ (.c 2) ⟨[], [deadL (bytesE nb gb), w32L false m c, bytesE (nb + 4 * m) (apZ nb 4 gb (wuG c))]⟩ :=
  fnS_ok (E := wrE) wrE_ok rfl (fuel := 1000) (d := 30) (plan := [⟨wrPath, wrP, some (some 0), wuS nb gb m c m⟩]) (orc := []) (l := []) (tr := [⟨.loop wuC, wu0 nb gb m c, some (some 0), wuS nb gb m c m⟩]) (by kernel_rfl) (by kernel_rfl) all_nil Tryd.func21 fun w0 hG t ht => by
    obtain rfl := List.mem_singleton.mp ht
    exact (sem_loop (wuS nb gb m c) m (by simp) (fun j hj => wu_step nb gb m c hnb hm j hj (hc j hj) w0 hG) (wu_end nb gb m c w0 hG)).alike rfl rfl ⟨.refl _, .refl _, ⟨rfl, rfl, by show nb = nb + 4 * 0; omega, rfl, rfl, fun p hp => by show [Value.int .u8 (gb p)] = [Value.int .u8 (apZ nb 4 gb (wuG c) p)]; rw [apZ_old (nb := nb) p hp]⟩, trivial⟩ rfl
theorem wu_eff {eb e : LE} (hb : isRow eb) (he : isW32 e) : SemF Tryd.prog (fun _ => none) 21 [.c 0, .c 1, fnv 22] ⟨[], [eb, e]⟩ (.c 2) ⟨[], [deadL eb, e, bytesE (eb.n + 4 * e.n) (apZ eb.n 4 (numL eb) (wuG (numL e)))]⟩ := by
  obtain ⟨b1, b2, b3, b4, b5, b6⟩ := hb
  obtain ⟨e1, e2, e3, e4, e5, e6⟩ := he
  have s1 : sameE eb (bytesE eb.n (numL eb)) := ⟨b1, b2, rfl, b3, b4, fun p hp => b6 p hp⟩
  have s2 : sameE e (w32L false e.n (numL e)) := ⟨e1, e2, rfl, e3, e4, fun j hj => (e6 j hj).1⟩
  exact ((wu_sem eb.n (numL eb) e.n (numL e) b5 e5 (fun j hj => (e6 j hj).2)).from (own2 := ⟨[], [eb, e]⟩) rfl ⟨s1, s2, trivial⟩).same (own2 := ⟨[], [deadL eb, e, bytesE (eb.n + 4 * e.n) (apZ eb.n 4 (numL eb) (wuG (numL e)))]⟩) rfl ⟨⟨b1.symm, b2.symm, rfl, b3.symm, rfl, fun p hp => (b6 p hp).symm⟩, (sameL_flip (l := [e]) (l' := [w32L false e.n (numL e)]) ⟨s2, trivial⟩).1, .refl _, trivial⟩
noncomputable def wlG (c : Nat → Int) (j k : Nat) : Int := byteZ (IntKind.u64.wrap (c j)) k
noncomputable def wlC : Code := codeAt (codeOf Tryd.prog 19) (0 :: wrPath)
noncomputable def wlS (nb : Nat) (gb : Nat → Int) (m : Nat) (c : Nat → Int) (j : Nat) : S2.St := { tmps := [(0, .c 2), (2, fnv 23), (9, .c 1), (10, .inl ([true], .int .i64 m)), (11, .inl ([true], .int .i64 j))], own := ⟨[], [deadL (bytesE nb gb), intL false m c, bytesE (nb + 8 * j) (apZ nb 8 gb (wlG c))]⟩, lo := 0, llo := 0, mem := true, orc := [], obl := [] }
noncomputable def wlT (nb : Nat) (gb : Nat → Int) (m : Nat) (c : Nat → Int) (j : Nat) (g : Nat → Int) : S2.St := { tmps := [(0, .c 2), (2, fnv 23), (9, .c 1), (10, .inl ([true], .int .i64 m)), (11, .inl ([true], .int .i64 (j + 1 : Nat)))], own := ⟨[], [deadL (bytesE nb gb), intL false m c, ⟨5, 1, nb + 8 * j + 8, joinE (nb + 8 * j) (bytesE (nb + 8 * j) (apZ nb 8 gb (wlG c))).el (bytesE 8 g).el, true, false, true⟩]⟩, lo := 0, llo := 0, mem := true, orc := [], obl := [] }
theorem wl_step (nb : Nat) (gb : Nat → Int) (m : Nat) (c : Nat → Int) (hnb : nb ≤ 100000000000) (hm : m ≤ 1000000000) (j : Nat) (hj : j < m) (w0 : S2.Base) (hG : GlobB wrE w0) : SemA wrE w0 0 2 22 wlC (wlS nb gb m c j) none (wlS nb gb m c (j + 1)) := by
  have h := semA_iter wrE_ok hG (nb := 0) (nl := 2) (p := wrQ) (n := 22) (c := wlC) (s := wlS nb gb m c j) (x := none) (fuel := 1000) (s' := wlT nb gb m c j (wlG c ((j : Int).toNat))) [true]
    [(pre (inI ((j : Int) + 1)), true), (pre (decide (nb + 8 * j + 8 ≤ maxLen ∧ (nb + 8 * j + 8) * 1 ≤ 140737488355328 ∧ 0 < 8)), true), (true, true), (pre (decide ((j : Int).toNat < m)), true), (pre (idxB (j : Int) m), true), (decide ((j : Int) < (m : Int)), true)]
    (by kernel_rfl) (by kernel_rfl) ?_
  · rw [Int.toNat_natCast] at h
    exact h.same rfl rfl ⟨.refl _, .refl _, ⟨rfl, rfl, by show nb + 8 * j + 8 = nb + 8 * (j + 1); omega, rfl, rfl, joinE_many (m := 8) (fun k hk => by show [Value.int .u8 (wlG c j k)] = [Value.int .u8 (apZ nb 8 gb (wlG c) (nb + 8 * j + k))]; rw [apZ_new (by decide) j k hk])⟩, trivial⟩ rfl
  · rw [Int.toNat_natCast]
    exact all_cons (ob_inI (by omega)) <| all_cons (ob_app (by omega) (by decide) (by decide)) <| all_cons rfl <| all_cons (ob_lt hj) <| all_cons (ob_idx (by omega)) <| all_cons (ob_yes (by omega)) all_nil
theorem wl_end (nb : Nat) (gb : Nat → Int) (m : Nat) (c : Nat → Int) (w0 : S2.Base) (hG : GlobB wrE w0) : SemA wrE w0 0 2 22 wlC (wlS nb gb m c m) (some (some 0)) (wlS nb gb m c m) :=
  semA_iter wrE_ok hG (p := wrR) (fuel := 1000) [false] [(decide ((m : Int) < (m : Int)), false)] (by kernel_rfl) (by kernel_rfl) (all_cons (ob_no (by omega)) all_nil)
noncomputable def wl0 (nb : Nat) (gb : Nat → Int) (m : Nat) (c : Nat → Int) : S2.St := { tmps := [(0, .c 2), (2, fnv 23), (9, .c 1), (10, .inl ([true], .int .i64 m)), (11, .inl ([true], .int .i64 0))], own := ⟨[], [deadL (bytesE nb gb), intL false m c, bytesE nb gb]⟩, lo := 0, llo := 0, mem := true, orc := [], obl := [] }
theorem wl_sem (nb : Nat) (gb : Nat → Int) (m : Nat) (c : Nat → Int) (hnb : nb ≤ 100000000000) (hm : m ≤ 1000000000) : SemF Tryd.prog (fun _ => none) 19 [.c 0, .c 1, fnv 23] ⟨[], [bytesE nb gb, intL false m c]⟩ (.c 2) ⟨[], [deadL (bytesE nb gb), intL false m c, bytesE (nb + 8 * m) (apZ nb 8 gb (wlG c))]⟩ :=
  fnS_ok (E := wrE) wrE_ok rfl (fuel := 1000) (d := 30) (plan := [⟨wrPath, wrP, some (some 0), wlS nb gb m c m⟩]) (orc := []) (l := []) (tr := [⟨.loop wlC, wl0 nb gb m c, some (some 0), wlS nb gb m c m⟩]) (by kernel_rfl) (by kernel_rfl) all_nil Tryd.func19 fun w0 hG t ht => by
    obtain rfl := List.mem_singleton.mp ht
    exact (sem_loop (wlS nb gb m c) m (by simp) (fun j hj => wl_step nb gb m c hnb hm j hj w0 hG) (wl_end nb gb m c w0 hG)).alike rfl rfl ⟨.refl _, .refl _, ⟨rfl, rfl, by show nb = nb + 8 * 0; omega, rfl, rfl, fun p hp => by show [Value.int .u8 (gb p)] = [Value.int .u8 (apZ nb 8 gb (wlG c) p)]; rw [apZ_old (nb := nb) p hp]⟩, trivial⟩ rfl
theorem wl_eff {eb e : LE} (hb : isRow eb) (he : isInt e) : SemF Tryd.prog (fun _ => none) 19 [.c 0, .c 1, fnv 23] ⟨[], [eb, e]⟩ (.c 2) ⟨[], [deadL eb, e, bytesE (eb.n + 8 * e.n) (apZ eb.n 8 (numL eb) (wlG (numL e)))]⟩ := by
  obtain ⟨b1, b2, b3, b4, b5, b6⟩ := hb
  obtain ⟨e1, e2, e3, e4, e5, e6⟩ := he
  have s1 : sameE eb (bytesE eb.n (numL eb)) := ⟨b1, b2, rfl, b3, b4, fun p hp => b6 p hp⟩
  have s2 : sameE e (intL false e.n (numL e)) := ⟨e1, e2, rfl, e3, e4, fun j hj => e6 j hj⟩
  exact ((wl_sem eb.n (numL eb) e.n (numL e) b5 e5).from (own2 := ⟨[], [eb, e]⟩) rfl ⟨s1, s2, trivial⟩).same (own2 := ⟨[], [deadL eb, e, bytesE (eb.n + 8 * e.n) (apZ eb.n 8 (numL eb) (wlG (numL e)))]⟩) rfl ⟨⟨b1.symm, b2.symm, rfl, b3.symm, rfl, fun p hp => (b6 p hp).symm⟩, (sameL_flip (l := [e]) (l' := [intL false e.n (numL e)]) ⟨s2, trivial⟩).1, .refl _, trivial⟩
noncomputable def whG (c : Nat → Int) (j k : Nat) : Int := byteZ (IntKind.u32.wrap (c j)) k
noncomputable def whC : Code := codeAt (codeOf Tryd.prog 19) (0 :: wrPath)
noncomputable def whS (nb : Nat) (gb : Nat → Int) (m : Nat) (c : Nat → Int) (j : Nat) : S2.St := { tmps := [(0, .c 2), (2, fnv 20), (9, .c 1), (10, .inl ([true], .int .i64 m)), (11, .inl ([true], .int .i64 j))], own := ⟨[], [deadL (bytesE nb gb), intL false m c, bytesE (nb + 4 * j) (apZ nb 4 gb (whG c))]⟩, lo := 0, llo := 0, mem := true, orc := [], obl := [] }
noncomputable def whT (nb : Nat) (gb : Nat → Int) (m : Nat) (c : Nat → Int) (j : Nat) (g : Nat → Int) : S2.St := { tmps := [(0, .c 2), (2, fnv 20), (9, .c 1), (10, .inl ([true], .int .i64 m)), (11, .inl ([true], .int .i64 (j + 1 : Nat)))], own := ⟨[], [deadL (bytesE nb gb), intL false m c, ⟨5, 1, nb + 4 * j + 4, joinE (nb + 4 * j) (bytesE (nb + 4 * j) (apZ nb 4 gb (whG c))).el (bytesE 4 g).el, true, false, true⟩]⟩, lo := 0, llo := 0, mem := true, orc := [], obl := [] }
theorem wh_step (nb : Nat) (gb : Nat → Int) (m : Nat) (c : Nat → Int) (hnb : nb ≤ 100000000000) (hm : m ≤ 1000000000) (j : Nat) (hj : j < m) (w0 : S2.Base) (hG : GlobB wrE w0) : SemA wrE w0 0 2 22 whC (whS nb gb m c j) none (whS nb gb m c (j + 1)) := by
  have h := semA_iter wrE_ok hG (nb := 0) (nl := 2) (p := wrQ) (n := 22) (c := whC) (s := whS nb gb m c j) (x := none) (fuel := 1000) (s' := whT nb gb m c j (whG c ((j : Int).toNat))) [true]
    [(pre (inI ((j : Int) + 1)), true), (pre (decide (nb + 4 * j + 4 ≤ maxLen ∧ (nb + 4 * j + 4) * 1 ≤ 140737488355328 ∧ 0 < 4)), true), (pre (decide (0 ≤ IntKind.u32.wrap (c ((j : Int).toNat)) ∧ IntKind.u32.wrap (c ((j : Int).toNat)) < 4294967296)), true), (pre (decide ((j : Int).toNat < m)), true), (pre (idxB (j : Int) m), true), (decide ((j : Int) < (m : Int)), true)]
    (by kernel_rfl) (by kernel_rfl) ?_
  · rw [Int.toNat_natCast] at h
    exact h.same rfl rfl ⟨.refl _, .refl _, ⟨rfl, rfl, by show nb + 4 * j + 4 = nb + 4 * (j + 1); omega, rfl, rfl, joinE_many (m := 4) (fun k hk => by show [Value.int .u8 (whG c j k)] = [Value.int .u8 (apZ nb 4 gb (whG c) (nb + 4 * j + k))]; rw [apZ_new (by decide) j k hk])⟩, trivial⟩ rfl
  · rw [Int.toNat_natCast]
    exact all_cons (ob_inI (by omega)) <| all_cons (ob_app (by omega) (by decide) (by decide)) <| all_cons (by unfold pre; exact decide_eq_true (u32w _)) <| all_cons (ob_lt hj) <| all_cons (ob_idx (by omega)) <| all_cons (ob_yes (by omega)) all_nil
theorem wh_end (nb : Nat) (gb : Nat → Int) (m : Nat) (c : Nat → Int) (w0 : S2.Base) (hG : GlobB wrE w0) : SemA wrE w0 0 2 22 whC (whS nb gb m c m) (some (some 0)) (whS nb gb m c m) :=
  semA_iter wrE_ok hG (p := wrR) (fuel := 1000) [false] [(decide ((m : Int) < (m : Int)), false)] (by kernel_rfl) (by kernel_rfl) (all_cons (ob_no (by omega)) all_nil)
noncomputable def wh0 (nb : Nat) (gb : Nat → Int) (m : Nat) (c : Nat → Int) : S2.St := { tmps := [(0, .c 2), (2, fnv 20), (9, .c 1), (10, .inl ([true], .int .i64 m)), (11, .inl ([true], .int .i64 0))], own := ⟨[], [deadL (bytesE nb gb), intL false m c, bytesE nb gb]⟩, lo := 0, llo := 0, mem := true, orc := [], obl := [] }
theorem wh_sem (nb : Nat) (gb : Nat → Int) (m : Nat) (c : Nat → Int) (hnb : nb ≤ 100000000000) (hm : m ≤ 1000000000) : SemF Tryd.prog (fun _ => none) 19 [.c 0, .c 1, fnv 20] ⟨[], [bytesE nb gb, intL false m c]⟩ (.c 2) ⟨[], [deadL (bytesE nb gb), intL false m c, bytesE (nb + 4 * m) (apZ nb 4 gb (whG c))]⟩ :=
  fnS_ok (E := wrE) wrE_ok rfl (fuel := 1000) (d := 30) (plan := [⟨wrPath, wrP, some (some 0), whS nb gb m c m⟩]) (orc := []) (l := []) (tr := [⟨.loop whC, wh0 nb gb m c, some (some 0), whS nb gb m c m⟩]) (by kernel_rfl) (by kernel_rfl) all_nil Tryd.func19 fun w0 hG t ht => by
    obtain rfl := List.mem_singleton.mp ht
    exact (sem_loop (whS nb gb m c) m (by simp) (fun j hj => wh_step nb gb m c hnb hm j hj w0 hG) (wh_end nb gb m c w0 hG)).alike rfl rfl ⟨.refl _, .refl _, ⟨rfl, rfl, by show nb = nb + 4 * 0; omega, rfl, rfl, fun p hp => by show [Value.int .u8 (gb p)] = [Value.int .u8 (apZ nb 4 gb (whG c) p)]; rw [apZ_old (nb := nb) p hp]⟩, trivial⟩ rfl
theorem wh_eff {eb e : LE} (hb : isRow eb) (he : isInt e) : SemF Tryd.prog (fun _ => none) 19 [.c 0, .c 1, fnv 20] ⟨[], [eb, e]⟩ (.c 2) ⟨[], [deadL eb, e, bytesE (eb.n + 4 * e.n) (apZ eb.n 4 (numL eb) (whG (numL e)))]⟩ := by
  obtain ⟨b1, b2, b3, b4, b5, b6⟩ := hb
  obtain ⟨e1, e2, e3, e4, e5, e6⟩ := he
  have s1 : sameE eb (bytesE eb.n (numL eb)) := ⟨b1, b2, rfl, b3, b4, fun p hp => b6 p hp⟩
  have s2 : sameE e (intL false e.n (numL e)) := ⟨e1, e2, rfl, e3, e4, fun j hj => e6 j hj⟩
  exact ((wh_sem eb.n (numL eb) e.n (numL e) b5 e5).from (own2 := ⟨[], [eb, e]⟩) rfl ⟨s1, s2, trivial⟩).same (own2 := ⟨[], [deadL eb, e, bytesE (eb.n + 4 * e.n) (apZ eb.n 4 (numL eb) (whG (numL e)))]⟩) rfl ⟨⟨b1.symm, b2.symm, rfl, b3.symm, rfl, fun p hp => (b6 p hp).symm⟩, (sameL_flip (l := [e]) (l' := [intL false e.n (numL e)]) ⟨s2, trivial⟩).1, .refl _, trivial⟩
noncomputable def eWrite : ETab := orE (erow 21 fun args own => match args, own with
  | [.c 0, .c 1, .inl ([], .func (.func g) ⟨[]⟩ ⟨[]⟩)], ⟨[], [eb, e]⟩ => some { x := .c 2, sl := [(0, deadL eb)], al := [bytesE (eb.n + 4 * e.n) (apZ eb.n 4 (numL eb) (wuG (numL e)))], ok := pre (propB (g = 22 ∧ isRow eb ∧ isW32 e)) }
  | _, _ => none) (erow 19 fun args own => match args, own with
  | [.c 0, .c 1, .inl ([], .func (.func g) ⟨[]⟩ ⟨[]⟩)], ⟨[], [eb, e]⟩ => bif Nat.beq g 23 then
      some { x := .c 2, sl := [(0, deadL eb)], al := [bytesE (eb.n + 8 * e.n) (apZ eb.n 8 (numL eb) (wlG (numL e)))], ok := pre (propB (isRow eb ∧ isInt e)) }
    else bif Nat.beq g 20 then
      some { x := .c 2, sl := [(0, deadL eb)], al := [bytesE (eb.n + 4 * e.n) (apZ eb.n 4 (numL eb) (whG (numL e)))], ok := pre (propB (isRow eb ∧ isInt e)) }
    else none
  | _, _ => none)
theorem eWrite_ok {gl : Nat → Option (List Value)} : EffOk Tryd.prog gl eWrite := by
  refine .or (.row fun args own r h hr => ?_) (.row fun args own r h hr => ?_)
  · split at h
    · rename_i g eb e
      simp only [Option.some.injEq] at h
      subst h
      obtain ⟨rfl, h1, h2⟩ := propB_ok.mp hr
      exact SemF.anyGlob (wu_eff h1 h2)
    · cases h
  · split at h
    · rename_i g eb e
      cases hb : Nat.beq g 23
      · rw [hb] at h
        simp only [cond_false] at h
        cases hb2 : Nat.beq g 20
        · rw [hb2] at h; cases h
        · rw [hb2] at h
          simp only [cond_true, Option.some.injEq] at h
          subst h
          obtain ⟨h1, h2⟩ := propB_ok.mp hr
          have hg : g = 20 := Nat.eq_of_beq_eq_true hb2
          subst hg
          exact SemF.anyGlob (wh_eff h1 h2)
      · rw [hb] at h
        simp only [cond_true, Option.some.injEq] at h
        subst h
        obtain ⟨h1, h2⟩ := propB_ok.mp hr
        have hg : g = 23 := Nat.eq_of_beq_eq_true hb
        subst hg
        exact SemF.anyGlob (wl_eff h1 h2)
    · cases h
end Go.Proofs.YtimgongaenpgkaaDoor
