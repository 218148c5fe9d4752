/- Layer 12: the laws. -/
import Derived.Test.YtckgpcpcjhomiaaAll12
import Derived.Test.YtckgpcpcjhomiaaOpen03
namespace Go.Proofs.Ytckgpcpcjhomiaa
open Go.RowKit Sim S2
set_option linter.unusedVariables false
set_option linter.unusedSimpArgs false
def awF : Nat → In
  | 0 => ⟨77, 5, 10, 0, 0, false, false⟩
  | 1 => ⟨78, 7, 10, 8, 0, false, false⟩
  | _ => ⟨6, 0, 7, 0, -8, false, false⟩
noncomputable def lLenA : LTab := lrow 7 fun args => match args with
  | [.inr e, .inl (.int .i64 p)] => some (false, [.inl (.int .i64 3)], pre (propB (isIn e 3 awF ∧ p = 0)))
  | _ => none
noncomputable def enAw (gl : Gl) : S2.Env := { envk Try.prog gl true noT noP lLenA with lit := true }
theorem aw_len : lenE 3 awF 0 = 3 := by
  have hM : cuN 3 0 = 3 := by rw [cuN_eq (by decide)]; rfl
  have h : Found 3 awF 0 1 2 := by
    refine ⟨⟨by decide +kernel, by decide +kernel⟩, by decide, by decide, fun j h1 h2 => absurd h1 (by omega), ⟨by decide +kernel, by decide +kernel, by decide +kernel, by decide +kernel⟩, by decide, by decide, fun j h1 h2 => absurd h1 (by omega), ⟨by decide +kernel, by decide +kernel, by decide +kernel⟩⟩
  rw [lenE_eq, if_pos ⟨by decide, by decide⟩]
  show lenG (cuN 3 0) (fun j => awF (0 + j)) = 3
  rw [hM, len_found (by decide +kernel) h]; rfl
theorem lLenA_ok {gl : Gl} : LTabOk Try.prog gl lLenA := .row fun args tup res h w vals hG ha => by
  split at h
  · rename_i e p
    simp only [Option.some.injEq, Prod.mk.injEq] at h
    obtain ⟨rfl, rfl, hp⟩ := h
    obtain ⟨he, rfl⟩ := propB_ok.mp hp
    match vals, ha with
    | [u, v], ha =>
      have := length_ret 3 awF 0 (by decide) w [u, v] hG ⟨InB.ins ha.1 he, ha.2⟩
      rw [aw_len] at this
      exact this
    | [], ha => exact ha.elim
    | [_], ha => exact ha.2.elim
    | _ :: _ :: _ :: _, ha => exact ha.2.2.elim
  · cases h
theorem enAw_ok (gl : Gl) : CallOk (enAw gl) := envk_ok (nw := true) (.none _ _) (.none _ _) lLenA_ok
def awE (o : Bool) : LE := ⟨32, 7, 3, tabE [inC (awF 0), inC (awF 1), inC (awF 2)], true, false, o⟩
theorem awE_in (o : Bool) : isIn (awE o) 3 awF := ⟨rfl, rfl, fun j hj => by
  match j, hj with
  | 0, _ => rfl
  | 1, _ => rfl
  | 2, _ => rfl, by decide⟩
theorem awake12_ret {gl : Gl} (w : World) (hG : GlobOk gl w) : Ret Try.prog 6 #[] (.bool true) w := by
  refine LRet.plain (fn_ok (enAw_ok gl) (fuel := 1000) (d := 30) (plan := []) (orc := []) (fls := []) (args := []) (tup := false) (res := [.inl (.bool true)]) (l := [(pre (propB (isIn (awE false) 3 awF ∧ (0 : Int) = 0)), true)]) (tr := []) (by kernel_rfl) ?_ Try.func6 w [] hG trivial fun t ht => by cases ht)
  exact all_cons (propB_ok.mpr ⟨awE_in _, rfl⟩) all_nil
def tAw12 : Tab := row 6 dec0 fun _ => .bool true
theorem tAw12_ok {gl : Gl} : TabOk Try.prog gl tAw12 := tab0 fun w hG => awake12_ret w hG
/-! ### Lists that the law makes -/
theorem lLenX_ex : ∃ h : LE → Int → Int, ∀ e p, h e p = lenE e.n (insL e) p := ⟨_, fun _ _ => rfl⟩
noncomputable def lenX : LE → Int → Int := Classical.choose lLenX_ex
theorem lenX_eq (e : LE) (p : Int) : lenX e p = lenE e.n (insL e) p := Classical.choose_spec lLenX_ex e p
noncomputable def lLenX : LTab := lrow 7 fun args => match args with
  | [.inr e, .inl (.int .i64 p)] => some (false, [.inl (.int .i64 (lenX e p))], pre (propB (isIn e e.n (insL e))))
  | _ => none
theorem lLenX_ok {gl : Gl} : LTabOk Try.prog gl lLenX := .row fun args tup res h w vals hG ha => by
  split at h
  · rename_i e p
    simp only [Option.some.injEq, Prod.mk.injEq] at h
    obtain ⟨rfl, rfl, hp⟩ := h
    have he := propB_ok.mp hp
    rw [lenX_eq]
    match vals, ha with
    | [u, v], ha => exact length_ret e.n (insL e) p he.2.2.2 w [u, v] hG ⟨InB.ins ha.1 he, ha.2⟩
    | [], ha => exact ha.elim
    | [_], ha => exact ha.2.elim
    | _ :: _ :: _ :: _, ha => exact ha.2.2.elim
  · cases h
noncomputable def enX (gl : Gl) (non : List Nat) : S2.Env := { envk Try.prog gl true tAw12 noP lLenX with lit := true, cut := true, non := non }
theorem enX_ok (gl : Gl) (non : List Nat) : CallOk (enX gl non) := envk_ok (nw := true) tAw12_ok (.none _ _) lLenX_ok
noncomputable def enW (gl : Gl) (n : Nat) (f : Nat → In) : S2.Env := envk Try.prog gl true tAw12 noP (orL (lLen n f) (lRefLen n f))
theorem enW_ok (gl : Gl) (n : Nat) (f : Nat → In) : CallOk (enW gl n f) := envk_ok (nw := true) tAw12_ok (.none _ _) ((lLen_ok n f).or (lRefLen_ok n f))
noncomputable def enV (gl : Gl) (n : Nat) (f : Nat → In) : S2.Env := envk Try.prog gl true tAw12 noP (orL (lAll n f) (lRAll n f))
theorem enV_ok (gl : Gl) (n : Nat) (f : Nat → In) : CallOk (enV gl n f) := envk_ok (nw := true) tAw12_ok (.none _ _) ((lAll_ok n f).or (lRAll_ok n f))
/-! ### The first two laws -/
theorem allRI (n : Nat) (f : Nat → In) : (allB n f = decide (allR n f < 0)) ∧ (allB n f = true → allI n f = 0) ∧ (allB n f = false → allI n f = allR n f) := by
  rw [allB_eq, allR_eq, allI_eq]
  by_cases h : allN n f < n
  · rw [if_pos h, if_pos h]
    refine ⟨?_, fun hh => ?_, fun _ => rfl⟩
    · rw [decide_eq_false (fun hh => hh h), decide_eq_false (by omega)]
    · exact absurd h (of_decide_eq_true hh)
  · rw [if_neg h, if_neg h]
    refine ⟨?_, fun _ => rfl, fun hh => ?_⟩
    · rw [decide_eq_true h, decide_eq_true (by omega)]
    · exact absurd h (of_decide_eq_false hh)
theorem lrscLengths_walk (n : Nat) (f : Nat → In) (v : Value) (p : Int) (w : World) (hw : ∀ j, j < n → wfIn (f j)) (hu : InB w.heap.size w (insE n f) v) : Ret Try.prog 3 #[v, .int .i64 p] (.bool true) w := by
  refine LRet.plain (?_ : LRet Try.prog 3 [v, .int .i64 p] false [.inl (.bool true)] w)
  have hG : GlobOk (fun _ => none) w := GlobOk.none w
  have ha : ArgsOk w [.inr (insE n f), .inl (.int .i64 p)] [v, .int .i64 p] := ⟨hu, rfl, trivial⟩
  by_cases h : n ≤ 200
  · refine fn_ok (enW_ok _ n f) (fuel := 1000) (d := 30) (plan := []) (orc := [false, true]) (fls := [[], [true]]) (l := [(lenE n f p == refE n f p, true), (pre (propB (isIn (insE n f) n f)), true), (pre (propB (isIn (insE n f) n f)), true), (decide ((n : Int) > 200), false)]) (tr := []) (by kernel_rfl) ?_ Try.func3 w _ hG ha fun t ht => by cases ht
    exact all_cons (by rw [len_ref]; simp) <| all_cons (propB_ok.mpr (isIn_self n f (by omega))) <| all_cons (propB_ok.mpr (isIn_self n f (by omega))) <| all_cons (ob_no (by omega)) all_nil
  · refine fn_ok (enW_ok _ n f) (fuel := 1000) (d := 30) (plan := []) (orc := [true]) (fls := [[], [true]]) (l := [(decide ((n : Int) > 200), true)]) (tr := []) (by kernel_rfl) ?_ Try.func3 w _ hG ha fun t ht => by cases ht
    exact all_cons (ob_yes (by omega)) all_nil
theorem lrscAll_walk (n : Nat) (f : Nat → In) (v : Value) (w : World) (hw : ∀ j, j < n → wfIn (f j)) (hu : InB w.heap.size w (insE n f) v) : Ret Try.prog 4 #[v] (.bool true) w := by
  refine LRet.plain (?_ : LRet Try.prog 4 [v] false [.inl (.bool true)] w)
  have hG : GlobOk (fun _ => none) w := GlobOk.none w
  have ha : ArgsOk w [.inr (insE n f)] [v] := ⟨hu, trivial⟩
  obtain ⟨r1, r2, r3⟩ := allRI n f
  by_cases h : n ≤ 200
  · have hi := propB_ok.mpr (isIn_self n f (by omega))
    cases hb : allB n f
    · refine fn_ok (enV_ok _ n f) (fuel := 1000) (d := 30) (plan := []) (orc := [false, true, false, true, true]) (fls := [[]]) (l := [(allI n f == allR n f, true), (!allB n f, true), (allB n f, false), (allB n f == decide (allR n f < 0), true), (pre (propB (isIn (insE n f) n f)), true), (pre (propB (isIn (insE n f) n f)), true), (decide ((n : Int) > 200), false)]) (tr := []) (by kernel_rfl) ?_ Try.func4 w _ hG ha fun t ht => by cases ht
      exact all_cons (by simpa using r3 hb) <| all_cons (by rw [hb]; rfl) <| all_cons hb <| all_cons (by rw [r1]; simp) <| all_cons hi <| all_cons hi <| all_cons (ob_no (by omega)) all_nil
    · refine fn_ok (enV_ok _ n f) (fuel := 1000) (d := 30) (plan := []) (orc := [false, true, true, true]) (fls := [[]]) (l := [(allI n f == 0, true), (allB n f, true), (allB n f == decide (allR n f < 0), true), (pre (propB (isIn (insE n f) n f)), true), (pre (propB (isIn (insE n f) n f)), true), (decide ((n : Int) > 200), false)]) (tr := []) (by kernel_rfl) ?_ Try.func4 w _ hG ha fun t ht => by cases ht
      exact all_cons (by simpa using r2 hb) <| all_cons hb <| all_cons (by rw [r1]; simp) <| all_cons hi <| all_cons hi <| all_cons (ob_no (by omega)) all_nil
  · refine fn_ok (enV_ok _ n f) (fuel := 1000) (d := 30) (plan := []) (orc := [true]) (fls := [[]]) (l := [(decide ((n : Int) > 200), true)]) (tr := []) (by kernel_rfl) ?_ Try.func4 w _ hG ha fun t ht => by cases ht
    exact all_cons (ob_yes (by omega)) all_nil
/-! ### What stands around a loop -/
theorem decC_inC (i : In) : decC (inC i) = i := rfl
theorem insL_ins (n : Nat) (f : Nat → In) : insL (insE n f) = f := funext fun j => decC_inC (f j)
theorem Found.move {M : Nat} {f : Nat → In} {p s q : Nat} (h : Found M f p s q) {M' : Nat} {F : Nat → In} {p' : Nat} (hM : q < M') (he : ∀ j, j ≤ q → F (p' + j) = f (p + j)) : Found M' F p' s q := by
  have h1 := h.s1
  have h2 := h.q1
  have e0 : F p' = f p := he 0 (by omega)
  refine ⟨?_, h1, by omega, fun j a b => ?_, ?_, h2, hM, fun j a b => ?_, ?_⟩
  · rw [e0]; exact h.first
  · rw [e0, he j (by omega)]; exact h.seq j a b
  · rw [e0, he s (by omega)]; exact h.store
  · rw [he j (by omega)]; exact h.retry j a b
  · rw [he q (by omega)]; exact h.last
theorem lenE_none {n : Nat} {f : Nat → In} {p : Nat} (hp : p < n) (h : ∀ s q, resI (f p) = true → ¬ Found (cuN n p) f p s q) : lenE n f p = 0 := by
  rw [lenE_eq, if_pos (by omega), Int.toNat_natCast]
  cases hr : resI (f p)
  · rw [lenG_eq]; unfold lenH; rw [hr]; simp
  · exact len_none (fun s q => h s q hr)
theorem lenE_some {n : Nat} {f : Nat → In} {p s q : Nat} (hp : p < n) (hr : resI (f p) = true) (h : Found (cuN n p) f p s q) : lenE n f p = (q : Int) + 1 := by
  rw [lenE_eq, if_pos (by omega), Int.toNat_natCast]
  exact len_found hr h
theorem lenE_nil {f : Nat → In} {n : Nat} (h : n = 0) (p : Int) : lenE n f p = 0 := by rw [lenE_eq, if_neg (by omega)]
/-- A loop that begins a list, or none. -/
theorem lenE_cases (n : Nat) (f : Nat → In) : lenE n f 0 = 0 ∨ ∃ s q, 0 < n ∧ resI (f 0) = true ∧ Found (cuN n 0) f 0 s q ∧ lenE n f 0 = (q : Int) + 1 := by
  by_cases h : 0 < n
  · by_cases hf : ∃ s q, resI (f 0) = true ∧ Found (cuN n 0) f 0 s q
    · obtain ⟨s, q, h1, h2⟩ := hf
      exact .inr ⟨s, q, h, h1, h2, lenE_some h h1 h2⟩
    · exact .inl (lenE_none h (fun s q h1 h2 => hf ⟨s, q, h1, h2⟩))
  · exact .inl (lenE_nil (by omega) 0)
theorem lenE_bounds (n : Nat) (f : Nat → In) : 0 ≤ lenE n f 0 ∧ lenE n f 0 ≤ n ∧ lenE n f 0 ≤ 16 := by
  rcases lenE_cases n f with h | ⟨s, q, h0, _, h1, h2⟩
  · rw [h]; omega
  · have h3 := h1.qM
    have h4 := cuN_eq h0
    rw [h2]
    split at h4 <;> omega
theorem lenE_moved {n : Nat} {f : Nat → In} (h : lenE n f 0 ≠ 0) {N : Nat} {F : Nat → In} {p : Nat} (hN : p + lenE n f 0 ≤ N) (he : ∀ j : Nat, (j : Int) < lenE n f 0 → F (p + j) = f j) : lenE N F p = lenE n f 0 := by
  rcases lenE_cases n f with h0 | ⟨s, q, h0, h1, h2, h3⟩
  · exact absurd h0 h
  · rw [h3] at hN he ⊢
    have h4 := h2.qM
    have h5 := cuN_eq h0
    have h6 : cuN N p = _ := cuN_eq (show p < N by omega)
    have hc : q < cuN N p := by
      rw [h6]
      split at h5 <;> split <;> omega
    have e0 : F p = f 0 := he 0 (by omega)
    exact lenE_some (by omega) (by rw [e0]; exact h1) (h2.move hc (fun j hj => by rw [he j (by omega), Nat.zero_add]))
theorem lenX_at {e : LE} {N : Nat} {p : Int} (h : e.n = N) : lenX e p = lenE N (insL e) p := by rw [lenX_eq, h]
/-- An own list, appended to. -/
def zeE : LE := ⟨32, 7, 0, tabE [], true, false, true⟩
def apE (a b : LE) : LE := ⟨a.elT, a.size, a.n + b.n, joinE a.n a.el b.el, true, false, a.opn || b.opn⟩
theorem ap_lo (a b : LE) {j : Nat} (h : j < a.n) : insL (apE a b) j = insL a j := by
  show decC (bif Nat.blt j a.n then a.el j else b.el (j - a.n)) = decC (a.el j)
  rw [show Nat.blt j a.n = true from Nat.ble_eq_true_of_le h]; rfl
theorem ap_hi (a b : LE) (j : Nat) : insL (apE a b) (a.n + j) = insL b j := by
  show decC (bif Nat.blt (a.n + j) a.n then a.el (a.n + j) else b.el (a.n + j - a.n)) = decC (b.el j)
  have hb : Nat.blt (a.n + j) a.n = false := by
    rw [← Bool.not_eq_true]
    exact fun hh => by have := Nat.le_of_ble_eq_true hh; omega
  rw [hb, Nat.add_sub_cancel_left]; rfl
def goodE (e : LE) : Prop := e.size = 7 ∧ ∀ j, j < e.n → e.el j = inC (insL e j)
theorem goodE.isIn {e : LE} (h : goodE e) (hn : e.n ≤ 1000000000000) : isIn e e.n (insL e) := ⟨h.1, rfl, h.2, hn⟩
theorem ins_good (n : Nat) (f : Nat → In) : goodE (insE n f) := ⟨rfl, fun _ _ => rfl⟩
theorem ze_good : goodE zeE := ⟨rfl, fun j hj => absurd hj (Nat.not_lt_zero _)⟩
theorem ap_good {a b : LE} (ha : goodE a) (hb : goodE b) : goodE (apE a b) := ⟨ha.1, fun j hj => by
  by_cases h : j < a.n
  · rw [ap_lo a b h, ← ha.2 j h]
    show (bif Nat.blt j a.n then a.el j else b.el (j - a.n)) = a.el j
    rw [show Nat.blt j a.n = true from Nat.ble_eq_true_of_le h]; rfl
  · obtain ⟨i, rfl⟩ : ∃ i, j = a.n + i := ⟨j - a.n, by omega⟩
    rw [ap_hi a b i, ← hb.2 i (by have : a.n + i < a.n + b.n := hj; omega)]
    show (bif Nat.blt (a.n + i) a.n then a.el (a.n + i) else b.el (a.n + i - a.n)) = b.el i
    have hb' : Nat.blt (a.n + i) a.n = false := by
      rw [← Bool.not_eq_true]
      exact fun hh => by have := Nat.le_of_ble_eq_true hh; omega
    rw [hb', Nat.add_sub_cancel_left]; rfl⟩
/-- One append; z: nothing is appended. -/
def stE (z : Bool) (a b : LE) : LE := bif z then a else apE a b
theorem st_good (z : Bool) {a b : LE} (ha : goodE a) (hb : goodE b) : goodE (stE z a b) := by
  cases z
  · exact ap_good ha hb
  · exact ha
theorem st_n {z : Bool} {a b : LE} (h : z = true → b.n = 0) : (stE z a b).n = a.n + b.n := by
  cases z
  · rfl
  · show a.n = a.n + b.n
    rw [h rfl]; rfl
theorem st_lo (z : Bool) (a b : LE) {j : Nat} (h : j < a.n) : insL (stE z a b) j = insL a j := by
  cases z
  · exact ap_lo a b h
  · rfl
theorem st_hi {z : Bool} {a b : LE} (h : z = true → b.n = 0) {j : Nat} (hj : j < b.n) : insL (stE z a b) (a.n + j) = insL b j := by
  cases z
  · exact ap_hi a b j
  · rw [h rfl] at hj; omega
def alE (z1 z2 z3 : Bool) (m n k : Nat) (g f h : Nat → In) : LE := stE z3 (stE z2 (stE z1 zeE (insE m g)) (insE n f)) (insE k h)
theorem al_good (z1 z2 z3 : Bool) (m n k : Nat) (g f h : Nat → In) : goodE (alE z1 z2 z3 m n k g f h) := st_good _ (st_good _ (st_good _ ze_good (ins_good m g)) (ins_good n f)) (ins_good k h)
theorem al_n {z1 z2 z3 : Bool} {m n k : Nat} {g f h : Nat → In} (h1 : z1 = true → m = 0) (h2 : z2 = true → n = 0) (h3 : z3 = true → k = 0) : (alE z1 z2 z3 m n k g f h).n = m + n + k := by
  unfold alE
  rw [st_n (b := insE k h) h3, st_n (b := insE n f) h2, st_n (b := insE m g) h1]
  show 0 + m + n + k = _
  omega
theorem al_at {z1 z2 z3 : Bool} {m n k : Nat} {g f h : Nat → In} (h1 : z1 = true → m = 0) (h2 : z2 = true → n = 0) {j : Nat} (hj : j < n) : insL (alE z1 z2 z3 m n k g f h) (m + j) = f j := by
  have n1 : (stE z1 zeE (insE m g)).n = m := by rw [st_n (b := insE m g) h1]; show 0 + m = m; omega
  have n2 : (stE z2 (stE z1 zeE (insE m g)) (insE n f)).n = m + n := by rw [st_n (b := insE n f) h2, n1]; rfl
  unfold alE
  rw [st_lo z3 _ _ (by omega)]
  have := st_hi (z := z2) (a := stE z1 zeE (insE m g)) (b := insE n f) h2 (j := j) hj
  rw [n1, insL_ins] at this
  exact this
noncomputable def suE (n : Nat) (f : Nat → In) : LE := { insE n f with n := (lenX (insE n f) 0).toNat - 0, el := fun j => (insE n f).el (0 + j), own := false, dead := false, opn := true }
theorem lenX_ins (n : Nat) (f : Nat → In) (p : Int) : lenX (insE n f) p = lenE n f p := by rw [lenX_eq, insL_ins]; rfl
theorem su_good (n : Nat) (f : Nat → In) : goodE (suE n f) := ⟨rfl, fun _ _ => rfl⟩
theorem su_n (n : Nat) (f : Nat → In) : (suE n f).n = (lenE n f 0).toNat := by
  show (lenX (insE n f) 0).toNat - 0 = _
  rw [lenX_ins]; rfl
theorem su_at (n : Nat) (f : Nat → In) (j : Nat) : insL (suE n f) (0 + j) = f j := by
  show decC (inC (f (0 + (0 + j)))) = f j
  rw [decC_inC, Nat.zero_add, Nat.zero_add]
theorem pre_zero {n : Nat} (h : n = 0) : pre (decide (n = 0)) = true := by unfold pre; exact decide_eq_true h
set_option maxRecDepth 10000 in
theorem ar_0z (n m k : Nat) (f g h : Nat → In) (hn6 : n ≤ 60) (hm6 : m ≤ 60) (hk6 : k ≤ 60) (h1 : 0 < m) (h2 : 0 < n) (h3 : 0 < k) (hX : lenX (insE n f) 0 = 0) (w : World) (vals : List Value) (ha : ArgsOk w [.inr (insE n f), .inr (insE m g), .inr (insE k h)] vals) : LRet Try.prog 5 vals false [.inl (.bool true)] w := by
  have hb := lenE_bounds n f
  rw [← lenX_ins] at hb
  have n0 : zeE.n = 0 := rfl
  have m0 : (insE m g).n = m := rfl
  have m1 : (insE n f).n = n := rfl
  have m2 : (insE k h).n = k := rfl
  have n1 : (stE false zeE (insE m g)).n = m := by rw [st_n (b := (insE m g)) (fun hh => by cases hh)]; show 0 + m = m; omega
  have n2 : (stE false (stE false zeE (insE m g)) (insE n f)).n = m + n := by rw [st_n (b := (insE n f)) (fun hh => by cases hh), n1]; rfl
  refine fn_ok (enX_ok (fun _ => none) []) (fuel := 1000) (d := 30) (plan := []) (orc := [false, false, false, false, false, false, true]) (fls := [[], [], []]) (l := [(lenX (insE n f) 0 == 0, true), (pre (decide ((stE false (stE false zeE (insE m g)) (insE n f)).n + (insE k h).n ≤ maxLen ∧ ((stE false (stE false zeE (insE m g)) (insE n f)).n + (insE k h).n) * 48 ≤ 140737488355328 ∧ 0 < (insE k h).n)), true), (pre (decide ((stE false zeE (insE m g)).n + (insE n f).n ≤ maxLen ∧ ((stE false zeE (insE m g)).n + (insE n f).n) * 48 ≤ 140737488355328 ∧ 0 < (insE n f).n)), true), (pre (decide (zeE.n + (insE m g).n ≤ maxLen ∧ (zeE.n + (insE m g).n) * 48 ≤ 140737488355328 ∧ 0 < (insE m g).n)), true), (decide (lenX (insE n f) 0 > 16), false), (decide (lenX (insE n f) 0 > (n : Int)), false), (decide (lenX (insE n f) 0 < 0), false), (pre (propB (isIn (insE n f) (insE n f).n (insL (insE n f)))), true), (decide ((k : Int) > 60), false), (decide ((m : Int) > 60), false), (decide ((n : Int) > 60), false)]) (tr := []) (by kernel_rfl) ?_ Try.func5 w _ (GlobOk.none w) ha fun t ht => by cases ht
  refine all_cons ?_ <| all_cons ?_ <| all_cons ?_ <| all_cons ?_ <| all_cons ?_ <| all_cons ?_ <| all_cons ?_ <| all_cons ?_ <| all_cons ?_ <| all_cons ?_ <| all_cons ?_ <| all_nil
  · exact beq_iff_eq.mpr hX
  · exact ob_app (by omega) (by omega) (by omega)
  · exact ob_app (by omega) (by omega) (by omega)
  · exact ob_app (by omega) (by omega) (by omega)
  · exact ob_no (by omega)
  · exact ob_no (by omega)
  · exact ob_no (by omega)
  · exact propB_ok.mpr ((ins_good n f).isIn (by show n ≤ _; omega))
  · exact ob_no (by omega)
  · exact ob_no (by omega)
  · exact ob_no (by omega)
set_option maxRecDepth 10000 in
theorem ar_0l (n m k : Nat) (f g h : Nat → In) (hn6 : n ≤ 60) (hm6 : m ≤ 60) (hk6 : k ≤ 60) (h1 : 0 < m) (h2 : 0 < n) (h3 : 0 < k) (hX : lenX (insE n f) 0 ≠ 0) (w : World) (vals : List Value) (ha : ArgsOk w [.inr (insE n f), .inr (insE m g), .inr (insE k h)] vals) : LRet Try.prog 5 vals false [.inl (.bool true)] w := by
  have hb := lenE_bounds n f
  rw [← lenX_ins] at hb
  have n0 : zeE.n = 0 := rfl
  have m0 : (insE m g).n = m := rfl
  have m1 : (insE n f).n = n := rfl
  have m2 : (insE k h).n = k := rfl
  have n1 : (stE false zeE (insE m g)).n = m := by rw [st_n (b := (insE m g)) (fun hh => by cases hh)]; show 0 + m = m; omega
  have n2 : (stE false (stE false zeE (insE m g)) (insE n f)).n = m + n := by rw [st_n (b := (insE n f)) (fun hh => by cases hh), n1]; rfl
  have hn : (alE false false false m n k g f h).n = m + n + k := al_n (fun hh => by cases hh) (fun hh => by cases hh) (fun hh => by cases hh)
  have hs := su_n n f
  have hXl := lenX_ins n f 0
  have hA : lenX (alE false false false m n k g f h) (m : Int) = lenX (insE n f) 0 := by
    rw [lenX_at hn, hXl]
    exact lenE_moved (by rw [← hXl]; exact hX) (by rw [← hXl]; omega) (fun j hj => al_at (fun hh => by cases hh) (fun hh => by cases hh) (by rw [← hXl] at hj; omega))
  have hS : lenX (suE n f) 0 = lenX (insE n f) 0 := by
    rw [lenX_at hs, hXl]
    exact lenE_moved (p := 0) (by rw [← hXl]; exact hX) (by rw [← hXl]; omega) (fun j hj => su_at n f j)
  refine fn_ok (enX_ok (fun _ => none) []) (fuel := 1000) (d := 30) (plan := []) (orc := [false, false, false, false, false, false, false, true, true]) (fls := [[], [], []]) (l := [(lenX (suE n f) 0 == lenX (insE n f) 0, true), (pre (propB (isIn (suE n f) (suE n f).n (insL (suE n f)))), true), (pre (decide (0 ≤ (0 : Int) ∧ 0 ≤ lenX (insE n f) 0 ∧ lenX (insE n f) 0 ≤ (n : Int))), true), (lenX (alE false false false m n k g f h) (m : Int) == lenX (insE n f) 0, true), (pre (propB (isIn (alE false false false m n k g f h) (alE false false false m n k g f h).n (insL (alE false false false m n k g f h)))), true), (lenX (insE n f) 0 == 0, false), (pre (decide ((stE false (stE false zeE (insE m g)) (insE n f)).n + (insE k h).n ≤ maxLen ∧ ((stE false (stE false zeE (insE m g)) (insE n f)).n + (insE k h).n) * 48 ≤ 140737488355328 ∧ 0 < (insE k h).n)), true), (pre (decide ((stE false zeE (insE m g)).n + (insE n f).n ≤ maxLen ∧ ((stE false zeE (insE m g)).n + (insE n f).n) * 48 ≤ 140737488355328 ∧ 0 < (insE n f).n)), true), (pre (decide (zeE.n + (insE m g).n ≤ maxLen ∧ (zeE.n + (insE m g).n) * 48 ≤ 140737488355328 ∧ 0 < (insE m g).n)), true), (decide (lenX (insE n f) 0 > 16), false), (decide (lenX (insE n f) 0 > (n : Int)), false), (decide (lenX (insE n f) 0 < 0), false), (pre (propB (isIn (insE n f) (insE n f).n (insL (insE n f)))), true), (decide ((k : Int) > 60), false), (decide ((m : Int) > 60), false), (decide ((n : Int) > 60), false)]) (tr := []) (by kernel_rfl) ?_ Try.func5 w _ (GlobOk.none w) ha fun t ht => by cases ht
  refine all_cons ?_ <| all_cons ?_ <| all_cons ?_ <| all_cons ?_ <| all_cons ?_ <| all_cons ?_ <| all_cons ?_ <| all_cons ?_ <| all_cons ?_ <| all_cons ?_ <| all_cons ?_ <| all_cons ?_ <| all_cons ?_ <| all_cons ?_ <| all_cons ?_ <| all_cons ?_ <| all_nil
  · exact beq_iff_eq.mpr hS
  · exact propB_ok.mpr ((su_good n f).isIn (by omega))
  · unfold pre; exact decide_eq_true ⟨by omega, by omega, by omega⟩
  · exact beq_iff_eq.mpr hA
  · exact propB_ok.mpr ((al_good _ _ _ _ _ _ _ _ _).isIn (by omega))
  · exact beq_eq_false_iff_ne.mpr hX
  · exact ob_app (by omega) (by omega) (by omega)
  · exact ob_app (by omega) (by omega) (by omega)
  · exact ob_app (by omega) (by omega) (by omega)
  · exact ob_no (by omega)
  · exact ob_no (by omega)
  · exact ob_no (by omega)
  · exact propB_ok.mpr ((ins_good n f).isIn (by show n ≤ _; omega))
  · exact ob_no (by omega)
  · exact ob_no (by omega)
  · exact ob_no (by omega)
set_option maxRecDepth 10000 in
theorem ar_1z (n m k : Nat) (f g h : Nat → In) (hn6 : n ≤ 60) (hm6 : m ≤ 60) (hk6 : k ≤ 60) (h1 : 0 < m) (h2 : 0 < n) (h3 : k = 0) (hX : lenX (insE n f) 0 = 0) (w : World) (vals : List Value) (ha : ArgsOk w [.inr (insE n f), .inr (insE m g), .inr (insE k h)] vals) : LRet Try.prog 5 vals false [.inl (.bool true)] w := by
  have hb := lenE_bounds n f
  rw [← lenX_ins] at hb
  have n0 : zeE.n = 0 := rfl
  have m0 : (insE m g).n = m := rfl
  have m1 : (insE n f).n = n := rfl
  have m2 : (insE k h).n = k := rfl
  have n1 : (stE false zeE (insE m g)).n = m := by rw [st_n (b := (insE m g)) (fun hh => by cases hh)]; show 0 + m = m; omega
  have n2 : (stE false (stE false zeE (insE m g)) (insE n f)).n = m + n := by rw [st_n (b := (insE n f)) (fun hh => by cases hh), n1]; rfl
  refine fn_ok (enX_ok (fun _ => none) [43]) (fuel := 1000) (d := 30) (plan := []) (orc := [false, false, false, false, false, false, true]) (fls := [[], [], []]) (l := [(lenX (insE n f) 0 == 0, true), (pre (decide ((insE k h).n = 0)), true), (pre (decide ((stE false zeE (insE m g)).n + (insE n f).n ≤ maxLen ∧ ((stE false zeE (insE m g)).n + (insE n f).n) * 48 ≤ 140737488355328 ∧ 0 < (insE n f).n)), true), (pre (decide (zeE.n + (insE m g).n ≤ maxLen ∧ (zeE.n + (insE m g).n) * 48 ≤ 140737488355328 ∧ 0 < (insE m g).n)), true), (decide (lenX (insE n f) 0 > 16), false), (decide (lenX (insE n f) 0 > (n : Int)), false), (decide (lenX (insE n f) 0 < 0), false), (pre (propB (isIn (insE n f) (insE n f).n (insL (insE n f)))), true), (decide ((k : Int) > 60), false), (decide ((m : Int) > 60), false), (decide ((n : Int) > 60), false)]) (tr := []) (by kernel_rfl) ?_ Try.func5 w _ (GlobOk.none w) ha fun t ht => by cases ht
  refine all_cons ?_ <| all_cons ?_ <| all_cons ?_ <| all_cons ?_ <| all_cons ?_ <| all_cons ?_ <| all_cons ?_ <| all_cons ?_ <| all_cons ?_ <| all_cons ?_ <| all_cons ?_ <| all_nil
  · exact beq_iff_eq.mpr hX
  · exact pre_zero (by assumption)
  · exact ob_app (by omega) (by omega) (by omega)
  · exact ob_app (by omega) (by omega) (by omega)
  · exact ob_no (by omega)
  · exact ob_no (by omega)
  · exact ob_no (by omega)
  · exact propB_ok.mpr ((ins_good n f).isIn (by show n ≤ _; omega))
  · exact ob_no (by omega)
  · exact ob_no (by omega)
  · exact ob_no (by omega)
set_option maxRecDepth 10000 in
theorem ar_1l (n m k : Nat) (f g h : Nat → In) (hn6 : n ≤ 60) (hm6 : m ≤ 60) (hk6 : k ≤ 60) (h1 : 0 < m) (h2 : 0 < n) (h3 : k = 0) (hX : lenX (insE n f) 0 ≠ 0) (w : World) (vals : List Value) (ha : ArgsOk w [.inr (insE n f), .inr (insE m g), .inr (insE k h)] vals) : LRet Try.prog 5 vals false [.inl (.bool true)] w := by
  have hb := lenE_bounds n f
  rw [← lenX_ins] at hb
  have n0 : zeE.n = 0 := rfl
  have m0 : (insE m g).n = m := rfl
  have m1 : (insE n f).n = n := rfl
  have m2 : (insE k h).n = k := rfl
  have n1 : (stE false zeE (insE m g)).n = m := by rw [st_n (b := (insE m g)) (fun hh => by cases hh)]; show 0 + m = m; omega
  have n2 : (stE false (stE false zeE (insE m g)) (insE n f)).n = m + n := by rw [st_n (b := (insE n f)) (fun hh => by cases hh), n1]; rfl
  have hn : (alE false false true m n k g f h).n = m + n + k := al_n (fun hh => by cases hh) (fun hh => by cases hh) (fun _ => h3)
  have hs := su_n n f
  have hXl := lenX_ins n f 0
  have hA : lenX (alE false false true m n k g f h) (m : Int) = lenX (insE n f) 0 := by
    rw [lenX_at hn, hXl]
    exact lenE_moved (by rw [← hXl]; exact hX) (by rw [← hXl]; omega) (fun j hj => al_at (fun hh => by cases hh) (fun hh => by cases hh) (by rw [← hXl] at hj; omega))
  have hS : lenX (suE n f) 0 = lenX (insE n f) 0 := by
    rw [lenX_at hs, hXl]
    exact lenE_moved (p := 0) (by rw [← hXl]; exact hX) (by rw [← hXl]; omega) (fun j hj => su_at n f j)
  refine fn_ok (enX_ok (fun _ => none) [43]) (fuel := 1000) (d := 30) (plan := []) (orc := [false, false, false, false, false, false, false, true, true]) (fls := [[], [], []]) (l := [(lenX (suE n f) 0 == lenX (insE n f) 0, true), (pre (propB (isIn (suE n f) (suE n f).n (insL (suE n f)))), true), (pre (decide (0 ≤ (0 : Int) ∧ 0 ≤ lenX (insE n f) 0 ∧ lenX (insE n f) 0 ≤ (n : Int))), true), (lenX (alE false false true m n k g f h) (m : Int) == lenX (insE n f) 0, true), (pre (propB (isIn (alE false false true m n k g f h) (alE false false true m n k g f h).n (insL (alE false false true m n k g f h)))), true), (lenX (insE n f) 0 == 0, false), (pre (decide ((insE k h).n = 0)), true), (pre (decide ((stE false zeE (insE m g)).n + (insE n f).n ≤ maxLen ∧ ((stE false zeE (insE m g)).n + (insE n f).n) * 48 ≤ 140737488355328 ∧ 0 < (insE n f).n)), true), (pre (decide (zeE.n + (insE m g).n ≤ maxLen ∧ (zeE.n + (insE m g).n) * 48 ≤ 140737488355328 ∧ 0 < (insE m g).n)), true), (decide (lenX (insE n f) 0 > 16), false), (decide (lenX (insE n f) 0 > (n : Int)), false), (decide (lenX (insE n f) 0 < 0), false), (pre (propB (isIn (insE n f) (insE n f).n (insL (insE n f)))), true), (decide ((k : Int) > 60), false), (decide ((m : Int) > 60), false), (decide ((n : Int) > 60), false)]) (tr := []) (by kernel_rfl) ?_ Try.func5 w _ (GlobOk.none w) ha fun t ht => by cases ht
  refine all_cons ?_ <| all_cons ?_ <| all_cons ?_ <| all_cons ?_ <| all_cons ?_ <| all_cons ?_ <| all_cons ?_ <| all_cons ?_ <| all_cons ?_ <| all_cons ?_ <| all_cons ?_ <| all_cons ?_ <| all_cons ?_ <| all_cons ?_ <| all_cons ?_ <| all_cons ?_ <| all_nil
  · exact beq_iff_eq.mpr hS
  · exact propB_ok.mpr ((su_good n f).isIn (by omega))
  · unfold pre; exact decide_eq_true ⟨by omega, by omega, by omega⟩
  · exact beq_iff_eq.mpr hA
  · exact propB_ok.mpr ((al_good _ _ _ _ _ _ _ _ _).isIn (by omega))
  · exact beq_eq_false_iff_ne.mpr hX
  · exact pre_zero (by assumption)
  · exact ob_app (by omega) (by omega) (by omega)
  · exact ob_app (by omega) (by omega) (by omega)
  · exact ob_no (by omega)
  · exact ob_no (by omega)
  · exact ob_no (by omega)
  · exact propB_ok.mpr ((ins_good n f).isIn (by show n ≤ _; omega))
  · exact ob_no (by omega)
  · exact ob_no (by omega)
  · exact ob_no (by omega)
set_option maxRecDepth 10000 in
theorem ar_2z (n m k : Nat) (f g h : Nat → In) (hn6 : n ≤ 60) (hm6 : m ≤ 60) (hk6 : k ≤ 60) (h1 : 0 < m) (h2 : n = 0) (h3 : 0 < k) (hX : lenX (insE n f) 0 = 0) (w : World) (vals : List Value) (ha : ArgsOk w [.inr (insE n f), .inr (insE m g), .inr (insE k h)] vals) : LRet Try.prog 5 vals false [.inl (.bool true)] w := by
  have hb := lenE_bounds n f
  rw [← lenX_ins] at hb
  have n0 : zeE.n = 0 := rfl
  have m0 : (insE m g).n = m := rfl
  have m1 : (insE n f).n = n := rfl
  have m2 : (insE k h).n = k := rfl
  have n1 : (stE false zeE (insE m g)).n = m := by rw [st_n (b := (insE m g)) (fun hh => by cases hh)]; show 0 + m = m; omega
  have n2 : (stE true (stE false zeE (insE m g)) (insE n f)).n = m + n := by rw [st_n (b := (insE n f)) (fun _ => h2), n1]; rfl
  refine fn_ok (enX_ok (fun _ => none) [41]) (fuel := 1000) (d := 30) (plan := []) (orc := [false, false, false, false, false, false, true]) (fls := [[], [], []]) (l := [(lenX (insE n f) 0 == 0, true), (pre (decide ((stE true (stE false zeE (insE m g)) (insE n f)).n + (insE k h).n ≤ maxLen ∧ ((stE true (stE false zeE (insE m g)) (insE n f)).n + (insE k h).n) * 48 ≤ 140737488355328 ∧ 0 < (insE k h).n)), true), (pre (decide ((insE n f).n = 0)), true), (pre (decide (zeE.n + (insE m g).n ≤ maxLen ∧ (zeE.n + (insE m g).n) * 48 ≤ 140737488355328 ∧ 0 < (insE m g).n)), true), (decide (lenX (insE n f) 0 > 16), false), (decide (lenX (insE n f) 0 > (n : Int)), false), (decide (lenX (insE n f) 0 < 0), false), (pre (propB (isIn (insE n f) (insE n f).n (insL (insE n f)))), true), (decide ((k : Int) > 60), false), (decide ((m : Int) > 60), false), (decide ((n : Int) > 60), false)]) (tr := []) (by kernel_rfl) ?_ Try.func5 w _ (GlobOk.none w) ha fun t ht => by cases ht
  refine all_cons ?_ <| all_cons ?_ <| all_cons ?_ <| all_cons ?_ <| all_cons ?_ <| all_cons ?_ <| all_cons ?_ <| all_cons ?_ <| all_cons ?_ <| all_cons ?_ <| all_cons ?_ <| all_nil
  · exact beq_iff_eq.mpr hX
  · exact ob_app (by omega) (by omega) (by omega)
  · exact pre_zero (by assumption)
  · exact ob_app (by omega) (by omega) (by omega)
  · exact ob_no (by omega)
  · exact ob_no (by omega)
  · exact ob_no (by omega)
  · exact propB_ok.mpr ((ins_good n f).isIn (by show n ≤ _; omega))
  · exact ob_no (by omega)
  · exact ob_no (by omega)
  · exact ob_no (by omega)
set_option maxRecDepth 10000 in
theorem ar_3z (n m k : Nat) (f g h : Nat → In) (hn6 : n ≤ 60) (hm6 : m ≤ 60) (hk6 : k ≤ 60) (h1 : 0 < m) (h2 : n = 0) (h3 : k = 0) (hX : lenX (insE n f) 0 = 0) (w : World) (vals : List Value) (ha : ArgsOk w [.inr (insE n f), .inr (insE m g), .inr (insE k h)] vals) : LRet Try.prog 5 vals false [.inl (.bool true)] w := by
  have hb := lenE_bounds n f
  rw [← lenX_ins] at hb
  have n0 : zeE.n = 0 := rfl
  have m0 : (insE m g).n = m := rfl
  have m1 : (insE n f).n = n := rfl
  have m2 : (insE k h).n = k := rfl
  have n1 : (stE false zeE (insE m g)).n = m := by rw [st_n (b := (insE m g)) (fun hh => by cases hh)]; show 0 + m = m; omega
  have n2 : (stE true (stE false zeE (insE m g)) (insE n f)).n = m + n := by rw [st_n (b := (insE n f)) (fun _ => h2), n1]; rfl
  refine fn_ok (enX_ok (fun _ => none) [41, 43]) (fuel := 1000) (d := 30) (plan := []) (orc := [false, false, false, false, false, false, true]) (fls := [[], [], []]) (l := [(lenX (insE n f) 0 == 0, true), (pre (decide ((insE k h).n = 0)), true), (pre (decide ((insE n f).n = 0)), true), (pre (decide (zeE.n + (insE m g).n ≤ maxLen ∧ (zeE.n + (insE m g).n) * 48 ≤ 140737488355328 ∧ 0 < (insE m g).n)), true), (decide (lenX (insE n f) 0 > 16), false), (decide (lenX (insE n f) 0 > (n : Int)), false), (decide (lenX (insE n f) 0 < 0), false), (pre (propB (isIn (insE n f) (insE n f).n (insL (insE n f)))), true), (decide ((k : Int) > 60), false), (decide ((m : Int) > 60), false), (decide ((n : Int) > 60), false)]) (tr := []) (by kernel_rfl) ?_ Try.func5 w _ (GlobOk.none w) ha fun t ht => by cases ht
  refine all_cons ?_ <| all_cons ?_ <| all_cons ?_ <| all_cons ?_ <| all_cons ?_ <| all_cons ?_ <| all_cons ?_ <| all_cons ?_ <| all_cons ?_ <| all_cons ?_ <| all_cons ?_ <| all_nil
  · exact beq_iff_eq.mpr hX
  · exact pre_zero (by assumption)
  · exact pre_zero (by assumption)
  · exact ob_app (by omega) (by omega) (by omega)
  · exact ob_no (by omega)
  · exact ob_no (by omega)
  · exact ob_no (by omega)
  · exact propB_ok.mpr ((ins_good n f).isIn (by show n ≤ _; omega))
  · exact ob_no (by omega)
  · exact ob_no (by omega)
  · exact ob_no (by omega)
set_option maxRecDepth 10000 in
theorem ar_4z (n m k : Nat) (f g h : Nat → In) (hn6 : n ≤ 60) (hm6 : m ≤ 60) (hk6 : k ≤ 60) (h1 : m = 0) (h2 : 0 < n) (h3 : 0 < k) (hX : lenX (insE n f) 0 = 0) (w : World) (vals : List Value) (ha : ArgsOk w [.inr (insE n f), .inr (insE m g), .inr (insE k h)] vals) : LRet Try.prog 5 vals false [.inl (.bool true)] w := by
  have hb := lenE_bounds n f
  rw [← lenX_ins] at hb
  have n0 : zeE.n = 0 := rfl
  have m0 : (insE m g).n = m := rfl
  have m1 : (insE n f).n = n := rfl
  have m2 : (insE k h).n = k := rfl
  have n1 : (stE true zeE (insE m g)).n = m := by rw [st_n (b := (insE m g)) (fun _ => h1)]; show 0 + m = m; omega
  have n2 : (stE false (stE true zeE (insE m g)) (insE n f)).n = m + n := by rw [st_n (b := (insE n f)) (fun hh => by cases hh), n1]; rfl
  refine fn_ok (enX_ok (fun _ => none) [39]) (fuel := 1000) (d := 30) (plan := []) (orc := [false, false, false, false, false, false, true]) (fls := [[], [], []]) (l := [(lenX (insE n f) 0 == 0, true), (pre (decide ((stE false (stE true zeE (insE m g)) (insE n f)).n + (insE k h).n ≤ maxLen ∧ ((stE false (stE true zeE (insE m g)) (insE n f)).n + (insE k h).n) * 48 ≤ 140737488355328 ∧ 0 < (insE k h).n)), true), (pre (decide ((stE true zeE (insE m g)).n + (insE n f).n ≤ maxLen ∧ ((stE true zeE (insE m g)).n + (insE n f).n) * 48 ≤ 140737488355328 ∧ 0 < (insE n f).n)), true), (pre (decide ((insE m g).n = 0)), true), (decide (lenX (insE n f) 0 > 16), false), (decide (lenX (insE n f) 0 > (n : Int)), false), (decide (lenX (insE n f) 0 < 0), false), (pre (propB (isIn (insE n f) (insE n f).n (insL (insE n f)))), true), (decide ((k : Int) > 60), false), (decide ((m : Int) > 60), false), (decide ((n : Int) > 60), false)]) (tr := []) (by kernel_rfl) ?_ Try.func5 w _ (GlobOk.none w) ha fun t ht => by cases ht
  refine all_cons ?_ <| all_cons ?_ <| all_cons ?_ <| all_cons ?_ <| all_cons ?_ <| all_cons ?_ <| all_cons ?_ <| all_cons ?_ <| all_cons ?_ <| all_cons ?_ <| all_cons ?_ <| all_nil
  · exact beq_iff_eq.mpr hX
  · exact ob_app (by omega) (by omega) (by omega)
  · exact ob_app (by omega) (by omega) (by omega)
  · exact pre_zero (by assumption)
  · exact ob_no (by omega)
  · exact ob_no (by omega)
  · exact ob_no (by omega)
  · exact propB_ok.mpr ((ins_good n f).isIn (by show n ≤ _; omega))
  · exact ob_no (by omega)
  · exact ob_no (by omega)
  · exact ob_no (by omega)
set_option maxRecDepth 10000 in
theorem ar_4l (n m k : Nat) (f g h : Nat → In) (hn6 : n ≤ 60) (hm6 : m ≤ 60) (hk6 : k ≤ 60) (h1 : m = 0) (h2 : 0 < n) (h3 : 0 < k) (hX : lenX (insE n f) 0 ≠ 0) (w : World) (vals : List Value) (ha : ArgsOk w [.inr (insE n f), .inr (insE m g), .inr (insE k h)] vals) : LRet Try.prog 5 vals false [.inl (.bool true)] w := by
  have hb := lenE_bounds n f
  rw [← lenX_ins] at hb
  have n0 : zeE.n = 0 := rfl
  have m0 : (insE m g).n = m := rfl
  have m1 : (insE n f).n = n := rfl
  have m2 : (insE k h).n = k := rfl
  have n1 : (stE true zeE (insE m g)).n = m := by rw [st_n (b := (insE m g)) (fun _ => h1)]; show 0 + m = m; omega
  have n2 : (stE false (stE true zeE (insE m g)) (insE n f)).n = m + n := by rw [st_n (b := (insE n f)) (fun hh => by cases hh), n1]; rfl
  have hn : (alE true false false m n k g f h).n = m + n + k := al_n (fun _ => h1) (fun hh => by cases hh) (fun hh => by cases hh)
  have hs := su_n n f
  have hXl := lenX_ins n f 0
  have hA : lenX (alE true false false m n k g f h) (m : Int) = lenX (insE n f) 0 := by
    rw [lenX_at hn, hXl]
    exact lenE_moved (by rw [← hXl]; exact hX) (by rw [← hXl]; omega) (fun j hj => al_at (fun _ => h1) (fun hh => by cases hh) (by rw [← hXl] at hj; omega))
  have hS : lenX (suE n f) 0 = lenX (insE n f) 0 := by
    rw [lenX_at hs, hXl]
    exact lenE_moved (p := 0) (by rw [← hXl]; exact hX) (by rw [← hXl]; omega) (fun j hj => su_at n f j)
  refine fn_ok (enX_ok (fun _ => none) [39]) (fuel := 1000) (d := 30) (plan := []) (orc := [false, false, false, false, false, false, false, true, true]) (fls := [[], [], []]) (l := [(lenX (suE n f) 0 == lenX (insE n f) 0, true), (pre (propB (isIn (suE n f) (suE n f).n (insL (suE n f)))), true), (pre (decide (0 ≤ (0 : Int) ∧ 0 ≤ lenX (insE n f) 0 ∧ lenX (insE n f) 0 ≤ (n : Int))), true), (lenX (alE true false false m n k g f h) (m : Int) == lenX (insE n f) 0, true), (pre (propB (isIn (alE true false false m n k g f h) (alE true false false m n k g f h).n (insL (alE true false false m n k g f h)))), true), (lenX (insE n f) 0 == 0, false), (pre (decide ((stE false (stE true zeE (insE m g)) (insE n f)).n + (insE k h).n ≤ maxLen ∧ ((stE false (stE true zeE (insE m g)) (insE n f)).n + (insE k h).n) * 48 ≤ 140737488355328 ∧ 0 < (insE k h).n)), true), (pre (decide ((stE true zeE (insE m g)).n + (insE n f).n ≤ maxLen ∧ ((stE true zeE (insE m g)).n + (insE n f).n) * 48 ≤ 140737488355328 ∧ 0 < (insE n f).n)), true), (pre (decide ((insE m g).n = 0)), true), (decide (lenX (insE n f) 0 > 16), false), (decide (lenX (insE n f) 0 > (n : Int)), false), (decide (lenX (insE n f) 0 < 0), false), (pre (propB (isIn (insE n f) (insE n f).n (insL (insE n f)))), true), (decide ((k : Int) > 60), false), (decide ((m : Int) > 60), false), (decide ((n : Int) > 60), false)]) (tr := []) (by kernel_rfl) ?_ Try.func5 w _ (GlobOk.none w) ha fun t ht => by cases ht
  refine all_cons ?_ <| all_cons ?_ <| all_cons ?_ <| all_cons ?_ <| all_cons ?_ <| all_cons ?_ <| all_cons ?_ <| all_cons ?_ <| all_cons ?_ <| all_cons ?_ <| all_cons ?_ <| all_cons ?_ <| all_cons ?_ <| all_cons ?_ <| all_cons ?_ <| all_cons ?_ <| all_nil
  · exact beq_iff_eq.mpr hS
  · exact propB_ok.mpr ((su_good n f).isIn (by omega))
  · unfold pre; exact decide_eq_true ⟨by omega, by omega, by omega⟩
  · exact beq_iff_eq.mpr hA
  · exact propB_ok.mpr ((al_good _ _ _ _ _ _ _ _ _).isIn (by omega))
  · exact beq_eq_false_iff_ne.mpr hX
  · exact ob_app (by omega) (by omega) (by omega)
  · exact ob_app (by omega) (by omega) (by omega)
  · exact pre_zero (by assumption)
  · exact ob_no (by omega)
  · exact ob_no (by omega)
  · exact ob_no (by omega)
  · exact propB_ok.mpr ((ins_good n f).isIn (by show n ≤ _; omega))
  · exact ob_no (by omega)
  · exact ob_no (by omega)
  · exact ob_no (by omega)
set_option maxRecDepth 10000 in
theorem ar_5z (n m k : Nat) (f g h : Nat → In) (hn6 : n ≤ 60) (hm6 : m ≤ 60) (hk6 : k ≤ 60) (h1 : m = 0) (h2 : 0 < n) (h3 : k = 0) (hX : lenX (insE n f) 0 = 0) (w : World) (vals : List Value) (ha : ArgsOk w [.inr (insE n f), .inr (insE m g), .inr (insE k h)] vals) : LRet Try.prog 5 vals false [.inl (.bool true)] w := by
  have hb := lenE_bounds n f
  rw [← lenX_ins] at hb
  have n0 : zeE.n = 0 := rfl
  have m0 : (insE m g).n = m := rfl
  have m1 : (insE n f).n = n := rfl
  have m2 : (insE k h).n = k := rfl
  have n1 : (stE true zeE (insE m g)).n = m := by rw [st_n (b := (insE m g)) (fun _ => h1)]; show 0 + m = m; omega
  have n2 : (stE false (stE true zeE (insE m g)) (insE n f)).n = m + n := by rw [st_n (b := (insE n f)) (fun hh => by cases hh), n1]; rfl
  refine fn_ok (enX_ok (fun _ => none) [39, 43]) (fuel := 1000) (d := 30) (plan := []) (orc := [false, false, false, false, false, false, true]) (fls := [[], [], []]) (l := [(lenX (insE n f) 0 == 0, true), (pre (decide ((insE k h).n = 0)), true), (pre (decide ((stE true zeE (insE m g)).n + (insE n f).n ≤ maxLen ∧ ((stE true zeE (insE m g)).n + (insE n f).n) * 48 ≤ 140737488355328 ∧ 0 < (insE n f).n)), true), (pre (decide ((insE m g).n = 0)), true), (decide (lenX (insE n f) 0 > 16), false), (decide (lenX (insE n f) 0 > (n : Int)), false), (decide (lenX (insE n f) 0 < 0), false), (pre (propB (isIn (insE n f) (insE n f).n (insL (insE n f)))), true), (decide ((k : Int) > 60), false), (decide ((m : Int) > 60), false), (decide ((n : Int) > 60), false)]) (tr := []) (by kernel_rfl) ?_ Try.func5 w _ (GlobOk.none w) ha fun t ht => by cases ht
  refine all_cons ?_ <| all_cons ?_ <| all_cons ?_ <| all_cons ?_ <| all_cons ?_ <| all_cons ?_ <| all_cons ?_ <| all_cons ?_ <| all_cons ?_ <| all_cons ?_ <| all_cons ?_ <| all_nil
  · exact beq_iff_eq.mpr hX
  · exact pre_zero (by assumption)
  · exact ob_app (by omega) (by omega) (by omega)
  · exact pre_zero (by assumption)
  · exact ob_no (by omega)
  · exact ob_no (by omega)
  · exact ob_no (by omega)
  · exact propB_ok.mpr ((ins_good n f).isIn (by show n ≤ _; omega))
  · exact ob_no (by omega)
  · exact ob_no (by omega)
  · exact ob_no (by omega)
set_option maxRecDepth 10000 in
theorem ar_5l (n m k : Nat) (f g h : Nat → In) (hn6 : n ≤ 60) (hm6 : m ≤ 60) (hk6 : k ≤ 60) (h1 : m = 0) (h2 : 0 < n) (h3 : k = 0) (hX : lenX (insE n f) 0 ≠ 0) (w : World) (vals : List Value) (ha : ArgsOk w [.inr (insE n f), .inr (insE m g), .inr (insE k h)] vals) : LRet Try.prog 5 vals false [.inl (.bool true)] w := by
  have hb := lenE_bounds n f
  rw [← lenX_ins] at hb
  have n0 : zeE.n = 0 := rfl
  have m0 : (insE m g).n = m := rfl
  have m1 : (insE n f).n = n := rfl
  have m2 : (insE k h).n = k := rfl
  have n1 : (stE true zeE (insE m g)).n = m := by rw [st_n (b := (insE m g)) (fun _ => h1)]; show 0 + m = m; omega
  have n2 : (stE false (stE true zeE (insE m g)) (insE n f)).n = m + n := by rw [st_n (b := (insE n f)) (fun hh => by cases hh), n1]; rfl
  have hn : (alE true false true m n k g f h).n = m + n + k := al_n (fun _ => h1) (fun hh => by cases hh) (fun _ => h3)
  have hs := su_n n f
  have hXl := lenX_ins n f 0
  have hA : lenX (alE true false true m n k g f h) (m : Int) = lenX (insE n f) 0 := by
    rw [lenX_at hn, hXl]
    exact lenE_moved (by rw [← hXl]; exact hX) (by rw [← hXl]; omega) (fun j hj => al_at (fun _ => h1) (fun hh => by cases hh) (by rw [← hXl] at hj; omega))
  have hS : lenX (suE n f) 0 = lenX (insE n f) 0 := by
    rw [lenX_at hs, hXl]
    exact lenE_moved (p := 0) (by rw [← hXl]; exact hX) (by rw [← hXl]; omega) (fun j hj => su_at n f j)
  refine fn_ok (enX_ok (fun _ => none) [39, 43]) (fuel := 1000) (d := 30) (plan := []) (orc := [false, false, false, false, false, false, false, true, true]) (fls := [[], [], []]) (l := [(lenX (suE n f) 0 == lenX (insE n f) 0, true), (pre (propB (isIn (suE n f) (suE n f).n (insL (suE n f)))), true), (pre (decide (0 ≤ (0 : Int) ∧ 0 ≤ lenX (insE n f) 0 ∧ lenX (insE n f) 0 ≤ (n : Int))), true), (lenX (alE true false true m n k g f h) (m : Int) == lenX (insE n f) 0, true), (pre (propB (isIn (alE true false true m n k g f h) (alE true false true m n k g f h).n (insL (alE true false true m n k g f h)))), true), (lenX (insE n f) 0 == 0, false), (pre (decide ((insE k h).n = 0)), true), (pre (decide ((stE true zeE (insE m g)).n + (insE n f).n ≤ maxLen ∧ ((stE true zeE (insE m g)).n + (insE n f).n) * 48 ≤ 140737488355328 ∧ 0 < (insE n f).n)), true), (pre (decide ((insE m g).n = 0)), true), (decide (lenX (insE n f) 0 > 16), false), (decide (lenX (insE n f) 0 > (n : Int)), false), (decide (lenX (insE n f) 0 < 0), false), (pre (propB (isIn (insE n f) (insE n f).n (insL (insE n f)))), true), (decide ((k : Int) > 60), false), (decide ((m : Int) > 60), false), (decide ((n : Int) > 60), false)]) (tr := []) (by kernel_rfl) ?_ Try.func5 w _ (GlobOk.none w) ha fun t ht => by cases ht
  refine all_cons ?_ <| all_cons ?_ <| all_cons ?_ <| all_cons ?_ <| all_cons ?_ <| all_cons ?_ <| all_cons ?_ <| all_cons ?_ <| all_cons ?_ <| all_cons ?_ <| all_cons ?_ <| all_cons ?_ <| all_cons ?_ <| all_cons ?_ <| all_cons ?_ <| all_cons ?_ <| all_nil
  · exact beq_iff_eq.mpr hS
  · exact propB_ok.mpr ((su_good n f).isIn (by omega))
  · unfold pre; exact decide_eq_true ⟨by omega, by omega, by omega⟩
  · exact beq_iff_eq.mpr hA
  · exact propB_ok.mpr ((al_good _ _ _ _ _ _ _ _ _).isIn (by omega))
  · exact beq_eq_false_iff_ne.mpr hX
  · exact pre_zero (by assumption)
  · exact ob_app (by omega) (by omega) (by omega)
  · exact pre_zero (by assumption)
  · exact ob_no (by omega)
  · exact ob_no (by omega)
  · exact ob_no (by omega)
  · exact propB_ok.mpr ((ins_good n f).isIn (by show n ≤ _; omega))
  · exact ob_no (by omega)
  · exact ob_no (by omega)
  · exact ob_no (by omega)
set_option maxRecDepth 10000 in
theorem ar_6z (n m k : Nat) (f g h : Nat → In) (hn6 : n ≤ 60) (hm6 : m ≤ 60) (hk6 : k ≤ 60) (h1 : m = 0) (h2 : n = 0) (h3 : 0 < k) (hX : lenX (insE n f) 0 = 0) (w : World) (vals : List Value) (ha : ArgsOk w [.inr (insE n f), .inr (insE m g), .inr (insE k h)] vals) : LRet Try.prog 5 vals false [.inl (.bool true)] w := by
  have hb := lenE_bounds n f
  rw [← lenX_ins] at hb
  have n0 : zeE.n = 0 := rfl
  have m0 : (insE m g).n = m := rfl
  have m1 : (insE n f).n = n := rfl
  have m2 : (insE k h).n = k := rfl
  have n1 : (stE true zeE (insE m g)).n = m := by rw [st_n (b := (insE m g)) (fun _ => h1)]; show 0 + m = m; omega
  have n2 : (stE true (stE true zeE (insE m g)) (insE n f)).n = m + n := by rw [st_n (b := (insE n f)) (fun _ => h2), n1]; rfl
  refine fn_ok (enX_ok (fun _ => none) [39, 41]) (fuel := 1000) (d := 30) (plan := []) (orc := [false, false, false, false, false, false, true]) (fls := [[], [], []]) (l := [(lenX (insE n f) 0 == 0, true), (pre (decide ((stE true (stE true zeE (insE m g)) (insE n f)).n + (insE k h).n ≤ maxLen ∧ ((stE true (stE true zeE (insE m g)) (insE n f)).n + (insE k h).n) * 48 ≤ 140737488355328 ∧ 0 < (insE k h).n)), true), (pre (decide ((insE n f).n = 0)), true), (pre (decide ((insE m g).n = 0)), true), (decide (lenX (insE n f) 0 > 16), false), (decide (lenX (insE n f) 0 > (n : Int)), false), (decide (lenX (insE n f) 0 < 0), false), (pre (propB (isIn (insE n f) (insE n f).n (insL (insE n f)))), true), (decide ((k : Int) > 60), false), (decide ((m : Int) > 60), false), (decide ((n : Int) > 60), false)]) (tr := []) (by kernel_rfl) ?_ Try.func5 w _ (GlobOk.none w) ha fun t ht => by cases ht
  refine all_cons ?_ <| all_cons ?_ <| all_cons ?_ <| all_cons ?_ <| all_cons ?_ <| all_cons ?_ <| all_cons ?_ <| all_cons ?_ <| all_cons ?_ <| all_cons ?_ <| all_cons ?_ <| all_nil
  · exact beq_iff_eq.mpr hX
  · exact ob_app (by omega) (by omega) (by omega)
  · exact pre_zero (by assumption)
  · exact pre_zero (by assumption)
  · exact ob_no (by omega)
  · exact ob_no (by omega)
  · exact ob_no (by omega)
  · exact propB_ok.mpr ((ins_good n f).isIn (by show n ≤ _; omega))
  · exact ob_no (by omega)
  · exact ob_no (by omega)
  · exact ob_no (by omega)
set_option maxRecDepth 10000 in
theorem ar_7z (n m k : Nat) (f g h : Nat → In) (hn6 : n ≤ 60) (hm6 : m ≤ 60) (hk6 : k ≤ 60) (h1 : m = 0) (h2 : n = 0) (h3 : k = 0) (hX : lenX (insE n f) 0 = 0) (w : World) (vals : List Value) (ha : ArgsOk w [.inr (insE n f), .inr (insE m g), .inr (insE k h)] vals) : LRet Try.prog 5 vals false [.inl (.bool true)] w := by
  have hb := lenE_bounds n f
  rw [← lenX_ins] at hb
  have n0 : zeE.n = 0 := rfl
  have m0 : (insE m g).n = m := rfl
  have m1 : (insE n f).n = n := rfl
  have m2 : (insE k h).n = k := rfl
  have n1 : (stE true zeE (insE m g)).n = m := by rw [st_n (b := (insE m g)) (fun _ => h1)]; show 0 + m = m; omega
  have n2 : (stE true (stE true zeE (insE m g)) (insE n f)).n = m + n := by rw [st_n (b := (insE n f)) (fun _ => h2), n1]; rfl
  refine fn_ok (enX_ok (fun _ => none) [39, 41, 43]) (fuel := 1000) (d := 30) (plan := []) (orc := [false, false, false, false, false, false, true]) (fls := [[], [], []]) (l := [(lenX (insE n f) 0 == 0, true), (pre (decide ((insE k h).n = 0)), true), (pre (decide ((insE n f).n = 0)), true), (pre (decide ((insE m g).n = 0)), true), (decide (lenX (insE n f) 0 > 16), false), (decide (lenX (insE n f) 0 > (n : Int)), false), (decide (lenX (insE n f) 0 < 0), false), (pre (propB (isIn (insE n f) (insE n f).n (insL (insE n f)))), true), (decide ((k : Int) > 60), false), (decide ((m : Int) > 60), false), (decide ((n : Int) > 60), false)]) (tr := []) (by kernel_rfl) ?_ Try.func5 w _ (GlobOk.none w) ha fun t ht => by cases ht
  refine all_cons ?_ <| all_cons ?_ <| all_cons ?_ <| all_cons ?_ <| all_cons ?_ <| all_cons ?_ <| all_cons ?_ <| all_cons ?_ <| all_cons ?_ <| all_cons ?_ <| all_cons ?_ <| all_nil
  · exact beq_iff_eq.mpr hX
  · exact pre_zero (by assumption)
  · exact pre_zero (by assumption)
  · exact pre_zero (by assumption)
  · exact ob_no (by omega)
  · exact ob_no (by omega)
  · exact ob_no (by omega)
  · exact propB_ok.mpr ((ins_good n f).isIn (by show n ≤ _; omega))
  · exact ob_no (by omega)
  · exact ob_no (by omega)
  · exact ob_no (by omega)
theorem lrscAround_walk (n : Nat) (f : Nat → In) (v0 : Value) (m : Nat) (g : Nat → In) (v1 : Value) (k : Nat) (h : Nat → In) (v2 : Value) (w : World) (hw0 : ∀ j, j < n → wfIn (f j)) (hu0 : InB w.heap.size w (insE n f) v0) (hw1 : ∀ j, j < m → wfIn (g j)) (hu1 : InB w.heap.size w (insE m g) v1) (hw2 : ∀ j, j < k → wfIn (h j)) (hu2 : InB w.heap.size w (insE k h) v2) : Ret Try.prog 5 #[v0, v1, v2] (.bool true) w := by
  refine LRet.plain (?_ : LRet Try.prog 5 [v0, v1, v2] false [.inl (.bool true)] w)
  have hG : GlobOk (fun _ => none) w := GlobOk.none w
  have ha : ArgsOk w [.inr (insE n f), .inr (insE m g), .inr (insE k h)] [v0, v1, v2] := ⟨hu0, hu1, hu2, trivial⟩
  by_cases c1 : n ≤ 60
  · by_cases c2 : m ≤ 60
    · by_cases c3 : k ≤ 60
      · rcases Nat.eq_zero_or_pos m with h1 | h1 <;> rcases Nat.eq_zero_or_pos n with h2 | h2 <;> rcases Nat.eq_zero_or_pos k with h3 | h3
        · exact ar_7z n m k f g h c1 c2 c3 h1 h2 h3 (by rw [lenX_ins]; exact lenE_nil h2 0) w _ ha
        · exact ar_6z n m k f g h c1 c2 c3 h1 h2 h3 (by rw [lenX_ins]; exact lenE_nil h2 0) w _ ha
        · by_cases hX : lenX (insE n f) 0 = 0
          · exact ar_5z n m k f g h c1 c2 c3 h1 h2 h3 hX w _ ha
          · exact ar_5l n m k f g h c1 c2 c3 h1 h2 h3 hX w _ ha
        · by_cases hX : lenX (insE n f) 0 = 0
          · exact ar_4z n m k f g h c1 c2 c3 h1 h2 h3 hX w _ ha
          · exact ar_4l n m k f g h c1 c2 c3 h1 h2 h3 hX w _ ha
        · exact ar_3z n m k f g h c1 c2 c3 h1 h2 h3 (by rw [lenX_ins]; exact lenE_nil h2 0) w _ ha
        · exact ar_2z n m k f g h c1 c2 c3 h1 h2 h3 (by rw [lenX_ins]; exact lenE_nil h2 0) w _ ha
        · by_cases hX : lenX (insE n f) 0 = 0
          · exact ar_1z n m k f g h c1 c2 c3 h1 h2 h3 hX w _ ha
          · exact ar_1l n m k f g h c1 c2 c3 h1 h2 h3 hX w _ ha
        · by_cases hX : lenX (insE n f) 0 = 0
          · exact ar_0z n m k f g h c1 c2 c3 h1 h2 h3 hX w _ ha
          · exact ar_0l n m k f g h c1 c2 c3 h1 h2 h3 hX w _ ha
      · refine fn_ok (enX_ok (fun _ => none) []) (fuel := 1000) (d := 30) (plan := []) (orc := [false, false, true]) (fls := [[], [], []]) (l := [(decide ((k : Int) > 60), true), (decide ((m : Int) > 60), false), (decide ((n : Int) > 60), false)]) (tr := []) (by kernel_rfl) ?_ Try.func5 w _ hG ha fun t ht => by cases ht
        exact all_cons (ob_yes (by omega)) <| all_cons (ob_no (by omega)) <| all_cons (ob_no (by omega)) all_nil
    · refine fn_ok (enX_ok (fun _ => none) []) (fuel := 1000) (d := 30) (plan := []) (orc := [false, true]) (fls := [[], [], []]) (l := [(decide ((m : Int) > 60), true), (decide ((n : Int) > 60), false)]) (tr := []) (by kernel_rfl) ?_ Try.func5 w _ hG ha fun t ht => by cases ht
      exact all_cons (ob_yes (by omega)) <| all_cons (ob_no (by omega)) all_nil
  · refine fn_ok (enX_ok (fun _ => none) []) (fuel := 1000) (d := 30) (plan := []) (orc := [true]) (fls := [[], [], []]) (l := [(decide ((n : Int) > 60), true)]) (tr := []) (by kernel_rfl) ?_ Try.func5 w _ hG ha fun t ht => by cases ht
    exact all_cons (ob_yes (by omega)) all_nil
end Go.Proofs.Ytckgpcpcjhomiaa
