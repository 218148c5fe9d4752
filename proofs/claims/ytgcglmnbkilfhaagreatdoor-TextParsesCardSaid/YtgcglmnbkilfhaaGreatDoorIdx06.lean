/- Contracts of package text (layer 6): where the next separator stands. -/
import Derived.Test.YtgcglmnbkilfhaaGreatDoorRead06B
namespace Go.Proofs.YtgcglmnbkilfhaaGreatDoor
open Go.RowKit Sim S2
set_option linter.unusedVariables false
set_option linter.unusedSimpArgs false

def sepB (c : Int) : Bool := c == 44 || c == 32 || c == 40 || c == 41
/-- Where the letters of a string begin. -/
noncomputable def posK (s : ByteArray) : Nat → Nat
  | 0 => 0
  | j + 1 => posK s j + (runZ s (posK s j)).2
theorem dec_wid (s : ByteArray) (p : Nat) : 1 ≤ (Utf8.decode s p).2 := by
  unfold Utf8.decode
  simp only
  split
  · simp
  · split
    · split <;> simp
    · split
      · split <;> simp
      · split
        · split <;> simp
        · simp
theorem posK_ge (s : ByteArray) : ∀ j, j ≤ posK s j
  | 0 => Nat.zero_le _
  | j + 1 => by
    have := posK_ge s j
    have h2 := dec_wid s (posK s j)
    show j + 1 ≤ posK s j + (runZ s (posK s j)).2
    rw [runZ_eq]; omega
noncomputable def lastB (s : ByteArray) (j : Nat) : Bool := !decide (posK s j < s.size) || sepB ((runZ s (posK s j)).1 : Nat)
theorem last_ex (s : ByteArray) : ∃ N, lastB s N = true ∧ ∀ j, j < N → lastB s j = false := by
  have h : ∃ N, lastB s N = true := ⟨s.size, by
    have := posK_ge s s.size
    unfold lastB
    rw [decide_eq_false (by omega)]; rfl⟩
  obtain ⟨n, hn⟩ := h
  induction n using Nat.strongRecOn with
  | _ n ih =>
    by_cases hx : ∃ j, j < n ∧ lastB s j = true
    · obtain ⟨j, hj, hb⟩ := hx
      exact ih j hj hb
    · refine ⟨n, hn, fun j hj => ?_⟩
      cases hb : lastB s j
      · rfl
      · exact absurd ⟨j, hj, hb⟩ hx
noncomputable def lastN (s : ByteArray) : Nat := Classical.choose (last_ex s)
theorem lastN_spec (s : ByteArray) : lastB s (lastN s) = true ∧ ∀ j, j < lastN s → lastB s j = false := Classical.choose_spec (last_ex s)
theorem ixZ_ex : ∃ g : ByteArray → Int, ∀ s, g s = if posK s (lastN s) < s.size then ((posK s (lastN s) : Nat) : Int) else -1 := ⟨_, fun _ => rfl⟩
noncomputable def ixZ : ByteArray → Int := Classical.choose ixZ_ex
theorem ixZ_eq (s : ByteArray) : ixZ s = if posK s (lastN s) < s.size then ((posK s (lastN s) : Nat) : Int) else -1 := Classical.choose_spec ixZ_ex s
theorem ixZ_bnd (s : ByteArray) : -1 ≤ ixZ s ∧ ixZ s < s.size := by rw [ixZ_eq]; split <;> omega
noncomputable def envI : S2.Env := envq Tryz.prog (fun _ => none) noT noP noL
theorem envI_ok : CallOk envI := envq_ok (.none _ _) (.none _ _) (.none _ _)
noncomputable def ixC : Code := codeAt (codeOf Tryz.prog 76) (0 :: [0, 1, 0, 1])
def fnSep : Value := .func (.func 55) #[] #[]
noncomputable def ixSt (s : ByteArray) (j : Nat) : S2.St := { tmps := [(1, .inl ([], fnSep)), (2, .inl ([], .bool true)), (10, .inr (0, 0, none))], own := ⟨[⟨[], 0, .iter [true] s (posK s j)⟩], []⟩, lo := 0, llo := 0, mem := true, orc := [], obl := [] }
noncomputable def ixRt (v : Int) : S2.St := { tmps := [(6, .inl ([true], .int .i64 v))], own := ⟨[], []⟩, lo := 0, llo := 0, mem := true, orc := [], obl := [] }
def ixP : Pick := { ts := [1, 2, 10], bs := [0], ls := [] }
theorem ix_step (s : ByteArray) (j : Nat) (h : lastB s j = false) (w : World) : S2.Sem envI w 21 ixC (ixSt s j) none (ixSt s (j + 1)) := by
  unfold lastB sepB at h
  simp only [Bool.or_eq_false_iff, Bool.not_eq_false'] at h
  obtain ⟨h0, ⟨⟨h1, h2⟩, h3⟩, h4⟩ := h
  exact sem_iter envI_ok (GlobOk.none w) (p := ixP) (fuel := 1000) (s' := ixSt s (j + 1)) [true, false, false, false, false]
    [(((runZ s (posK s j)).1 : Int) == 41, false), (((runZ s (posK s j)).1 : Int) == 40, false), (((runZ s (posK s j)).1 : Int) == 32, false), (((runZ s (posK s j)).1 : Int) == 44, false), (decide (posK s j < s.size), true)] (by kernel_rfl) (by kernel_rfl)
    (all_cons h4 <| all_cons h3 <| all_cons h2 <| all_cons h1 <| all_cons h0 all_nil)
theorem ix_end (s : ByteArray) (j : Nat) (h : ¬ posK s j < s.size) (w : World) : S2.Sem envI w 21 ixC (ixSt s j) (some (some 0)) (ixSt s j) :=
  sem_iter envI_ok (GlobOk.none w) (p := ixP) (fuel := 1000) (s' := ixSt s j) [false] [(decide (posK s j < s.size), false)] (by kernel_rfl) (by kernel_rfl) (all_cons (ob_no h) all_nil)
theorem ix_f0 (s : ByteArray) (j : Nat) (hp : posK s j < s.size) (hr : (((runZ s (posK s j)).1 : Nat) : Int) = 44) (w : World) : S2.Sem envI w 21 ixC (ixSt s j) (some none) (ixRt (posK s j : Nat)) :=
  sem_iter envI_ok (GlobOk.none w) (p := { ts := [6], bs := [], ls := [] }) (fuel := 1000) (s' := ixRt (posK s j : Nat)) [true, true] [(((runZ s (posK s j)).1 : Int) == 44, true), (decide (posK s j < s.size), true)] (by kernel_rfl) (by kernel_rfl) (by simp [hr, hp])
theorem ix_f1 (s : ByteArray) (j : Nat) (hp : posK s j < s.size) (hr : (((runZ s (posK s j)).1 : Nat) : Int) = 32) (w : World) : S2.Sem envI w 21 ixC (ixSt s j) (some none) (ixRt (posK s j : Nat)) :=
  sem_iter envI_ok (GlobOk.none w) (p := { ts := [6], bs := [], ls := [] }) (fuel := 1000) (s' := ixRt (posK s j : Nat)) [true, false, true] [(((runZ s (posK s j)).1 : Int) == 32, true), (((runZ s (posK s j)).1 : Int) == 44, false), (decide (posK s j < s.size), true)] (by kernel_rfl) (by kernel_rfl) (by simp [hr, hp])
theorem ix_f2 (s : ByteArray) (j : Nat) (hp : posK s j < s.size) (hr : (((runZ s (posK s j)).1 : Nat) : Int) = 40) (w : World) : S2.Sem envI w 21 ixC (ixSt s j) (some none) (ixRt (posK s j : Nat)) :=
  sem_iter envI_ok (GlobOk.none w) (p := { ts := [6], bs := [], ls := [] }) (fuel := 1000) (s' := ixRt (posK s j : Nat)) [true, false, false, true] [(((runZ s (posK s j)).1 : Int) == 40, true), (((runZ s (posK s j)).1 : Int) == 32, false), (((runZ s (posK s j)).1 : Int) == 44, false), (decide (posK s j < s.size), true)] (by kernel_rfl) (by kernel_rfl) (by simp [hr, hp])
theorem ix_f3 (s : ByteArray) (j : Nat) (hp : posK s j < s.size) (hr : (((runZ s (posK s j)).1 : Nat) : Int) = 41) (w : World) : S2.Sem envI w 21 ixC (ixSt s j) (some none) (ixRt (posK s j : Nat)) :=
  sem_iter envI_ok (GlobOk.none w) (p := { ts := [6], bs := [], ls := [] }) (fuel := 1000) (s' := ixRt (posK s j : Nat)) [true, false, false, false, true] [(((runZ s (posK s j)).1 : Int) == 41, true), (((runZ s (posK s j)).1 : Int) == 40, false), (((runZ s (posK s j)).1 : Int) == 32, false), (((runZ s (posK s j)).1 : Int) == 44, false), (decide (posK s j < s.size), true)] (by kernel_rfl) (by kernel_rfl) (by simp [hr, hp])
theorem indexFunc_ret (s : ByteArray) (w : World) : Ret Tryz.prog 76 #[.string s, fnSep, .bool true] (.int .i64 (ixZ s)) w := by
  obtain ⟨k1, k2⟩ := lastN_spec s
  rw [ixZ_eq]
  by_cases hp : posK s (lastN s) < s.size
  · rw [if_pos hp]
    have hl : S2.Sem envI w 21 ixC (ixSt s (lastN s)) (some none) (ixRt (posK s (lastN s) : Nat)) := by
      unfold lastB sepB at k1
      rw [decide_eq_true hp] at k1
      simp at k1
      rcases k1 with ((h | h) | h) | h
      · exact ix_f0 s _ hp (by simpa using h) w
      · exact ix_f1 s _ hp (by simpa using h) w
      · exact ix_f2 s _ hp (by simpa using h) w
      · exact ix_f3 s _ hp (by simpa using h) w
    have h : LRet Tryz.prog 76 [.string s, fnSep, .bool true] false [.inl (.int .i64 (posK s (lastN s) : Nat))] w := by
      refine fn_ok envI_ok (fuel := 1000) (d := 30) (plan := [⟨[0, 1, 0, 1], ixP, some none, ixRt (posK s (lastN s) : Nat)⟩]) (orc := []) (fls := [[true], [], []]) (args := [.inl (.string s), .inl fnSep, .inl (.bool true)]) (l := []) (tr := [⟨.loop ixC, ixSt s 0, some none, ixRt (posK s (lastN s) : Nat)⟩]) (by kernel_rfl) (fun _ h => by cases h) Tryz.func76 w _ (GlobOk.none w) ⟨rfl, rfl, rfl, trivial⟩ fun t ht => ?_
      obtain rfl := List.mem_singleton.mp ht
      exact sem_loop (ixSt s) (lastN s) (by simp) (fun j hj => ix_step s j (k2 j hj) w) hl
    exact h.plain
  · rw [if_neg hp]
    have h : LRet Tryz.prog 76 [.string s, fnSep, .bool true] false [.inl (.int .i64 (-1))] w := by
      refine fn_ok envI_ok (fuel := 1000) (d := 30) (plan := [⟨[0, 1, 0, 1], ixP, some (some 0), ixSt s (lastN s)⟩]) (orc := []) (fls := [[true], [], []]) (args := [.inl (.string s), .inl fnSep, .inl (.bool true)]) (l := []) (tr := [⟨.loop ixC, ixSt s 0, some (some 0), ixSt s (lastN s)⟩]) (by kernel_rfl) (fun _ h => by cases h) Tryz.func76 w _ (GlobOk.none w) ⟨rfl, rfl, rfl, trivial⟩ fun t ht => ?_
      obtain rfl := List.mem_singleton.mp ht
      exact sem_loop (ixSt s) (lastN s) (by simp) (fun j hj => ix_step s j (k2 j hj) w) (ix_end s _ hp w)
    exact h.plain
def isSepF : Value → Bool
  | .func (.func k) ⟨[]⟩ ⟨[]⟩ => Nat.beq k 55
  | _ => false
theorem isSepF_eq {v : Value} (h : isSepF v = true) : v = fnSep := by
  unfold isSepF at h
  split at h
  · rw [Nat.eq_of_beq_eq_true h]; rfl
  · cases h
noncomputable def decIx : List Value → Option (Value × Bool)
  | [.string s, f, .bool b] => bif isSepF f && b then some (.int .i64 (ixZ s), true) else none
  | _ => none
noncomputable def pIx : PTab := prowD 76 decIx
theorem pIx_ok {gl : Gl} : PTabOk Tryz.prog gl pIx := .rowD fun args u hd w hG => by
  unfold decIx at hd
  split at hd
  · rename_i s f b
    cases hb : (isSepF f && b)
    · rw [hb] at hd; cases hd
    · rw [hb] at hd
      simp only [cond_true, Option.some.injEq, Prod.mk.injEq] at hd
      obtain ⟨rfl, _⟩ := hd
      simp only [Bool.and_eq_true] at hb
      obtain ⟨hf, rfl⟩ := hb
      rw [isSepF_eq hf]
      exact indexFunc_ret s w
  · cases hd
noncomputable def envJ : S2.Env := envq Tryz.prog (fun _ => none) noT pIx noL
theorem envJ_ok : CallOk envJ := envq_ok (.none _ _) pIx_ok (.none _ _)
theorem indexFuncTop_ret (s : ByteArray) (w : World) : Ret Tryz.prog 57 #[.string s, fnSep] (.int .i64 (ixZ s)) w :=
  ret6 envJ_ok (fls := [[true], []]) (args := [.inl (.string s), .inl fnSep]) (v := .int .i64 (ixZ s)) [] [(true, true)] (by kernel_rfl) (all_cons rfl all_nil) Tryz.func57 w [.string s, fnSep] (GlobOk.none w) ⟨rfl, rfl, trivial⟩
theorem posK_asc {s : ByteArray} {a : List UInt8} {r : List UInt8} (h : toL s = a ++ r) (ha : ∀ x ∈ a, x.toNat < 128) : ∀ j, j ≤ a.length → posK s j = j ∧ ∀ x, a[j]? = some x → (runZ s j).1 = x.toNat ∧ (runZ s j).2 = 1
  | 0, _ => ⟨rfl, fun x hx => asc_at h ha hx⟩
  | j + 1, hj => by
    obtain ⟨h1, h2⟩ := posK_asc h ha j (by omega)
    obtain ⟨_, h3⟩ := h2 a[j] (by simp)
    refine ⟨?_, fun x hx => asc_at h ha hx⟩
    show posK s j + (runZ s (posK s j)).2 = j + 1
    rw [h1, h3]
where
  asc_at {s : ByteArray} {a r : List UInt8} (h : toL s = a ++ r) (ha : ∀ x ∈ a, x.toNat < 128) {j : Nat} {x : UInt8} (hx : a[j]? = some x) : (runZ s j).1 = x.toNat ∧ (runZ s j).2 = 1 := by
    have hj : j < a.length := by
      rcases Nat.lt_or_ge j a.length with h' | h'
      · exact h'
      · rw [List.getElem?_eq_none h'] at hx; cases hx
    have hs : j < s.size := by rw [toL_size, h, List.length_append]; omega
    have he : s[j]'hs = x := by
      have h0 : (toL s)[j]? = some x := by rw [h, List.getElem?_append_left hj]; exact hx
      have h1 : (toL s)[j]? = some (s[j]'hs) := by
        show s.data.toList[j]? = _
        rw [Array.getElem?_toList, Array.getElem?_eq_getElem hs]; rfl
      rw [h1] at h0
      exact Option.some.inj h0
    have hx' := ha x (List.mem_of_getElem? hx)
    rw [runZ_eq, decode_ascii s j hs (by rw [he]; exact hx'), he]
    exact ⟨rfl, rfl⟩
theorem lastN_at {s : ByteArray} {N : Nat} (h1 : lastB s N = true) (h2 : ∀ j, j < N → lastB s j = false) : lastN s = N := by
  obtain ⟨k1, k2⟩ := lastN_spec s
  rcases Nat.lt_trichotomy (lastN s) N with h | h | h
  · rw [h2 _ h] at k1; cases k1
  · exact h
  · rw [k2 _ h] at h1; cases h1
/-- Letters of ASCII that are no separators. -/
def plainL (a : List UInt8) : Prop := ∀ x ∈ a, x.toNat < 128 ∧ sepB (x.toNat : Nat) = false
theorem plain_go {s : ByteArray} {a r : List UInt8} (h : toL s = a ++ r) (ha : plainL a) : ∀ j, j < a.length → lastB s j = false := fun j hj => by
  obtain ⟨h1, h2⟩ := posK_asc h (fun x hx => (ha x hx).1) j (by omega)
  obtain ⟨h3, _⟩ := h2 a[j] (by simp)
  unfold lastB
  rw [h1, h3, (ha _ (List.getElem_mem hj)).2, decide_eq_true (show j < s.size by rw [toL_size, h, List.length_append]; omega)]; rfl
theorem ixZ_at {s : ByteArray} {a r : List UInt8} {c : UInt8} (h : toL s = a ++ c :: r) (ha : plainL a) (hc : c.toNat < 128) (hb : sepB (c.toNat : Nat) = true) : ixZ s = a.length := by
  have e : toL s = (a ++ [c]) ++ r := by rw [h]; simp
  have hac : ∀ x ∈ a ++ [c], x.toNat < 128 := fun x hx => by
    rcases List.mem_append.mp hx with hx | hx
    · exact (ha x hx).1
    · rw [List.mem_singleton.mp hx]; exact hc
  obtain ⟨h1, h2⟩ := posK_asc e hac a.length (by simp)
  obtain ⟨h3, _⟩ := h2 c (by simp)
  have hlt : a.length < s.size := by rw [toL_size, h, List.length_append, List.length_cons]; omega
  have hN : lastN s = a.length := lastN_at (by unfold lastB; rw [h1, h3, hb, Bool.or_true]) (plain_go h ha)
  rw [ixZ_eq, hN, h1, if_pos hlt]
theorem ixZ_none {s : ByteArray} (ha : plainL (toL s)) : ixZ s = -1 := by
  have e : toL s = toL s ++ [] := by simp
  obtain ⟨h1, _⟩ := posK_asc e (fun x hx => (ha x hx).1) (toL s).length (Nat.le_refl _)
  have hN : lastN s = (toL s).length := lastN_at (by unfold lastB; rw [h1, toL_size, decide_eq_false (by omega)]; rfl) (plain_go e ha)
  rw [ixZ_eq, hN, h1, if_neg (by rw [toL_size]; omega)]
--@s2 sp "(c : Int)" "simF envI 1000 10 [] $O 55 [[true]] [.inl (.int .i32 c)]" a:t b:ft c:fft d:ffft n:ffff
theorem sp_a (c : Int) : simF envI 1000 10 [] [true] 55 [[true]] [.inl (.int .i32 c)] = some (false, [Sum.inl (Value.bool true)], [(c == 44, true)], []) := by kernel_rfl
theorem sp_b (c : Int) : simF envI 1000 10 [] [false, true] 55 [[true]] [.inl (.int .i32 c)] = some (false, [Sum.inl (Value.bool true)], [(c == 32, true), (c == 44, false)], []) := by kernel_rfl
theorem sp_c (c : Int) : simF envI 1000 10 [] [false, false, true] 55 [[true]] [.inl (.int .i32 c)] = some (false, [Sum.inl (Value.bool true)], [(c == 40, true), (c == 32, false), (c == 44, false)], []) := by kernel_rfl
theorem sp_d (c : Int) : simF envI 1000 10 [] [false, false, false, true] 55 [[true]] [.inl (.int .i32 c)] = some (false, [Sum.inl (Value.bool true)], [(c == 41, true), (c == 40, false), (c == 32, false), (c == 44, false)], []) := by kernel_rfl
theorem sp_n (c : Int) : simF envI 1000 10 [] [false, false, false, false] 55 [[true]] [.inl (.int .i32 c)] = some (false, [Sum.inl (Value.bool false)], [(c == 41, false), (c == 40, false), (c == 32, false), (c == 44, false)], []) := by kernel_rfl
--@s2end
theorem separates_ret (c : Int) (w : World) : Ret Tryz.prog 55 #[.int .i32 c] (.bool (sepB c)) w := by
  have fin : ∀ (b : Bool), sepB c = b → Ret Tryz.prog 55 #[.int .i32 c] (.bool b) w → Ret Tryz.prog 55 #[.int .i32 c] (.bool (sepB c)) w := fun b h k => by rw [h]; exact k
  have run := fun (orc : List Bool) (b : Bool) (l : List (Bool × Bool)) h hl => ret6 envI_ok (f := 55) (fls := [[true]]) (args := [.inl (.int .i32 c)]) (v := .bool b) orc l h hl Tryz.func55 w [.int .i32 c] (GlobOk.none w) ⟨rfl, trivial⟩
  cases h1 : c == 44
  · cases h2 : c == 32
    · cases h3 : c == 40
      · cases h4 : c == 41
        · exact fin false (by unfold sepB; rw [h1, h2, h3, h4]; rfl) (run _ _ _ (sp_n c) (by simp [h1, h2, h3, h4]))
        · exact fin true (by unfold sepB; rw [h1, h2, h3, h4]; rfl) (run _ _ _ (sp_d c) (by simp [h1, h2, h3, h4]))
      · exact fin true (by unfold sepB; rw [h1, h2, h3]; rfl) (run _ _ _ (sp_c c) (by simp [h1, h2, h3]))
    · exact fin true (by unfold sepB; rw [h1, h2]; rfl) (run _ _ _ (sp_b c) (by simp [h1, h2]))
  · exact fin true (by unfold sepB; rw [h1]; rfl) (run _ _ _ (sp_a c) (by simp [h1]))
end Go.Proofs.YtgcglmnbkilfhaaGreatDoor
