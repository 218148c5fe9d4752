/- Layer 12: lrsc.All and the reference's All. -/
import Derived.Test.YtckgpcpcjhomiaaSame12
namespace Go.Proofs.Ytckgpcpcjhomiaa
open Go.RowKit Sim S2
set_option linter.unusedVariables false
set_option linter.unusedSimpArgs false
noncomputable def enP (gl : Gl) (n : Nat) (f : Nat → In) : S2.Env := envk Try.prog gl true tIsRes noP (lLen n f)
theorem enP_ok (gl : Gl) (n : Nat) (f : Nat → In) : CallOk (enP gl n f) := envk_ok (nw := true) tIsRes_ok (.none _ _) (lLen_ok n f)
noncomputable def enQ (gl : Gl) (n : Nat) (f : Nat → In) : S2.Env := envk Try.prog gl true tReserves noP (lRefLen n f)
theorem enQ_ok (gl : Gl) (n : Nat) (f : Nat → In) : CallOk (enQ gl n f) := envk_ok (nw := true) tReserves_ok (.none _ _) (lRefLen_ok n f)
def paP : List Nat := [0, 1, 0, 1]
noncomputable def paC : Code := codeAt (codeOf Try.prog 9) (0 :: paP)
noncomputable def raC : Code := codeAt (codeOf Try.prog 10) (0 :: paP)
def paS (n : Nat) (f : Nat → In) (j : Nat) : S2.St := { tmps := [(0, .c 0), (6, .c 0), (7, .inl ([true], .int .i64 n)), (8, .inl ([true], .int .i64 j))], own := ⟨[], [insE n f]⟩, lo := 0, llo := 0, mem := true, orc := [], obl := [] }
def raS (n : Nat) (f : Nat → In) (j : Nat) : S2.St := { tmps := [(0, .c 0), (3, .inl ([true], .int .i64 j))], own := ⟨[], [insE n f]⟩, lo := 0, llo := 0, mem := true, orc := [], obl := [] }
def paQ : Pick := { ts := [0, 6, 7, 8], bs := [], ls := [0], opn := [7, 8] }
def raQ : Pick := { ts := [0, 3], bs := [], ls := [0], opn := [3] }
def paZ : Pick := { ts := [2, 3], bs := [], ls := [] }
def raZ : Pick := { ts := [2], bs := [], ls := [] }
/-- A load that reserves and begins no loop. -/
noncomputable def badB (n : Nat) (f : Nat → In) (j : Nat) : Bool := resI (f j) && (lenE n f j == 0)
noncomputable def allN (n : Nat) (f : Nat → In) : Nat := skipN (fun j => !badB n f j) n 0
theorem allI_ex : ∃ h : Nat → (Nat → In) → Int, ∀ n f, h n f = if allN n f < n then (allN n f : Int) else 0 := ⟨_, fun _ _ => rfl⟩
noncomputable def allI : Nat → (Nat → In) → Int := Classical.choose allI_ex
theorem allI_eq (n : Nat) (f : Nat → In) : allI n f = if allN n f < n then (allN n f : Int) else 0 := Classical.choose_spec allI_ex n f
theorem allB_ex : ∃ h : Nat → (Nat → In) → Bool, ∀ n f, h n f = decide (¬ allN n f < n) := ⟨_, fun _ _ => rfl⟩
noncomputable def allB : Nat → (Nat → In) → Bool := Classical.choose allB_ex
theorem allB_eq (n : Nat) (f : Nat → In) : allB n f = decide (¬ allN n f < n) := Classical.choose_spec allB_ex n f
theorem allR_ex : ∃ h : Nat → (Nat → In) → Int, ∀ n f, h n f = if allN n f < n then (allN n f : Int) else -1 := ⟨_, fun _ _ => rfl⟩
noncomputable def allR : Nat → (Nat → In) → Int := Classical.choose allR_ex
theorem allR_eq (n : Nat) (f : Nat → In) : allR n f = if allN n f < n then (allN n f : Int) else -1 := Classical.choose_spec allR_ex n f
theorem allN_le (n : Nat) (f : Nat → In) : allN n f ≤ 0 + n := skipN_le _ _ _
theorem allN_lo {n : Nat} {f : Nat → In} {j : Nat} (h : j < allN n f) : badB n f j = false := by
  have := skipN_all (fun j => !badB n f j) n 0 j (by omega) h
  simpa using this
theorem allN_at {n : Nat} {f : Nat → In} (h : allN n f < n) : badB n f (allN n f) = true := by
  cases hb : badB n f (allN n f)
  · have h4 : allN n f = 0 + n := skipN_fin (fun j => !badB n f j) n 0 (by show (!badB n f (allN n f)) = true; rw [hb]; rfl)
    omega
  · rfl
def paF (j : Int) : S2.St := { tmps := [(2, .inl ([true], .int .i64 j)), (3, .inl ([], .bool false))], own := ⟨[], []⟩, lo := 0, llo := 0, mem := true, orc := [], obl := [] }
theorem pa_tf (gl : Gl) (n : Nat) (f : Nat → In) (j : Nat) (hn : n ≤ 1000000000000) (hj : j < n) (h1 : resI (f j) = false) (w : World) (hG : GlobOk gl w) : S2.Sem (enP gl n f) w 23 paC (paS n f j) none (paS n f (j + 1)) := by
  refine sem_iter (enP_ok gl n f) hG (p := paQ) (fuel := 1000) [true, false] [(pre (inI ((j : Int) + 1)), true), (resI (f (j : Int).toNat), false), (pre (decide ((j : Int).toNat < n)), true), (pre (idxB (j : Int) n), true), (decide ((j : Int) < (n : Int)), true)] (by kernel_rfl) (by kernel_rfl) ?_
  try simp only [Int.toNat_natCast]
  refine all_cons ?_ <| all_cons ?_ <| all_cons ?_ <| all_cons ?_ <| all_cons ?_ <| all_nil
  · exact ob_inI (by omega)
  · assumption
  · exact ob_lt (by omega)
  · exact ob_idx (by omega)
  · exact ob_yes (by omega)
theorem pa_ttf (gl : Gl) (n : Nat) (f : Nat → In) (j : Nat) (hn : n ≤ 1000000000000) (hj : j < n) (h1 : resI (f j) = true) (h2 : (lenE n f j == 0) = false) (w : World) (hG : GlobOk gl w) : S2.Sem (enP gl n f) w 23 paC (paS n f j) none (paS n f (j + 1)) := by
  refine sem_iter (enP_ok gl n f) hG (p := paQ) (fuel := 1000) [true, true, false] [(pre (inI ((j : Int) + 1)), true), (lenE n f (j : Int) == 0, false), (pre (propB (isIn (insE n f) n f)), true), (resI (f (j : Int).toNat), true), (pre (decide ((j : Int).toNat < n)), true), (pre (idxB (j : Int) n), true), (decide ((j : Int) < (n : Int)), true)] (by kernel_rfl) (by kernel_rfl) ?_
  try simp only [Int.toNat_natCast]
  refine all_cons ?_ <| all_cons ?_ <| all_cons ?_ <| all_cons ?_ <| all_cons ?_ <| all_cons ?_ <| all_cons ?_ <| all_nil
  · exact ob_inI (by omega)
  · assumption
  · exact propB_ok.mpr (isIn_self n f hn)
  · assumption
  · exact ob_lt (by omega)
  · exact ob_idx (by omega)
  · exact ob_yes (by omega)
theorem pa_ttt (gl : Gl) (n : Nat) (f : Nat → In) (j : Nat) (hn : n ≤ 1000000000000) (hj : j < n) (h1 : resI (f j) = true) (h2 : (lenE n f j == 0) = true) (w : World) (hG : GlobOk gl w) : S2.Sem (enP gl n f) w 23 paC (paS n f j) (some none) (paF j) := by
  refine sem_iter (enP_ok gl n f) hG (p := paZ) (fuel := 1000) [true, true, true] [(lenE n f (j : Int) == 0, true), (pre (propB (isIn (insE n f) n f)), true), (resI (f (j : Int).toNat), true), (pre (decide ((j : Int).toNat < n)), true), (pre (idxB (j : Int) n), true), (decide ((j : Int) < (n : Int)), true)] (by kernel_rfl) (by kernel_rfl) ?_
  try simp only [Int.toNat_natCast]
  refine all_cons ?_ <| all_cons ?_ <| all_cons ?_ <| all_cons ?_ <| all_cons ?_ <| all_cons ?_ <| all_nil
  · assumption
  · exact propB_ok.mpr (isIn_self n f hn)
  · assumption
  · exact ob_lt (by omega)
  · exact ob_idx (by omega)
  · exact ob_yes (by omega)
theorem pa_step (gl : Gl) (n : Nat) (f : Nat → In) (j : Nat) (hn : n ≤ 1000000000000) (hj : j < n) (h : badB n f j = false) (w : World) (hG : GlobOk gl w) : S2.Sem (enP gl n f) w 23 paC (paS n f j) none (paS n f (j + 1)) := by
  unfold badB at h
  cases h1 : resI (f j)
  · exact pa_tf gl n f j hn hj h1 w hG
  · exact pa_ttf gl n f j hn hj h1 (by rw [h1] at h; exact h) w hG
theorem pa_out (gl : Gl) (n : Nat) (f : Nat → In) (j : Nat) (hn : n ≤ 1000000000000) (hj : j < n) (h : badB n f j = true) (w : World) (hG : GlobOk gl w) : S2.Sem (enP gl n f) w 23 paC (paS n f j) (some none) (paF j) := by
  unfold badB at h
  rw [Bool.and_eq_true] at h
  exact pa_ttt gl n f j hn hj h.1 h.2 w hG
theorem pa_end (gl : Gl) (n : Nat) (f : Nat → In) (w : World) (hG : GlobOk gl w) : S2.Sem (enP gl n f) w 23 paC (paS n f n) (some (some 0)) (paS n f n) := by
  refine sem_iter (enP_ok gl n f) hG (p := paQ) (fuel := 1000) [false] [(decide ((n : Int) < (n : Int)), false)] (by kernel_rfl) (by kernel_rfl) ?_
  exact all_cons (ob_no (by omega)) all_nil
theorem pa_ret {gl : Gl} (n : Nat) (f : Nat → In) (hn : n ≤ 1000000000000) (w : World) (vals : List Value) (hG : GlobOk gl w) (ha : ArgsOk w [.inr (insE n f)] vals) :
    LRet Try.prog 9 vals false [.inl (.tuple #[.int .i64 (allI n f), .bool (allB n f)])] w := by
  have hle := allN_le n f
  by_cases h : allN n f < n
  · rw [allI_eq, allB_eq, if_pos h, decide_eq_false (fun hh => hh h)]
    have hl := sem_loop (E := enP gl n f) (w0 := base0 w) (nb := 0) (nl := 0) (n := 23) (c := paC) (x := some none) (s' := paF (allN n f)) (fun j => paS n f j) (allN n f) (by simp) (fun j hj => pa_step gl n f j hn (by omega) (allN_lo hj) w hG) (pa_out gl n f (allN n f) hn h (allN_at h) w hG)
    refine fn_ok (enP_ok gl n f) (fuel := 1000) (d := 30) (plan := [⟨paP, paQ, some none, paF (allN n f)⟩]) (orc := []) (fls := [[]]) (l := []) (tr := [⟨.loop paC, paS n f 0, some none, paF (allN n f)⟩]) (by kernel_rfl) (fun _ h => by cases h) Try.func9 w vals hG ha fun t ht => ?_
    obtain rfl := List.mem_singleton.mp ht
    exact hl
  · rw [allI_eq, allB_eq, if_neg h, decide_eq_true h]
    have e : allN n f = n := by omega
    have hl := sem_loop (E := enP gl n f) (w0 := base0 w) (nb := 0) (nl := 0) (n := 23) (c := paC) (x := some (some 0)) (s' := paS n f n) (fun j => paS n f j) n (by simp) (fun j hj => pa_step gl n f j hn hj (allN_lo (by omega)) w hG) (pa_end gl n f w hG)
    refine fn_ok (enP_ok gl n f) (fuel := 1000) (d := 30) (plan := [⟨paP, paQ, some (some 0), paS n f n⟩]) (orc := []) (fls := [[]]) (l := []) (tr := [⟨.loop paC, paS n f 0, some (some 0), paS n f n⟩]) (by kernel_rfl) (fun _ h => by cases h) Try.func9 w vals hG ha fun t ht => ?_
    obtain rfl := List.mem_singleton.mp ht
    exact hl
noncomputable def lAll (n : Nat) (f : Nat → In) : LTab := lrow 9 fun args => match args with
  | [.inr e] => some (false, [.inl (.tuple #[.int .i64 (allI n f), .bool (allB n f)])], pre (propB (isIn e n f)))
  | _ => none
theorem lAll_ok {gl : Gl} (n : Nat) (f : Nat → In) : LTabOk Try.prog gl (lAll n f) := .row fun args tup res h w vals hG ha => by
  split at h
  · rename_i e
    simp only [Option.some.injEq, Prod.mk.injEq] at h
    obtain ⟨rfl, rfl, hp⟩ := h
    have he := propB_ok.mp hp
    match vals, ha with
    | [u], ha => exact pa_ret n f he.2.2.2 w [u] hG ⟨InB.ins ha.1 he, trivial⟩
    | [], ha => exact ha.elim
    | _ :: _ :: _, ha => exact ha.2.elim
  · cases h
def raF (j : Int) : S2.St := { tmps := [(2, .inl ([true], .int .i64 j))], own := ⟨[], []⟩, lo := 0, llo := 0, mem := true, orc := [], obl := [] }
theorem ra_tf (gl : Gl) (n : Nat) (f : Nat → In) (j : Nat) (hn : n ≤ 1000000000000) (hj : j < n) (h1 : resI (f j) = false) (w : World) (hG : GlobOk gl w) : S2.Sem (enQ gl n f) w 22 raC (raS n f j) none (raS n f (j + 1)) := by
  refine sem_iter (enQ_ok gl n f) hG (p := raQ) (fuel := 1000) [true, false] [(pre (inI ((j : Int) + 1)), true), (resI (f (j : Int).toNat), false), (pre (decide ((j : Int).toNat < n)), true), (pre (idxB (j : Int) n), true), (decide ((j : Int) < (n : Int)), true)] (by kernel_rfl) (by kernel_rfl) ?_
  try simp only [Int.toNat_natCast]
  refine all_cons ?_ <| all_cons ?_ <| all_cons ?_ <| all_cons ?_ <| all_cons ?_ <| all_nil
  · exact ob_inI (by omega)
  · assumption
  · exact ob_lt (by omega)
  · exact ob_idx (by omega)
  · exact ob_yes (by omega)
theorem ra_ttf (gl : Gl) (n : Nat) (f : Nat → In) (j : Nat) (hn : n ≤ 1000000000000) (hj : j < n) (h1 : resI (f j) = true) (h2 : (refE n f j == 0) = false) (w : World) (hG : GlobOk gl w) : S2.Sem (enQ gl n f) w 22 raC (raS n f j) none (raS n f (j + 1)) := by
  refine sem_iter (enQ_ok gl n f) hG (p := raQ) (fuel := 1000) [true, true, false] [(pre (inI ((j : Int) + 1)), true), (refE n f (j : Int) == 0, false), (pre (propB (isIn (insE n f) n f)), true), (resI (f (j : Int).toNat), true), (pre (decide ((j : Int).toNat < n)), true), (pre (idxB (j : Int) n), true), (decide ((j : Int) < (n : Int)), true)] (by kernel_rfl) (by kernel_rfl) ?_
  try simp only [Int.toNat_natCast]
  refine all_cons ?_ <| all_cons ?_ <| all_cons ?_ <| all_cons ?_ <| all_cons ?_ <| all_cons ?_ <| all_cons ?_ <| all_nil
  · exact ob_inI (by omega)
  · assumption
  · exact propB_ok.mpr (isIn_self n f hn)
  · assumption
  · exact ob_lt (by omega)
  · exact ob_idx (by omega)
  · exact ob_yes (by omega)
theorem ra_ttt (gl : Gl) (n : Nat) (f : Nat → In) (j : Nat) (hn : n ≤ 1000000000000) (hj : j < n) (h1 : resI (f j) = true) (h2 : (refE n f j == 0) = true) (w : World) (hG : GlobOk gl w) : S2.Sem (enQ gl n f) w 22 raC (raS n f j) (some none) (raF j) := by
  refine sem_iter (enQ_ok gl n f) hG (p := raZ) (fuel := 1000) [true, true, true] [(refE n f (j : Int) == 0, true), (pre (propB (isIn (insE n f) n f)), true), (resI (f (j : Int).toNat), true), (pre (decide ((j : Int).toNat < n)), true), (pre (idxB (j : Int) n), true), (decide ((j : Int) < (n : Int)), true)] (by kernel_rfl) (by kernel_rfl) ?_
  try simp only [Int.toNat_natCast]
  refine all_cons ?_ <| all_cons ?_ <| all_cons ?_ <| all_cons ?_ <| all_cons ?_ <| all_cons ?_ <| all_nil
  · assumption
  · exact propB_ok.mpr (isIn_self n f hn)
  · assumption
  · exact ob_lt (by omega)
  · exact ob_idx (by omega)
  · exact ob_yes (by omega)
theorem ra_step (gl : Gl) (n : Nat) (f : Nat → In) (j : Nat) (hn : n ≤ 1000000000000) (hj : j < n) (h : badB n f j = false) (w : World) (hG : GlobOk gl w) : S2.Sem (enQ gl n f) w 22 raC (raS n f j) none (raS n f (j + 1)) := by
  unfold badB at h
  rw [len_ref] at h; cases h1 : resI (f j)
  · exact ra_tf gl n f j hn hj h1 w hG
  · exact ra_ttf gl n f j hn hj h1 (by rw [h1] at h; exact h) w hG
theorem ra_out (gl : Gl) (n : Nat) (f : Nat → In) (j : Nat) (hn : n ≤ 1000000000000) (hj : j < n) (h : badB n f j = true) (w : World) (hG : GlobOk gl w) : S2.Sem (enQ gl n f) w 22 raC (raS n f j) (some none) (raF j) := by
  unfold badB at h
  rw [len_ref] at h; rw [Bool.and_eq_true] at h
  exact ra_ttt gl n f j hn hj h.1 h.2 w hG
theorem ra_end (gl : Gl) (n : Nat) (f : Nat → In) (w : World) (hG : GlobOk gl w) : S2.Sem (enQ gl n f) w 22 raC (raS n f n) (some (some 0)) (raS n f n) := by
  refine sem_iter (enQ_ok gl n f) hG (p := raQ) (fuel := 1000) [false] [(decide ((n : Int) < (n : Int)), false)] (by kernel_rfl) (by kernel_rfl) ?_
  exact all_cons (ob_no (by omega)) all_nil
theorem ra_ret {gl : Gl} (n : Nat) (f : Nat → In) (hn : n ≤ 1000000000000) (w : World) (vals : List Value) (hG : GlobOk gl w) (ha : ArgsOk w [.inr (insE n f)] vals) :
    LRet Try.prog 10 vals false [.inl (.int .i64 (allR n f))] w := by
  have hle := allN_le n f
  by_cases h : allN n f < n
  · rw [allR_eq, if_pos h]
    have hl := sem_loop (E := enQ gl n f) (w0 := base0 w) (nb := 0) (nl := 0) (n := 22) (c := raC) (x := some none) (s' := raF (allN n f)) (fun j => raS n f j) (allN n f) (by simp) (fun j hj => ra_step gl n f j hn (by omega) (allN_lo hj) w hG) (ra_out gl n f (allN n f) hn h (allN_at h) w hG)
    refine fn_ok (enQ_ok gl n f) (fuel := 1000) (d := 30) (plan := [⟨paP, raQ, some none, raF (allN n f)⟩]) (orc := []) (fls := [[]]) (l := []) (tr := [⟨.loop raC, raS n f 0, some none, raF (allN n f)⟩]) (by kernel_rfl) (fun _ h => by cases h) Try.func10 w vals hG ha fun t ht => ?_
    obtain rfl := List.mem_singleton.mp ht
    exact hl
  · rw [allR_eq, if_neg h]
    have e : allN n f = n := by omega
    have hl := sem_loop (E := enQ gl n f) (w0 := base0 w) (nb := 0) (nl := 0) (n := 22) (c := raC) (x := some (some 0)) (s' := raS n f n) (fun j => raS n f j) n (by simp) (fun j hj => ra_step gl n f j hn hj (allN_lo (by omega)) w hG) (ra_end gl n f w hG)
    refine fn_ok (enQ_ok gl n f) (fuel := 1000) (d := 30) (plan := [⟨paP, raQ, some (some 0), raS n f n⟩]) (orc := []) (fls := [[]]) (l := []) (tr := [⟨.loop raC, raS n f 0, some (some 0), raS n f n⟩]) (by kernel_rfl) (fun _ h => by cases h) Try.func10 w vals hG ha fun t ht => ?_
    obtain rfl := List.mem_singleton.mp ht
    exact hl
noncomputable def lRAll (n : Nat) (f : Nat → In) : LTab := lrow 10 fun args => match args with
  | [.inr e] => some (false, [.inl (.int .i64 (allR n f))], pre (propB (isIn e n f)))
  | _ => none
theorem lRAll_ok {gl : Gl} (n : Nat) (f : Nat → In) : LTabOk Try.prog gl (lRAll n f) := .row fun args tup res h w vals hG ha => by
  split at h
  · rename_i e
    simp only [Option.some.injEq, Prod.mk.injEq] at h
    obtain ⟨rfl, rfl, hp⟩ := h
    have he := propB_ok.mp hp
    match vals, ha with
    | [u], ha => exact ra_ret n f he.2.2.2 w [u] hG ⟨InB.ins ha.1 he, trivial⟩
    | [], ha => exact ha.elim
    | _ :: _ :: _, ha => exact ha.2.elim
  · cases h
end Go.Proofs.Ytckgpcpcjhomiaa
