/- Layer 10: RelaxLeads, walked over what the document says of the program. -/
import Derived.Test.YtohefnfombkkbaaLeads10
namespace Go.Proofs.Ytohefnfombkkbaa
open Go.RowKit Sim S2
set_option linter.unusedVariables false
set_option linter.unusedSimpArgs false
noncomputable def envDN (m : Nat) (f : Nat → It) : S2.Env := envk Try.prog (fun _ => none) true tAw10 noP (lUnitN m f)
noncomputable def envDM (m : Nat) (f : Nat → It) (n : Nat) (g : Nat → It) : S2.Env := envk Try.prog (fun _ => none) true tAw10 noP (orL (lUnitY m f) (lMay n g))
noncomputable def envDF (m : Nat) (f : Nat → It) (n : Nat) (g : Nat → It) : S2.Env := envk Try.prog (fun _ => none) true tAw10 noP (orL (lUnitY m f) (orL (lMay n g) (orL (lLyF n g) (lLgP n g))))
noncomputable def envDP (m : Nat) (f : Nat → It) (n : Nat) (g : Nat → It) : S2.Env := envk Try.prog (fun _ => none) true tAw10 noP (orL (lUnitY m f) (orL (lMay n g) (orL (lLyP n g) (lLgP n g))))
def ldT (t : List (Nat × S2.SV)) (n : Nat) (f : Nat → It) (A : List In) (g : Nat → Bool) (W : LE) : S2.St := { tmps := (7, .c 0) :: (9, .c 1) :: (12, .c 2) :: (14, .c 3) :: t, own := ⟨[], [owE n f, wdE A, blE n g, W]⟩, lo := 0, llo := 0, mem := true, orc := [], obl := [] }
def ld1 (n : Nat) (f : Nat → It) (A : List In) (g : Nat → Bool) (W : LE) (p i : Nat) : S2.St := ldT [(15, .inl ([true], .int .i64 p)), (16, .inl ([true], .int .i64 i))] n f A g W
def ld2 (n : Nat) (f : Nat → It) (A : List In) (g : Nat → Bool) (W : List Int) (i : Nat) : S2.St := ldT [(17, .inl ([true], .int .i64 i))] n f A g (ntE W)
def ld3 (n : Nat) (f : Nat → It) (A : List In) (g : Nat → Bool) (W : List Int) (i : Nat) (fr to : Int) (k : Nat) : S2.St := ldT [(17, .inl ([true], .int .i64 i)), (18, .inl ([true], .int .i64 fr)), (19, .inl ([true], .int .i64 to)), (20, .inl ([true], .int .i64 k))] n f A g (ntE W)
def ldQ1 : Pick := { ts := [7, 9, 12, 14, 15, 16], bs := [], ls := [0, 1, 2, 4], opn := [15, 16] }
def ldQ1e : Pick := { ts := [7, 9, 12, 14, 15, 16], bs := [], ls := [0, 1, 2, 3], opn := [15, 16] }
def ldQ2 : Pick := { ts := [7, 9, 12, 14, 17], bs := [], ls := [0, 1, 2, 3], opn := [17] }
def ldQ3 : Pick := { ts := [7, 9, 12, 14, 17, 18, 19, 20], bs := [], ls := [0, 1, 2, 3], opn := [17, 18, 19, 20] }
def ldP1 : List Nat := [0, 1, 0, 1, 1, 1, 1, 1, 1, 1, 1]
def ldP2 : List Nat := [0, 1, 0, 1, 1, 1, 1, 1, 1, 1, 1, 1, 1]
def ldP3 : List Nat := [0, 1, 0, 1, 1, 1, 1, 0, 0, 1]
noncomputable def ldC (p : List Nat) : Code := codeAt (codeOf Try.prog 5) (0 :: p)
noncomputable def ldC1 : Code := ldC ldP1
noncomputable def ldC2 : Code := ldC ldP2
noncomputable def ldC3 : Code := ldC (ldP3 ++ (0 :: ldP2))
/-- What the document asks of the program's Lay and Long. -/
structure SaysLeads : Prop where
  lay : SaysLay
  lg : ∀ n f, LTabOk Try.prog (fun _ => none) (lLgP n f)
theorem envDN_ok (hS : SaysLeads) (m : Nat) (f : Nat → It) : CallOk (envDN m f) := envk_ok (nw := true) hS.lay.aw (.none _ _) (lUnitN_ok m f)
theorem envDM_ok (hS : SaysLeads) (m : Nat) (f : Nat → It) (n : Nat) (g : Nat → It) : CallOk (envDM m f n g) := envk_ok (nw := true) hS.lay.aw (.none _ _) ((lUnitY_ok m f).or (lMay_ok n g))
theorem envDF_ok (hS : SaysLeads) (m : Nat) (f : Nat → It) (n : Nat) (g : Nat → It) : CallOk (envDF m f n g) := envk_ok (nw := true) hS.lay.aw (.none _ _) ((lUnitY_ok m f).or ((lMay_ok n g).or ((hS.lay.lf n g).or (hS.lg n g))))
theorem envDP_ok (hS : SaysLeads) (m : Nat) (f : Nat → It) (n : Nat) (g : Nat → It) : CallOk (envDP m f n g) := envk_ok (nw := true) hS.lay.aw (.none _ _) ((lUnitY_ok m f).or ((lMay_ok n g).or ((hS.lay.lp n g).or (hS.lg n g))))
/-- Where the items stand. -/
def whL (f : Nat → It) (g : Nat → Bool) : Nat → List Int
  | 0 => []
  | i + 1 => whL f g i ++ [(ahN f g i : Int)]
theorem whL_len (f : Nat → It) (g : Nat → Bool) : ∀ i, (whL f g i).length = i
  | 0 => rfl
  | i + 1 => by show (whL f g i ++ [_]).length = _; rw [List.length_append, whL_len f g i]; rfl
theorem whL_at (f : Nat → It) (g : Nat → Bool) {j : Nat} : ∀ {i : Nat}, j < i → ((whL f g i)[j]?).getD 0 = ahN f g j
  | 0, h => by omega
  | i + 1, h => by
    show ((whL f g i ++ [_])[j]?).getD 0 = _
    have hl := whL_len f g i
    by_cases e : j = i
    · subst e; rw [List.getElem?_append_right (by omega), hl, Nat.sub_self]; rfl
    · rw [List.getElem?_append_left (by omega)]; exact whL_at f g (by omega)
theorem ld1_ttt (hS : SaysLeads) (m : Nat) (f : Nat → It) (N : Nat) (F : Nat → It) (A : List In) (g : Nat → Bool) (W : List Int) (p i : Nat) (hN : N ≤ 1000000) (hi : i < N) (hW : W.length ≤ 1000000) (hp : p ≤ 2 * i) (h1 : ((F i).kind != 1) = true) (h2 : g i = true) (w : World) : S2.Sem (envDP m f N F) w 178 ldC1 (ld1 N F A g (ntE W) p i) none (ld1 N F A g (nt1 W p) (p + 1 + 1) (i + 1)) := by
  refine sem_iter (envDP_ok hS m f N F) (GlobOk.none w) (p := ldQ1) (fuel := 1000) [true, true, true] [(pre (inI ((i : Int) + 1)), true), (pre (inI ((p : Int) + 1 + 1)), true), (g ((i : Int)).toNat, true), (pre (decide (((i : Int)).toNat < N)), true), (pre (idxB ((i : Int)) N), true), (pre (inI ((p : Int) + 1)), true), ((F ((i : Int)).toNat).kind != 1, true), (pre (decide (((i : Int)).toNat < N)), true), (pre (decide (((i : Int)).toNat < N)), true), (pre (idxB ((i : Int)) N), true), (pre (decide (W.length + 1 ≤ maxLen ∧ (W.length + 1) * 8 ≤ 140737488355328 ∧ 0 < 1)), true), (decide ((i : Int) < ↑N), true)] (by kernel_rfl) (by kernel_rfl) ?_
  try simp only [Int.toNat_natCast]
  refine all_cons ?_ <| all_cons ?_ <| all_cons ?_ <| all_cons ?_ <| all_cons ?_ <| all_cons ?_ <| all_cons ?_ <| all_cons ?_ <| all_cons ?_ <| all_cons ?_ <| all_cons ?_ <| all_cons ?_ <| all_nil
  · exact ob_inI (by omega)
  · exact ob_inI (by omega)
  · assumption
  · exact ob_lt (by omega)
  · exact ob_idx (by omega)
  · exact ob_inI (by omega)
  · assumption
  · exact ob_lt (by omega)
  · exact ob_lt (by omega)
  · exact ob_idx (by omega)
  · exact ob_app (by omega) (by decide) (by decide)
  · exact ob_yes (by omega)
theorem ld1_ttf (hS : SaysLeads) (m : Nat) (f : Nat → It) (N : Nat) (F : Nat → It) (A : List In) (g : Nat → Bool) (W : List Int) (p i : Nat) (hN : N ≤ 1000000) (hi : i < N) (hW : W.length ≤ 1000000) (hp : p ≤ 2 * i) (h1 : ((F i).kind != 1) = true) (h2 : g i = false) (w : World) : S2.Sem (envDP m f N F) w 178 ldC1 (ld1 N F A g (ntE W) p i) none (ld1 N F A g (nt1 W p) (p + 1) (i + 1)) := by
  refine sem_iter (envDP_ok hS m f N F) (GlobOk.none w) (p := ldQ1) (fuel := 1000) [true, true, false] [(pre (inI ((i : Int) + 1)), true), (g ((i : Int)).toNat, false), (pre (decide (((i : Int)).toNat < N)), true), (pre (idxB ((i : Int)) N), true), (pre (inI ((p : Int) + 1)), true), ((F ((i : Int)).toNat).kind != 1, true), (pre (decide (((i : Int)).toNat < N)), true), (pre (decide (((i : Int)).toNat < N)), true), (pre (idxB ((i : Int)) N), true), (pre (decide (W.length + 1 ≤ maxLen ∧ (W.length + 1) * 8 ≤ 140737488355328 ∧ 0 < 1)), true), (decide ((i : Int) < ↑N), true)] (by kernel_rfl) (by kernel_rfl) ?_
  try simp only [Int.toNat_natCast]
  refine all_cons ?_ <| all_cons ?_ <| all_cons ?_ <| all_cons ?_ <| all_cons ?_ <| all_cons ?_ <| all_cons ?_ <| all_cons ?_ <| all_cons ?_ <| all_cons ?_ <| all_cons ?_ <| all_nil
  · exact ob_inI (by omega)
  · assumption
  · exact ob_lt (by omega)
  · exact ob_idx (by omega)
  · exact ob_inI (by omega)
  · assumption
  · exact ob_lt (by omega)
  · exact ob_lt (by omega)
  · exact ob_idx (by omega)
  · exact ob_app (by omega) (by decide) (by decide)
  · exact ob_yes (by omega)
theorem ld1_tft (hS : SaysLeads) (m : Nat) (f : Nat → It) (N : Nat) (F : Nat → It) (A : List In) (g : Nat → Bool) (W : List Int) (p i : Nat) (hN : N ≤ 1000000) (hi : i < N) (hW : W.length ≤ 1000000) (hp : p ≤ 2 * i) (h1 : ((F i).kind != 1) = false) (h2 : g i = true) (w : World) : S2.Sem (envDP m f N F) w 178 ldC1 (ld1 N F A g (ntE W) p i) none (ld1 N F A g (nt1 W p) (p + 1) (i + 1)) := by
  refine sem_iter (envDP_ok hS m f N F) (GlobOk.none w) (p := ldQ1) (fuel := 1000) [true, false, true] [(pre (inI ((i : Int) + 1)), true), (pre (inI ((p : Int) + 1)), true), (g ((i : Int)).toNat, true), (pre (decide (((i : Int)).toNat < N)), true), (pre (idxB ((i : Int)) N), true), ((F ((i : Int)).toNat).kind != 1, false), (pre (decide (((i : Int)).toNat < N)), true), (pre (decide (((i : Int)).toNat < N)), true), (pre (idxB ((i : Int)) N), true), (pre (decide (W.length + 1 ≤ maxLen ∧ (W.length + 1) * 8 ≤ 140737488355328 ∧ 0 < 1)), true), (decide ((i : Int) < ↑N), true)] (by kernel_rfl) (by kernel_rfl) ?_
  try simp only [Int.toNat_natCast]
  refine all_cons ?_ <| all_cons ?_ <| all_cons ?_ <| all_cons ?_ <| all_cons ?_ <| all_cons ?_ <| all_cons ?_ <| all_cons ?_ <| all_cons ?_ <| all_cons ?_ <| all_cons ?_ <| all_nil
  · exact ob_inI (by omega)
  · exact ob_inI (by omega)
  · assumption
  · exact ob_lt (by omega)
  · exact ob_idx (by omega)
  · assumption
  · exact ob_lt (by omega)
  · exact ob_lt (by omega)
  · exact ob_idx (by omega)
  · exact ob_app (by omega) (by decide) (by decide)
  · exact ob_yes (by omega)
theorem ld1_tff (hS : SaysLeads) (m : Nat) (f : Nat → It) (N : Nat) (F : Nat → It) (A : List In) (g : Nat → Bool) (W : List Int) (p i : Nat) (hN : N ≤ 1000000) (hi : i < N) (hW : W.length ≤ 1000000) (hp : p ≤ 2 * i) (h1 : ((F i).kind != 1) = false) (h2 : g i = false) (w : World) : S2.Sem (envDP m f N F) w 178 ldC1 (ld1 N F A g (ntE W) p i) none (ld1 N F A g (nt1 W p) (p) (i + 1)) := by
  refine sem_iter (envDP_ok hS m f N F) (GlobOk.none w) (p := ldQ1) (fuel := 1000) [true, false, false] [(pre (inI ((i : Int) + 1)), true), (g ((i : Int)).toNat, false), (pre (decide (((i : Int)).toNat < N)), true), (pre (idxB ((i : Int)) N), true), ((F ((i : Int)).toNat).kind != 1, false), (pre (decide (((i : Int)).toNat < N)), true), (pre (decide (((i : Int)).toNat < N)), true), (pre (idxB ((i : Int)) N), true), (pre (decide (W.length + 1 ≤ maxLen ∧ (W.length + 1) * 8 ≤ 140737488355328 ∧ 0 < 1)), true), (decide ((i : Int) < ↑N), true)] (by kernel_rfl) (by kernel_rfl) ?_
  try simp only [Int.toNat_natCast]
  refine all_cons ?_ <| all_cons ?_ <| all_cons ?_ <| all_cons ?_ <| all_cons ?_ <| all_cons ?_ <| all_cons ?_ <| all_cons ?_ <| all_cons ?_ <| all_cons ?_ <| all_nil
  · exact ob_inI (by omega)
  · assumption
  · exact ob_lt (by omega)
  · exact ob_idx (by omega)
  · assumption
  · exact ob_lt (by omega)
  · exact ob_lt (by omega)
  · exact ob_idx (by omega)
  · exact ob_app (by omega) (by decide) (by decide)
  · exact ob_yes (by omega)
theorem ld1_end (hS : SaysLeads) (m : Nat) (f : Nat → It) (N : Nat) (F : Nat → It) (A : List In) (g : Nat → Bool) (W : List Int) (p : Nat) (w : World) : S2.Sem (envDP m f N F) w 178 ldC1 (ld1 N F A g (ntE W) p N) (some (some 0)) (ld1 N F A g (ntE W) p N) := by
  refine sem_iter (envDP_ok hS m f N F) (GlobOk.none w) (p := ldQ1e) (fuel := 1000) [false] [(decide ((N : Int) < (N : Int)), false)] (by kernel_rfl) (by kernel_rfl) ?_
  try simp only [Int.toNat_natCast]
  refine all_cons ?_ <| all_nil
  · exact ob_no (by omega)
theorem ld1_step (hS : SaysLeads) (m : Nat) (f : Nat → It) (N : Nat) (F : Nat → It) (A : List In) (g : Nat → Bool) (i : Nat) (hN : N ≤ 1000000) (hi : i < N) (w : World) : S2.Sem (envDP m f N F) w 178 ldC1 (ld1 N F A g (ntE (whL F g i)) (ahN F g i) i) none (ld1 N F A g (ntE (whL F g (i + 1))) (ahN F g (i + 1)) (i + 1)) := by
  have hp := ahN_le F g i
  have hl := whL_len F g i
  have e : ahN F g (i + 1) = ahN F g i + (bif (F i).kind != 1 then 1 else 0) + (bif g i then 1 else 0) := rfl
  have sm : ∀ q, (S2.Sem (envDP m f N F) w 178 ldC1 (ld1 N F A g (ntE (whL F g i)) (ahN F g i) i) none (ld1 N F A g (nt1 (whL F g i) (ahN F g i)) q (i + 1))) → S2.Sem (envDP m f N F) w 178 ldC1 (ld1 N F A g (ntE (whL F g i)) (ahN F g i) i) none (ld1 N F A g (ntE (whL F g (i + 1))) q (i + 1)) := fun q h => h.same rfl rfl ⟨.refl _, .refl _, .refl _, nt1_same _ _, trivial⟩ rfl
  rw [e]
  cases h1 : (F i).kind != 1 <;> cases h2 : g i
  · exact sm _ (ld1_tff hS m f N F A g _ _ i hN hi (by omega) hp h1 h2 w)
  · exact sm _ (ld1_tft hS m f N F A g _ _ i hN hi (by omega) hp h1 h2 w)
  · exact sm _ (ld1_ttf hS m f N F A g _ _ i hN hi (by omega) hp h1 h2 w)
  · exact sm _ (ld1_ttt hS m f N F A g _ _ i hN hi (by omega) hp h1 h2 w)
theorem ld3_tf (hS : SaysLeads) (m : Nat) (f : Nat → It) (N : Nat) (F : Nat → It) (A : List In) (g : Nat → Bool) (W : List Int) (i k : Nat) (fr to : Int) (hN : N ≤ 1000000) (hi : i < N) (hk : k < N) (hW : W.length = N) (h1 : ((F k).kind == 1) = false) (w : World) : S2.Sem (envDP m f N F) w 178 ldC3 (ld3 N F A g W i fr to k) none (ld3 N F A g W i fr (to) (k + 1)) := by
  refine sem_iter (envDP_ok hS m f N F) (GlobOk.none w) (p := ldQ3) (fuel := 1000) [true, false] [(pre (inI ((k : Int) + 1)), true), ((F ((k : Int)).toNat).kind == 1, false), (pre (decide (((k : Int)).toNat < N)), true), (pre (decide (((k : Int)).toNat < N)), true), (pre (idxB ((k : Int)) N), true), (decide ((k : Int) < ↑N), true)] (by kernel_rfl) (by kernel_rfl) ?_
  try simp only [Int.toNat_natCast]
  refine all_cons ?_ <| all_cons ?_ <| all_cons ?_ <| all_cons ?_ <| all_cons ?_ <| all_cons ?_ <| all_nil
  · exact ob_inI (by omega)
  · assumption
  · exact ob_lt (by omega)
  · exact ob_lt (by omega)
  · exact ob_idx (by omega)
  · exact ob_yes (by omega)
theorem ld3_ttf (hS : SaysLeads) (m : Nat) (f : Nat → It) (N : Nat) (F : Nat → It) (A : List In) (g : Nat → Bool) (W : List Int) (i k : Nat) (fr to : Int) (hN : N ≤ 1000000) (hi : i < N) (hk : k < N) (hW : W.length = N) (h1 : ((F k).kind == 1) = true) (h2 : ((F k).n == (F i).n) = false) (w : World) : S2.Sem (envDP m f N F) w 178 ldC3 (ld3 N F A g W i fr to k) none (ld3 N F A g W i fr (to) (k + 1)) := by
  refine sem_iter (envDP_ok hS m f N F) (GlobOk.none w) (p := ldQ3) (fuel := 1000) [true, true, false] [(pre (inI ((k : Int) + 1)), true), ((F ((k : Int)).toNat).n == (F ((i : Int)).toNat).n, false), (pre (decide (((i : Int)).toNat < N)), true), (pre (decide (((i : Int)).toNat < N)), true), (pre (idxB ((i : Int)) N), true), (pre (decide (((k : Int)).toNat < N)), true), (pre (decide (((k : Int)).toNat < N)), true), (pre (idxB ((k : Int)) N), true), ((F ((k : Int)).toNat).kind == 1, true), (pre (decide (((k : Int)).toNat < N)), true), (pre (decide (((k : Int)).toNat < N)), true), (pre (idxB ((k : Int)) N), true), (decide ((k : Int) < ↑N), true)] (by kernel_rfl) (by kernel_rfl) ?_
  try simp only [Int.toNat_natCast]
  refine all_cons ?_ <| all_cons ?_ <| all_cons ?_ <| all_cons ?_ <| all_cons ?_ <| all_cons ?_ <| all_cons ?_ <| all_cons ?_ <| all_cons ?_ <| all_cons ?_ <| all_cons ?_ <| all_cons ?_ <| all_cons ?_ <| all_nil
  · exact ob_inI (by omega)
  · assumption
  · exact ob_lt (by omega)
  · exact ob_lt (by omega)
  · exact ob_idx (by omega)
  · exact ob_lt (by omega)
  · exact ob_lt (by omega)
  · exact ob_idx (by omega)
  · assumption
  · exact ob_lt (by omega)
  · exact ob_lt (by omega)
  · exact ob_idx (by omega)
  · exact ob_yes (by omega)
theorem ld3_ttt (hS : SaysLeads) (m : Nat) (f : Nat → It) (N : Nat) (F : Nat → It) (A : List In) (g : Nat → Bool) (W : List Int) (i k : Nat) (fr to : Int) (hN : N ≤ 1000000) (hi : i < N) (hk : k < N) (hW : W.length = N) (h1 : ((F k).kind == 1) = true) (h2 : ((F k).n == (F i).n) = true) (w : World) : S2.Sem (envDP m f N F) w 178 ldC3 (ld3 N F A g W i fr to k) none (ld3 N F A g W i fr ((W[k]?).getD 0) (k + 1)) := by
  refine sem_iter (envDP_ok hS m f N F) (GlobOk.none w) (p := ldQ3) (fuel := 1000) [true, true, true] [(pre (inI ((k : Int) + 1)), true), (pre (decide (((k : Int)).toNat < W.length)), true), (pre (idxB ((k : Int)) W.length), true), ((F ((k : Int)).toNat).n == (F ((i : Int)).toNat).n, true), (pre (decide (((i : Int)).toNat < N)), true), (pre (decide (((i : Int)).toNat < N)), true), (pre (idxB ((i : Int)) N), true), (pre (decide (((k : Int)).toNat < N)), true), (pre (decide (((k : Int)).toNat < N)), true), (pre (idxB ((k : Int)) N), true), ((F ((k : Int)).toNat).kind == 1, true), (pre (decide (((k : Int)).toNat < N)), true), (pre (decide (((k : Int)).toNat < N)), true), (pre (idxB ((k : Int)) N), true), (decide ((k : Int) < ↑N), true)] (by kernel_rfl) (by kernel_rfl) ?_
  try simp only [Int.toNat_natCast]
  refine all_cons ?_ <| all_cons ?_ <| all_cons ?_ <| all_cons ?_ <| all_cons ?_ <| all_cons ?_ <| all_cons ?_ <| all_cons ?_ <| all_cons ?_ <| all_cons ?_ <| all_cons ?_ <| all_cons ?_ <| all_cons ?_ <| all_cons ?_ <| all_cons ?_ <| all_nil
  · exact ob_inI (by omega)
  · exact ob_lt (by omega)
  · exact ob_idx (by omega)
  · assumption
  · exact ob_lt (by omega)
  · exact ob_lt (by omega)
  · exact ob_idx (by omega)
  · exact ob_lt (by omega)
  · exact ob_lt (by omega)
  · exact ob_idx (by omega)
  · assumption
  · exact ob_lt (by omega)
  · exact ob_lt (by omega)
  · exact ob_idx (by omega)
  · exact ob_yes (by omega)
theorem ld3_end (hS : SaysLeads) (m : Nat) (f : Nat → It) (N : Nat) (F : Nat → It) (A : List In) (g : Nat → Bool) (W : List Int) (i : Nat) (fr to : Int) (w : World) : S2.Sem (envDP m f N F) w 178 ldC3 (ld3 N F A g W i fr to N) (some (some 4)) (ld3 N F A g W i fr to N) := by
  refine sem_iter (envDP_ok hS m f N F) (GlobOk.none w) (p := ldQ3) (fuel := 1000) [false] [(decide ((N : Int) < (N : Int)), false)] (by kernel_rfl) (by kernel_rfl) ?_
  try simp only [Int.toNat_natCast]
  refine all_cons ?_ <| all_nil
  · exact ob_no (by omega)
theorem ld3_all (hS : SaysLeads) (m : Nat) (f : Nat → It) (N : Nat) (F : Nat → It) (A : List In) (g : Nat → Bool) (i : Nat) (fr : Int) (hN : N ≤ 1000000) (hi : i < N) (w : World) : S2.Sem (envDP m f N F) w 178 (.loop ldC3) (ld3 N F A g (whL F g N) i fr (-1) 0) (some (some 4)) (ld3 N F A g (whL F g N) i fr (toZ F g (F i).n N) N) := by
  refine sem_loop (fun k => ld3 N F A g (whL F g N) i fr (toZ F g (F i).n k) k) N (by simp) (fun k hk => ?_) (ld3_end hS m f N F A g _ i fr _ w)
  have hl := whL_len F g N
  have e : toZ F g (F i).n (k + 1) = bif labB F (F i).n k then (ahN F g k : Int) else toZ F g (F i).n k := rfl
  show S2.Sem _ w 178 ldC3 _ none (ld3 N F A g (whL F g N) i fr (toZ F g (F i).n (k + 1)) (k + 1))
  rw [e]
  unfold labB
  cases h1 : (F k).kind == 1
  · exact ld3_tf hS m f N F A g _ i k fr _ hN hi hk hl h1 w
  · cases h2 : (F k).n == (F i).n
    · exact ld3_ttf hS m f N F A g _ i k fr _ hN hi hk hl h1 h2 w
    · have := ld3_ttt hS m f N F A g _ i k fr (toZ F g (F i).n k) hN hi hk hl h1 h2 w
      rw [whL_at F g hk] at this
      exact this
theorem ld2_no (hS : SaysLeads) (m : Nat) (f : Nat → It) (N : Nat) (F : Nat → It) (A : List In) (g : Nat → Bool) (W : List Int) (i : Nat) (hN : N ≤ 1000000) (hi : i < N) (h1 : ((F i).kind != 2) = true) (h2 : ((F i).kind != 3) = true) (w : World) : S2.Sem (envDP m f N F) w 178 ldC2 (ld2 N F A g W i) none (ld2 N F A g W (i + 1)) := by
  refine sem_iter (envDP_ok hS m f N F) (GlobOk.none w) (p := ldQ2) (fuel := 1000) [true, true, true] [(pre (inI ((i : Int) + 1)), true), ((F ((i : Int)).toNat).kind != 3, true), (pre (decide (((i : Int)).toNat < N)), true), (pre (decide (((i : Int)).toNat < N)), true), (pre (idxB ((i : Int)) N), true), ((F ((i : Int)).toNat).kind != 2, true), (pre (decide (((i : Int)).toNat < N)), true), (pre (decide (((i : Int)).toNat < N)), true), (pre (idxB ((i : Int)) N), true), (decide ((i : Int) < ↑N), true)] (by kernel_rfl) (by kernel_rfl) ?_
  try simp only [Int.toNat_natCast]
  refine all_cons ?_ <| all_cons ?_ <| all_cons ?_ <| all_cons ?_ <| all_cons ?_ <| all_cons ?_ <| all_cons ?_ <| all_cons ?_ <| all_cons ?_ <| all_cons ?_ <| all_nil
  · exact ob_inI (by omega)
  · assumption
  · exact ob_lt (by omega)
  · exact ob_lt (by omega)
  · exact ob_idx (by omega)
  · assumption
  · exact ob_lt (by omega)
  · exact ob_lt (by omega)
  · exact ob_idx (by omega)
  · exact ob_yes (by omega)
theorem ld2_end (hS : SaysLeads) (m : Nat) (f : Nat → It) (N : Nat) (F : Nat → It) (A : List In) (g : Nat → Bool) (W : List Int) (w : World) : S2.Sem (envDP m f N F) w 178 ldC2 (ld2 N F A g W N) (some (some 2)) (ld2 N F A g W N) := by
  refine sem_iter (envDP_ok hS m f N F) (GlobOk.none w) (p := ldQ2) (fuel := 1000) [false] [(decide ((N : Int) < (N : Int)), false)] (by kernel_rfl) (by kernel_rfl) ?_
  try simp only [Int.toNat_natCast]
  refine all_cons ?_ <| all_nil
  · exact ob_no (by omega)
theorem ld2_tffff (hS : SaysLeads) (m : Nat) (f : Nat → It) (N : Nat) (F : Nat → It) (A : List In) (g : Nat → Bool) (W : List Int) (i : Nat) (fr to : Int) (hN : N ≤ 1000000) (hi : i < N) (hW : W.length = N) (h1 : ((F i).kind != 2) = false) (hg : g i = false) (hf : 0 ≤ fr ∧ fr < A.length) (hA : A.length ≤ 3000000) (ht : 0 ≤ to ∧ to ≤ 3000000) (hj : ((A[fr.toNat]?.getD zI10).imm != 4 * (to - fr)) = false) (w : World) (hin : S2.Sem (envDP m f N F) w 178 (.loop ldC3) (ld3 N F A g W i ((W[i]?).getD 0) (-1) 0) (some (some 4)) (ld3 N F A g W i fr to N)) : S2.Sem (envDP m f N F) w 178 ldC2 (ld2 N F A g W i) none (ld2 N F A g W (i + 1)) := by
  refine sem_iterP (envDP_ok hS m f N F) (GlobOk.none w) (fuel := 1000) (d := 30) (p := ldQ2) [⟨ldP3, ldQ3, some (some 4), ld3 N F A g W i fr to N⟩] [true, false, false, false, false] [(pre (inI ((i : Int) + 1)), true), (g ((i : Int)).toNat, false), (pre (decide (((i : Int)).toNat < N)), true), (pre (idxB ((i : Int)) N), true), ((A[fr.toNat]?.getD zI10).imm != 4 * (to - fr), false), (pre (inI (4 * (to - fr))), true), (pre (inI (to - fr)), true), (pre (decide (fr.toNat < A.length)), true), (pre (decide (fr.toNat < A.length)), true), (pre (idxB fr A.length), true), (g ((i : Int)).toNat, false), (pre (decide (((i : Int)).toNat < N)), true), (pre (idxB ((i : Int)) N), true), (pre (decide (((i : Int)).toNat < W.length)), true), (pre (idxB ((i : Int)) W.length), true), ((F ((i : Int)).toNat).kind != 2, false), (pre (decide (((i : Int)).toNat < N)), true), (pre (decide (((i : Int)).toNat < N)), true), (pre (idxB ((i : Int)) N), true), (decide ((i : Int) < ↑N), true)] [⟨.loop ldC3, ld3 N F A g W i ((W[i]?).getD 0) (-1) 0, some (some 4), ld3 N F A g W i fr to N⟩] (by kernel_rfl) (by kernel_rfl) ?_ (fun t ht => by obtain rfl := List.mem_singleton.mp ht; exact hin)
  try simp only [Int.toNat_natCast]
  refine all_cons ?_ <| all_cons ?_ <| all_cons ?_ <| all_cons ?_ <| all_cons ?_ <| all_cons ?_ <| all_cons ?_ <| all_cons ?_ <| all_cons ?_ <| all_cons ?_ <| all_cons ?_ <| all_cons ?_ <| all_cons ?_ <| all_cons ?_ <| all_cons ?_ <| all_cons ?_ <| all_cons ?_ <| all_cons ?_ <| all_cons ?_ <| all_cons ?_ <| all_nil
  · exact ob_inI (by omega)
  · assumption
  · exact ob_lt (by omega)
  · exact ob_idx (by omega)
  · assumption
  · exact ob_inI (by omega)
  · exact ob_inI (by omega)
  · exact ob_lt (by omega)
  · exact ob_lt (by omega)
  · exact ob_idx (by omega)
  · assumption
  · exact ob_lt (by omega)
  · exact ob_idx (by omega)
  · exact ob_lt (by omega)
  · exact ob_idx (by omega)
  · assumption
  · exact ob_lt (by omega)
  · exact ob_lt (by omega)
  · exact ob_idx (by omega)
  · exact ob_yes (by omega)
theorem ld2_ttffff (hS : SaysLeads) (m : Nat) (f : Nat → It) (N : Nat) (F : Nat → It) (A : List In) (g : Nat → Bool) (W : List Int) (i : Nat) (fr to : Int) (hN : N ≤ 1000000) (hi : i < N) (hW : W.length = N) (h1 : ((F i).kind != 2) = true) (h2 : ((F i).kind != 3) = false) (hg : g i = false) (hf : 0 ≤ fr ∧ fr < A.length) (hA : A.length ≤ 3000000) (ht : 0 ≤ to ∧ to ≤ 3000000) (hj : ((A[fr.toNat]?.getD zI10).imm != 4 * (to - fr)) = false) (w : World) (hin : S2.Sem (envDP m f N F) w 178 (.loop ldC3) (ld3 N F A g W i ((W[i]?).getD 0) (-1) 0) (some (some 4)) (ld3 N F A g W i fr to N)) : S2.Sem (envDP m f N F) w 178 ldC2 (ld2 N F A g W i) none (ld2 N F A g W (i + 1)) := by
  refine sem_iterP (envDP_ok hS m f N F) (GlobOk.none w) (fuel := 1000) (d := 30) (p := ldQ2) [⟨ldP3, ldQ3, some (some 4), ld3 N F A g W i fr to N⟩] [true, true, false, false, false, false] [(pre (inI ((i : Int) + 1)), true), (g ((i : Int)).toNat, false), (pre (decide (((i : Int)).toNat < N)), true), (pre (idxB ((i : Int)) N), true), ((A[fr.toNat]?.getD zI10).imm != 4 * (to - fr), false), (pre (inI (4 * (to - fr))), true), (pre (inI (to - fr)), true), (pre (decide (fr.toNat < A.length)), true), (pre (decide (fr.toNat < A.length)), true), (pre (idxB fr A.length), true), (g ((i : Int)).toNat, false), (pre (decide (((i : Int)).toNat < N)), true), (pre (idxB ((i : Int)) N), true), (pre (decide (((i : Int)).toNat < W.length)), true), (pre (idxB ((i : Int)) W.length), true), ((F ((i : Int)).toNat).kind != 3, false), (pre (decide (((i : Int)).toNat < N)), true), (pre (decide (((i : Int)).toNat < N)), true), (pre (idxB ((i : Int)) N), true), ((F ((i : Int)).toNat).kind != 2, true), (pre (decide (((i : Int)).toNat < N)), true), (pre (decide (((i : Int)).toNat < N)), true), (pre (idxB ((i : Int)) N), true), (decide ((i : Int) < ↑N), true)] [⟨.loop ldC3, ld3 N F A g W i ((W[i]?).getD 0) (-1) 0, some (some 4), ld3 N F A g W i fr to N⟩] (by kernel_rfl) (by kernel_rfl) ?_ (fun t ht => by obtain rfl := List.mem_singleton.mp ht; exact hin)
  try simp only [Int.toNat_natCast]
  refine all_cons ?_ <| all_cons ?_ <| all_cons ?_ <| all_cons ?_ <| all_cons ?_ <| all_cons ?_ <| all_cons ?_ <| all_cons ?_ <| all_cons ?_ <| all_cons ?_ <| all_cons ?_ <| all_cons ?_ <| all_cons ?_ <| all_cons ?_ <| all_cons ?_ <| all_cons ?_ <| all_cons ?_ <| all_cons ?_ <| all_cons ?_ <| all_cons ?_ <| all_cons ?_ <| all_cons ?_ <| all_cons ?_ <| all_cons ?_ <| all_nil
  · exact ob_inI (by omega)
  · assumption
  · exact ob_lt (by omega)
  · exact ob_idx (by omega)
  · assumption
  · exact ob_inI (by omega)
  · exact ob_inI (by omega)
  · exact ob_lt (by omega)
  · exact ob_lt (by omega)
  · exact ob_idx (by omega)
  · assumption
  · exact ob_lt (by omega)
  · exact ob_idx (by omega)
  · exact ob_lt (by omega)
  · exact ob_idx (by omega)
  · assumption
  · exact ob_lt (by omega)
  · exact ob_lt (by omega)
  · exact ob_idx (by omega)
  · assumption
  · exact ob_lt (by omega)
  · exact ob_lt (by omega)
  · exact ob_idx (by omega)
  · exact ob_yes (by omega)
theorem ld2_ttftftf (hS : SaysLeads) (m : Nat) (f : Nat → It) (N : Nat) (F : Nat → It) (A : List In) (g : Nat → Bool) (W : List Int) (i : Nat) (fr to : Int) (hN : N ≤ 1000000) (hi : i < N) (hW : W.length = N) (h1 : ((F i).kind != 2) = true) (h2 : ((F i).kind != 3) = false) (hg : g i = true) (h8 : ((A[(fr - 1).toNat]?.getD zI10).imm != 8) = false) (hf1 : 1 ≤ fr) (hw0 : 0 ≤ (W[i]?).getD 0 ∧ (W[i]?).getD 0 ≤ 3000000) (hf : 0 ≤ fr ∧ fr < A.length) (hA : A.length ≤ 3000000) (ht : 0 ≤ to ∧ to ≤ 3000000) (hj : ((A[fr.toNat]?.getD zI10).imm != 4 * (to - fr)) = false) (w : World) (hin : S2.Sem (envDP m f N F) w 178 (.loop ldC3) (ld3 N F A g W i ((W[i]?).getD 0 + 1) (-1) 0) (some (some 4)) (ld3 N F A g W i fr to N)) : S2.Sem (envDP m f N F) w 178 ldC2 (ld2 N F A g W i) none (ld2 N F A g W (i + 1)) := by
  refine sem_iterP (envDP_ok hS m f N F) (GlobOk.none w) (fuel := 1000) (d := 30) (p := ldQ2) [⟨ldP3, ldQ3, some (some 4), ld3 N F A g W i fr to N⟩] [true, true, false, true, false, true, false] [(pre (inI ((i : Int) + 1)), true), ((A[(fr - 1).toNat]?.getD zI10).imm != 8, false), (pre (decide ((fr - 1).toNat < A.length)), true), (pre (decide ((fr - 1).toNat < A.length)), true), (pre (idxB (fr - 1) A.length), true), (pre (inI (fr - 1)), true), (g ((i : Int)).toNat, true), (pre (decide (((i : Int)).toNat < N)), true), (pre (idxB ((i : Int)) N), true), ((A[fr.toNat]?.getD zI10).imm != 4 * (to - fr), false), (pre (inI (4 * (to - fr))), true), (pre (inI (to - fr)), true), (pre (decide (fr.toNat < A.length)), true), (pre (decide (fr.toNat < A.length)), true), (pre (idxB fr A.length), true), (pre (inI (W[((i : Int)).toNat]?.getD 0 + 1)), true), (g ((i : Int)).toNat, true), (pre (decide (((i : Int)).toNat < N)), true), (pre (idxB ((i : Int)) N), true), (pre (decide (((i : Int)).toNat < W.length)), true), (pre (idxB ((i : Int)) W.length), true), ((F ((i : Int)).toNat).kind != 3, false), (pre (decide (((i : Int)).toNat < N)), true), (pre (decide (((i : Int)).toNat < N)), true), (pre (idxB ((i : Int)) N), true), ((F ((i : Int)).toNat).kind != 2, true), (pre (decide (((i : Int)).toNat < N)), true), (pre (decide (((i : Int)).toNat < N)), true), (pre (idxB ((i : Int)) N), true), (decide ((i : Int) < ↑N), true)] [⟨.loop ldC3, ld3 N F A g W i ((W[i]?).getD 0 + 1) (-1) 0, some (some 4), ld3 N F A g W i fr to N⟩] (by kernel_rfl) (by kernel_rfl) ?_ (fun t ht => by obtain rfl := List.mem_singleton.mp ht; exact hin)
  try simp only [Int.toNat_natCast]
  refine all_cons ?_ <| all_cons ?_ <| all_cons ?_ <| all_cons ?_ <| all_cons ?_ <| all_cons ?_ <| all_cons ?_ <| all_cons ?_ <| all_cons ?_ <| all_cons ?_ <| all_cons ?_ <| all_cons ?_ <| all_cons ?_ <| all_cons ?_ <| all_cons ?_ <| all_cons ?_ <| all_cons ?_ <| all_cons ?_ <| all_cons ?_ <| all_cons ?_ <| all_cons ?_ <| all_cons ?_ <| all_cons ?_ <| all_cons ?_ <| all_cons ?_ <| all_cons ?_ <| all_cons ?_ <| all_cons ?_ <| all_cons ?_ <| all_cons ?_ <| all_nil
  · exact ob_inI (by omega)
  · assumption
  · exact ob_lt (by omega)
  · exact ob_lt (by omega)
  · exact ob_idx (by omega)
  · exact ob_inI (by omega)
  · assumption
  · exact ob_lt (by omega)
  · exact ob_idx (by omega)
  · assumption
  · exact ob_inI (by omega)
  · exact ob_inI (by omega)
  · exact ob_lt (by omega)
  · exact ob_lt (by omega)
  · exact ob_idx (by omega)
  · exact ob_inI (by omega)
  · assumption
  · exact ob_lt (by omega)
  · exact ob_idx (by omega)
  · exact ob_lt (by omega)
  · exact ob_idx (by omega)
  · assumption
  · exact ob_lt (by omega)
  · exact ob_lt (by omega)
  · exact ob_idx (by omega)
  · assumption
  · exact ob_lt (by omega)
  · exact ob_lt (by omega)
  · exact ob_idx (by omega)
  · exact ob_yes (by omega)
theorem ld2_step (hS : SaysLeads) (m : Nat) (f : Nat → It) (N : Nat) (F : Nat → It) (hN : N ≤ 1000000) (hy : mayU N F = true) (i : Nat) (hi : i < N) (w : World) : S2.Sem (envDP m f N F) w 178 ldC2 (ld2 N F (layA F (lgG N F) N N) (lgG N F) (whL F (lgG N F) N) i) none (ld2 N F (layA F (lgG N F) N N) (lgG N F) (whL F (lgG N F) N) (i + 1)) := by
  have hl := whL_len F (lgG N F) N
  have hkd := fun j hj => may_kind hy j hj
  have hA := (layA_len F (lgG N F) N N).1
  have hAl : (layA F (lgG N F) N N).length = ahN F (lgG N F) N := layA_ah hkd
  have hwi : ((whL F (lgG N F) N)[i]?).getD 0 = ahN F (lgG N F) i := whL_at F _ hi
  have hai := ahN_le F (lgG N F) i
  cases h1 : (F i).kind != 2
  case' true =>
    cases h2 : (F i).kind != 3
    case' true => exact ld2_no hS m f N F _ _ _ i hN hi h1 h2 w
  all_goals
    have hk : (F i).kind = 2 ∨ (F i).kind = 3 := by
      first
        | exact .inl (by simpa using h1)
        | exact .inr (by simpa using h2)
    obtain ⟨k, _, hkn, hto⟩ := may_lab hy hi hk (lgG N F)
    have hak := ahN_le F (lgG N F) k
    have ht : 0 ≤ toZ F (lgG N F) (F i).n N ∧ toZ F (lgG N F) (F i).n N ≤ 3000000 := by rw [hto]; omega
    obtain ⟨c1, c2⟩ := leads_at hy hi hk
  · cases hg : lgG N F i
    · obtain ⟨v, hv, hvi⟩ := c1 hg
      have hlt : ahN F (lgG N F) i < (layA F (lgG N F) N N).length := lt_of_some_list hv
      refine ld2_ttffff hS m f N F _ _ _ i (((whL F (lgG N F) N)[i]?).getD 0) _ hN hi hl h1 h2 hg (by rw [hwi]; omega) (by omega) ht ?_ w (ld3_all hS m f N F _ _ i _ hN hi w)
      rw [hwi, Int.toNat_natCast, hv]
      show (v.imm != _) = false
      rw [hvi]; simp
    · obtain ⟨u, v, hu, hui, hv, hvi⟩ := c2 hg
      have hlt : ahN F (lgG N F) i + 1 < (layA F (lgG N F) N N).length := lt_of_some_list hv
      refine ld2_ttftftf hS m f N F _ _ _ i (((whL F (lgG N F) N)[i]?).getD 0 + 1) _ hN hi hl h1 h2 hg ?_ (by rw [hwi]; omega) (by rw [hwi]; omega) (by rw [hwi]; omega) (by omega) ht ?_ w (ld3_all hS m f N F _ _ i _ hN hi w)
      · rw [hwi, show ((ahN F (lgG N F) i : Int) + 1 - 1).toNat = ahN F (lgG N F) i by omega, hu]
        show (u.imm != 8) = false
        rw [hui]; rfl
      · rw [hwi, show ((ahN F (lgG N F) i : Int) + 1).toNat = ahN F (lgG N F) i + 1 by omega, hv]
        show (v.imm != _) = false
        rw [hvi]; simp
  · have hg : lgG N F i = false := by
      cases hg : lgG N F i
      · rfl
      · have := (lgG_kind hg).2
        have h1 : (F i).kind = 2 := by simpa using h1
        omega
    obtain ⟨v, hv, hvi⟩ := c1 hg
    have hlt : ahN F (lgG N F) i < (layA F (lgG N F) N N).length := lt_of_some_list hv
    refine ld2_tffff hS m f N F _ _ _ i (((whL F (lgG N F) N)[i]?).getD 0) _ hN hi hl h1 hg (by rw [hwi]; omega) (by omega) ht ?_ w (ld3_all hS m f N F _ _ i _ hN hi w)
    rw [hwi, Int.toNat_natCast, hv]
    show (v.imm != _) = false
    rw [hvi]; simp
theorem relaxLeads_walk (hS : SaysLeads) (m : Nat) (f : Nat → It) (a n : Int) (hw : ∀ j, j < m → wfIt (f j)) (w : World) (vals : List Value) (ha : ArgsOk w [.inr (itE m f), .inl (.int .i64 a), .inl (.int .i64 n)] vals) : LRet Try.prog 5 vals false [.inl (.bool true)] w := by
  have iM0 := isIt0_self m f
  by_cases hs : smallU m a n
  case neg => exact fn_ok (envDN_ok hS m f) (fuel := 1000) (d := 30) (plan := []) (orc := []) (fls := [[], [true], [true]]) (l := [(pre (propB (isIt0 (itE m f) m f ∧ ¬smallU m a n)), true)]) (tr := []) (by kernel_rfl) (all_cons (propB_ok.mpr ⟨iM0, hs⟩) all_nil) Try.func5 w vals (GlobOk.none w) ha fun t ht => by cases ht
  obtain ⟨s1, s2, s3, s4, s5⟩ := hs
  have hs : smallU m a n := ⟨s1, s2, s3, s4, s5⟩
  have iM := isItE_self m f (by omega)
  have hN : (m + n.toNat) ≤ 1260 := by omega
  have iN := isIt_O (m + n.toNat) (widF f a.toNat n.toNat) (by omega)
  have hwN := wf_wid hw a.toNat n.toNat (by omega)
  cases hy : mayU (m + n.toNat) (widF f a.toNat n.toNat)
  case false => exact fn_ok (envDM_ok hS m f (m + n.toNat) (widF f a.toNat n.toNat)) (fuel := 1000) (d := 30) (plan := []) (orc := [false, true]) (fls := [[], [true], [true]]) (l := [(!mayU (m + n.toNat) (widF f a.toNat n.toNat), true), (pre (propB (isItE (owE (m + n.toNat) (widF f a.toNat n.toNat)) (m + n.toNat) (widF f a.toNat n.toNat) ∧ (m + n.toNat) ≤ 1000000000)), true), (false, false), (pre (propB (isItE (itE m f) m f ∧ smallU m a n)), true)]) (tr := []) (by kernel_rfl) (all_cons (by rw [hy]; rfl) <| all_cons (propB_ok.mpr ⟨iN, by omega⟩) <| all_cons rfl <| all_cons (propB_ok.mpr ⟨iM, hs⟩) all_nil) Try.func5 w vals (GlobOk.none w) ha fun t ht => by cases ht
  by_cases hb : fstN (badJ (widF f a.toNat n.toNat) (lgG (m + n.toNat) (widF f a.toNat n.toNat)) (m + n.toNat)) (m + n.toNat) = none
  case neg => exact fn_ok (envDF_ok hS m f (m + n.toNat) (widF f a.toNat n.toNat)) (fuel := 1000) (d := 30) (plan := []) (orc := [false, false]) (fls := [[], [true], [true]]) (l := [(pre (propB (isItE (owE (m + n.toNat) (widF f a.toNat n.toNat)) (m + n.toNat) (widF f a.toNat n.toNat) ∧ (m + n.toNat) ≤ 1000000 ∧ (∀ (j : Nat), j < (m + n.toNat) → wfIt (widF f a.toNat n.toNat j)) ∧ mayU (m + n.toNat) (widF f a.toNat n.toNat) = true)), true), (pre (propB (isItE (owE (m + n.toNat) (widF f a.toNat n.toNat)) (m + n.toNat) (widF f a.toNat n.toNat) ∧ (m + n.toNat) ≤ 1000000 ∧ (∀ (j : Nat), j < (m + n.toNat) → wfIt (widF f a.toNat n.toNat j)) ∧ mayU (m + n.toNat) (widF f a.toNat n.toNat) = true ∧ fstN (badJ (widF f a.toNat n.toNat) (lgG (m + n.toNat) (widF f a.toNat n.toNat)) (m + n.toNat)) (m + n.toNat) ≠ none)), true), (!mayU (m + n.toNat) (widF f a.toNat n.toNat), false), (pre (propB (isItE (owE (m + n.toNat) (widF f a.toNat n.toNat)) (m + n.toNat) (widF f a.toNat n.toNat) ∧ (m + n.toNat) ≤ 1000000000)), true), (false, false), (pre (propB (isItE (itE m f) m f ∧ smallU m a n)), true)]) (tr := []) (by kernel_rfl) (all_cons (propB_ok.mpr ⟨iN, by omega, hwN, hy⟩) <| all_cons (propB_ok.mpr ⟨iN, by omega, hwN, hy, hb⟩) <| all_cons (by rw [hy]; rfl) <| all_cons (propB_ok.mpr ⟨iN, by omega⟩) <| all_cons rfl <| all_cons (propB_ok.mpr ⟨iM, hs⟩) all_nil) Try.func5 w vals (GlobOk.none w) ha fun t ht => by cases ht
  have hAl : (layA (widF f a.toNat n.toNat) (lgG (m + n.toNat) (widF f a.toNat n.toNat)) (m + n.toNat) (m + n.toNat)).length = ahN (widF f a.toNat n.toNat) (lgG (m + n.toNat) (widF f a.toNat n.toNat)) (m + n.toNat) := layA_ah fun j hj => may_kind hy j hj
  refine fn_ok (envDP_ok hS m f (m + n.toNat) (widF f a.toNat n.toNat)) (fuel := 1000) (d := 30) (plan := [⟨ldP1, { ldQ1e with ls := [1, 2, 4, 5], nil := [(14, 3, 1, nil1)] }, some (some 0), ld1 (m + n.toNat) (widF f a.toNat n.toNat) (layA (widF f a.toNat n.toNat) (lgG (m + n.toNat) (widF f a.toNat n.toNat)) (m + n.toNat) (m + n.toNat)) (lgG (m + n.toNat) (widF f a.toNat n.toNat)) (ntE (whL (widF f a.toNat n.toNat) (lgG (m + n.toNat) (widF f a.toNat n.toNat)) (m + n.toNat))) (ahN (widF f a.toNat n.toNat) (lgG (m + n.toNat) (widF f a.toNat n.toNat)) (m + n.toNat)) (m + n.toNat)⟩, ⟨ldP2, ldQ2, some (some 2), ld2 (m + n.toNat) (widF f a.toNat n.toNat) (layA (widF f a.toNat n.toNat) (lgG (m + n.toNat) (widF f a.toNat n.toNat)) (m + n.toNat) (m + n.toNat)) (lgG (m + n.toNat) (widF f a.toNat n.toNat)) (whL (widF f a.toNat n.toNat) (lgG (m + n.toNat) (widF f a.toNat n.toNat)) (m + n.toNat)) (m + n.toNat)⟩]) (orc := [false, false, false, false, false, false]) (fls := [[], [true], [true]]) (l := [(((ahN (widF f a.toNat n.toNat) (lgG (m + n.toNat) (widF f a.toNat n.toNat)) (m + n.toNat) : Nat) : Int) != (((layA (widF f a.toNat n.toNat) (lgG (m + n.toNat) (widF f a.toNat n.toNat)) (m + n.toNat) (m + n.toNat)).length : Nat) : Int), false), ((((m + n.toNat) : Nat) : Int) != (((m + n.toNat) : Nat) : Int), false), (false, false), (false, false), (pre (propB (isItE (owE (m + n.toNat) (widF f a.toNat n.toNat)) (m + n.toNat) (widF f a.toNat n.toNat) ∧ (m + n.toNat) ≤ 1000000 ∧ (∀ (j : Nat), j < (m + n.toNat) → wfIt (widF f a.toNat n.toNat j)) ∧ mayU (m + n.toNat) (widF f a.toNat n.toNat) = true)), true), (pre (propB (isItE (owE (m + n.toNat) (widF f a.toNat n.toNat)) (m + n.toNat) (widF f a.toNat n.toNat) ∧ (m + n.toNat) ≤ 1000000 ∧ (∀ (j : Nat), j < (m + n.toNat) → wfIt (widF f a.toNat n.toNat j)) ∧ mayU (m + n.toNat) (widF f a.toNat n.toNat) = true ∧ fstN (badJ (widF f a.toNat n.toNat) (lgG (m + n.toNat) (widF f a.toNat n.toNat)) (m + n.toNat)) (m + n.toNat) = none)), true), (!mayU (m + n.toNat) (widF f a.toNat n.toNat), false), (pre (propB (isItE (owE (m + n.toNat) (widF f a.toNat n.toNat)) (m + n.toNat) (widF f a.toNat n.toNat) ∧ (m + n.toNat) ≤ 1000000000)), true), (false, false), (pre (propB (isItE (itE m f) m f ∧ smallU m a n)), true)]) (tr := [⟨.loop ldC1, ld1 (m + n.toNat) (widF f a.toNat n.toNat) (layA (widF f a.toNat n.toNat) (lgG (m + n.toNat) (widF f a.toNat n.toNat)) (m + n.toNat) (m + n.toNat)) (lgG (m + n.toNat) (widF f a.toNat n.toNat)) (ntE (whL (widF f a.toNat n.toNat) (lgG (m + n.toNat) (widF f a.toNat n.toNat)) 0)) (ahN (widF f a.toNat n.toNat) (lgG (m + n.toNat) (widF f a.toNat n.toNat)) 0) 0, some (some 0), ld1 (m + n.toNat) (widF f a.toNat n.toNat) (layA (widF f a.toNat n.toNat) (lgG (m + n.toNat) (widF f a.toNat n.toNat)) (m + n.toNat) (m + n.toNat)) (lgG (m + n.toNat) (widF f a.toNat n.toNat)) (ntE (whL (widF f a.toNat n.toNat) (lgG (m + n.toNat) (widF f a.toNat n.toNat)) (m + n.toNat))) (ahN (widF f a.toNat n.toNat) (lgG (m + n.toNat) (widF f a.toNat n.toNat)) (m + n.toNat)) (m + n.toNat)⟩, ⟨.loop ldC2, ld2 (m + n.toNat) (widF f a.toNat n.toNat) (layA (widF f a.toNat n.toNat) (lgG (m + n.toNat) (widF f a.toNat n.toNat)) (m + n.toNat) (m + n.toNat)) (lgG (m + n.toNat) (widF f a.toNat n.toNat)) (whL (widF f a.toNat n.toNat) (lgG (m + n.toNat) (widF f a.toNat n.toNat)) (m + n.toNat)) 0, some (some 2), ld2 (m + n.toNat) (widF f a.toNat n.toNat) (layA (widF f a.toNat n.toNat) (lgG (m + n.toNat) (widF f a.toNat n.toNat)) (m + n.toNat) (m + n.toNat)) (lgG (m + n.toNat) (widF f a.toNat n.toNat)) (whL (widF f a.toNat n.toNat) (lgG (m + n.toNat) (widF f a.toNat n.toNat)) (m + n.toNat)) (m + n.toNat)⟩]) (by kernel_rfl) (all_cons (by rw [hAl]; exact ne_self10 _) <| all_cons (ne_self10 _) <| all_cons rfl <| all_cons rfl <| all_cons (propB_ok.mpr ⟨iN, by omega, hwN, hy⟩) <| all_cons (propB_ok.mpr ⟨iN, by omega, hwN, hy, hb⟩) <| all_cons (by rw [hy]; rfl) <| all_cons (propB_ok.mpr ⟨iN, by omega⟩) <| all_cons rfl <| all_cons (propB_ok.mpr ⟨iM, hs⟩) all_nil) Try.func5 w vals (GlobOk.none w) ha fun t ht => ?_
  rcases List.mem_cons.mp ht with rfl | ht
  · exact sem_loop (fun j => ld1 (m + n.toNat) (widF f a.toNat n.toNat) (layA (widF f a.toNat n.toNat) (lgG (m + n.toNat) (widF f a.toNat n.toNat)) (m + n.toNat) (m + n.toNat)) (lgG (m + n.toNat) (widF f a.toNat n.toNat)) (ntE (whL (widF f a.toNat n.toNat) (lgG (m + n.toNat) (widF f a.toNat n.toNat)) j)) (ahN (widF f a.toNat n.toNat) (lgG (m + n.toNat) (widF f a.toNat n.toNat)) j) j) (m + n.toNat) (by simp) (fun j hj => ld1_step hS m f (m + n.toNat) (widF f a.toNat n.toNat) (layA (widF f a.toNat n.toNat) (lgG (m + n.toNat) (widF f a.toNat n.toNat)) (m + n.toNat) (m + n.toNat)) (lgG (m + n.toNat) (widF f a.toNat n.toNat)) j (by omega) hj w) (ld1_end hS m f (m + n.toNat) (widF f a.toNat n.toNat) (layA (widF f a.toNat n.toNat) (lgG (m + n.toNat) (widF f a.toNat n.toNat)) (m + n.toNat) (m + n.toNat)) (lgG (m + n.toNat) (widF f a.toNat n.toNat)) _ _ w)
  · obtain rfl := List.mem_singleton.mp ht
    exact sem_loop (fun j => ld2 (m + n.toNat) (widF f a.toNat n.toNat) (layA (widF f a.toNat n.toNat) (lgG (m + n.toNat) (widF f a.toNat n.toNat)) (m + n.toNat) (m + n.toNat)) (lgG (m + n.toNat) (widF f a.toNat n.toNat)) (whL (widF f a.toNat n.toNat) (lgG (m + n.toNat) (widF f a.toNat n.toNat)) (m + n.toNat)) j) (m + n.toNat) (by simp) (fun j hj => ld2_step hS m f (m + n.toNat) (widF f a.toNat n.toNat) (by omega) hy j hj w) (ld2_end hS m f (m + n.toNat) (widF f a.toNat n.toNat) (layA (widF f a.toNat n.toNat) (lgG (m + n.toNat) (widF f a.toNat n.toNat)) (m + n.toNat) (m + n.toNat)) (lgG (m + n.toNat) (widF f a.toNat n.toNat)) (whL (widF f a.toNat n.toNat) (lgG (m + n.toNat) (widF f a.toNat n.toNat)) (m + n.toNat)) w)
/-- As the frame wants it. -/
theorem relaxLeads_fr (hS : SaysLeads) (m : Nat) (f : Nat → It) (v : Value) (a n : Int) (w : World) (hw : ∀ j, j < m → wfIt (f j)) (hu : InB w.heap.size w (itE m f) v) : Ret Try.prog 5 #[v, .int .i64 a, .int .i64 n] (.bool true) w :=
  LRet.plain (relaxLeads_walk hS m f a n hw w [v, .int .i64 a, .int .i64 n] ⟨hu, rfl, rfl, trivial⟩)
end Go.Proofs.Ytohefnfombkkbaa
