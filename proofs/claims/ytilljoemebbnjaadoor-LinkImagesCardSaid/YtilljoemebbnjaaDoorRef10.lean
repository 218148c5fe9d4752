/- Layer 10: the reference: where items stand, how far labels are. -/
import Derived.Test.YtilljoemebbnjaaDoorRef09
set_option linter.unusedVariables false
set_option linter.unusedSimpArgs false
namespace Go.Proofs.YtilljoemebbnjaaDoor
open Go.RowKit Sim S2
def blI (n : Nat) (g : Nat -> Bool) : LE := ⟨4, 1, n, fun j => [.bool (g j)], false, false, true⟩
def blE (n : Nat) (g : Nat -> Bool) : LE := ⟨4, 1, n, fun j => [.bool (g j)], true, false, true⟩
def bD : List Value -> Bool
 | [.bool b] => b
 | _ => false
def ahN (f : Nat -> It) (g : Nat -> Bool) : Nat -> Nat
 | 0 => 0
 | j + 1 => ahN f g j + (bif (f j).kind != 1 then 1 else 0) + (bif g j then 1 else 0)
noncomputable def envA10 : S2.Env := envk Tryd.prog (fun _ => none) true noT noP noL
theorem envA10_ok : CallOk envA10 := envk_ok (nw := true) (.none _ _) (.none _ _) (.none _ _)
def ahS (n : Nat) (f : Nat -> It) (m : Nat) (g : Nat -> Bool) (k : Nat) (c : Nat) (j : Nat) : S2.St := { tmps := [(0, .c 0), (1, .c 1), (2, .inl ([true], .int .i64 k)), (7, .inl ([true], .int .i64 c)), (8, .inl ([true], .int .i64 j))], own := ⟨[], [itE n f, blI m g]⟩, lo := 0, llo := 0, mem := true, orc := [], obl := [] }
def ahQ : Pick := { ts := [0, 1, 2, 7, 8], bs := [], ls := [0, 1], opn := [7, 8] }
def ahP : List Nat := [0, 1, 0, 1, 1]
noncomputable def ahC : Code := codeAt (codeOf Tryd.prog 50) (0 :: ahP)
theorem ah_ttt (n : Nat) (f : Nat -> It) (m : Nat) (g : Nat -> Bool) (k c j : Nat) (hn : n <= 1000000000) (hkn : k <= n) (hkm : k <= m) (hj : j < k) (hc : c <= 2 * j) (h1 : ((f j).kind != 1) = true) (h2 : g j = true) (w : World) : S2.Sem envA10 w 29 ahC (ahS n f m g k c j) none (ahS n f m g k (c + 1 + 1) (j + 1)) := by
 refine sem_iter envA10_ok (GlobOk.none w) (p := ahQ) (fuel := 1000) [true, true, true] [(pre (inI ((j : Int) + 1)), true), (pre (inI ((c : Int) + 1 + 1)), true), (g ((j : Int)).toNat, true), (pre (decide (((j : Int)).toNat < m)), true), (pre (idxB ((j : Int)) m), true), (pre (inI ((c : Int) + 1)), true), ((f ((j : Int)).toNat).kind != 1, true), (pre (decide (((j : Int)).toNat < n)), true), (pre (decide (((j : Int)).toNat < n)), true), (pre (idxB ((j : Int)) n), true), (decide ((j : Int) < (k : Int)), true)] (by kernel_rfl) (by kernel_rfl) ?_
 try simp only [qN]
 refine qF ?_ ?_ ?_ ?_ <| qF ?_ ?_ ?_ ?_ <| qA ?_ <| qA ?_ <| qA ?_ <| qZ
 . exact ob_inI (by omega)
 . exact ob_inI (by omega)
 . assumption
 . exact ob_lt (by omega)
 . exact ob_idx (by omega)
 . exact ob_inI (by omega)
 . assumption
 . exact ob_lt (by omega)
 . exact ob_lt (by omega)
 . exact ob_idx (by omega)
 . exact ob_yes (by omega)
theorem ah_ttf (n : Nat) (f : Nat -> It) (m : Nat) (g : Nat -> Bool) (k c j : Nat) (hn : n <= 1000000000) (hkn : k <= n) (hkm : k <= m) (hj : j < k) (hc : c <= 2 * j) (h1 : ((f j).kind != 1) = true) (h2 : g j = false) (w : World) : S2.Sem envA10 w 29 ahC (ahS n f m g k c j) none (ahS n f m g k (c + 1) (j + 1)) := by
 refine sem_iter envA10_ok (GlobOk.none w) (p := ahQ) (fuel := 1000) [true, true, false] [(pre (inI ((j : Int) + 1)), true), (g ((j : Int)).toNat, false), (pre (decide (((j : Int)).toNat < m)), true), (pre (idxB ((j : Int)) m), true), (pre (inI ((c : Int) + 1)), true), ((f ((j : Int)).toNat).kind != 1, true), (pre (decide (((j : Int)).toNat < n)), true), (pre (decide (((j : Int)).toNat < n)), true), (pre (idxB ((j : Int)) n), true), (decide ((j : Int) < (k : Int)), true)] (by kernel_rfl) (by kernel_rfl) ?_
 try simp only [qN]
 refine qF ?_ ?_ ?_ ?_ <| qF ?_ ?_ ?_ ?_ <| qA ?_ <| qA ?_ <| qZ
 . exact ob_inI (by omega)
 . assumption
 . exact ob_lt (by omega)
 . exact ob_idx (by omega)
 . exact ob_inI (by omega)
 . assumption
 . exact ob_lt (by omega)
 . exact ob_lt (by omega)
 . exact ob_idx (by omega)
 . exact ob_yes (by omega)
theorem ah_tft (n : Nat) (f : Nat -> It) (m : Nat) (g : Nat -> Bool) (k c j : Nat) (hn : n <= 1000000000) (hkn : k <= n) (hkm : k <= m) (hj : j < k) (hc : c <= 2 * j) (h1 : ((f j).kind != 1) = false) (h2 : g j = true) (w : World) : S2.Sem envA10 w 29 ahC (ahS n f m g k c j) none (ahS n f m g k (c + 1) (j + 1)) := by
 refine sem_iter envA10_ok (GlobOk.none w) (p := ahQ) (fuel := 1000) [true, false, true] [(pre (inI ((j : Int) + 1)), true), (pre (inI ((c : Int) + 1)), true), (g ((j : Int)).toNat, true), (pre (decide (((j : Int)).toNat < m)), true), (pre (idxB ((j : Int)) m), true), ((f ((j : Int)).toNat).kind != 1, false), (pre (decide (((j : Int)).toNat < n)), true), (pre (decide (((j : Int)).toNat < n)), true), (pre (idxB ((j : Int)) n), true), (decide ((j : Int) < (k : Int)), true)] (by kernel_rfl) (by kernel_rfl) ?_
 try simp only [qN]
 refine qF ?_ ?_ ?_ ?_ <| qF ?_ ?_ ?_ ?_ <| qA ?_ <| qA ?_ <| qZ
 . exact ob_inI (by omega)
 . exact ob_inI (by omega)
 . assumption
 . exact ob_lt (by omega)
 . exact ob_idx (by omega)
 . assumption
 . exact ob_lt (by omega)
 . exact ob_lt (by omega)
 . exact ob_idx (by omega)
 . exact ob_yes (by omega)
theorem ah_tff (n : Nat) (f : Nat -> It) (m : Nat) (g : Nat -> Bool) (k c j : Nat) (hn : n <= 1000000000) (hkn : k <= n) (hkm : k <= m) (hj : j < k) (hc : c <= 2 * j) (h1 : ((f j).kind != 1) = false) (h2 : g j = false) (w : World) : S2.Sem envA10 w 29 ahC (ahS n f m g k c j) none (ahS n f m g k (c) (j + 1)) := by
 refine sem_iter envA10_ok (GlobOk.none w) (p := ahQ) (fuel := 1000) [true, false, false] [(pre (inI ((j : Int) + 1)), true), (g ((j : Int)).toNat, false), (pre (decide (((j : Int)).toNat < m)), true), (pre (idxB ((j : Int)) m), true), ((f ((j : Int)).toNat).kind != 1, false), (pre (decide (((j : Int)).toNat < n)), true), (pre (decide (((j : Int)).toNat < n)), true), (pre (idxB ((j : Int)) n), true), (decide ((j : Int) < (k : Int)), true)] (by kernel_rfl) (by kernel_rfl) ?_
 try simp only [qN]
 refine qF ?_ ?_ ?_ ?_ <| qF ?_ ?_ ?_ ?_ <| qA ?_ <| qZ
 . exact ob_inI (by omega)
 . assumption
 . exact ob_lt (by omega)
 . exact ob_idx (by omega)
 . assumption
 . exact ob_lt (by omega)
 . exact ob_lt (by omega)
 . exact ob_idx (by omega)
 . exact ob_yes (by omega)
theorem ah_end (n : Nat) (f : Nat -> It) (m : Nat) (g : Nat -> Bool) (k c : Nat) (w : World) : S2.Sem envA10 w 29 ahC (ahS n f m g k c k) (some (some 0)) (ahS n f m g k c k) := by
 refine sem_iter envA10_ok (GlobOk.none w) (p := ahQ) (fuel := 1000) [false] [(decide ((k : Int) < (k : Int)), false)] (by kernel_rfl) (by kernel_rfl) ?_
 try simp only [qN]
 refine qA ?_ <| qZ
 . exact ob_no (by omega)
theorem ahN_le (f : Nat -> It) (g : Nat -> Bool) : ∀ j, ahN f g j <= 2 * j
 | 0 => Nat.le_refl _
 | j + 1 => by
   have := ahN_le f g j
   show ahN f g j + _ + _ <= _
   cases (f j).kind != 1 <;> cases g j <;> simp only [cond_true, cond_false] <;> omega
theorem ah_step (n : Nat) (f : Nat -> It) (m : Nat) (g : Nat -> Bool) (k j : Nat) (hn : n <= 1000000000) (hkn : k <= n) (hkm : k <= m) (hj : j < k) (w : World) : S2.Sem envA10 w 29 ahC (ahS n f m g k (ahN f g j) j) none (ahS n f m g k (ahN f g (j + 1)) (j + 1)) := by
 have hc := ahN_le f g j
 have e : ahN f g (j + 1) = ahN f g j + (bif (f j).kind != 1 then 1 else 0) + (bif g j then 1 else 0) := rfl
 rw [e]
 cases h1 : (f j).kind != 1 <;> cases h2 : g j
 . exact ah_tff n f m g k _ j hn hkn hkm hj hc h1 h2 w
 . exact ah_tft n f m g k _ j hn hkn hkm hj hc h1 h2 w
 . exact ah_ttf n f m g k _ j hn hkn hkm hj hc h1 h2 w
 . exact ah_ttt n f m g k _ j hn hkn hkm hj hc h1 h2 w
theorem refAhead_ret (n : Nat) (f : Nat -> It) (m : Nat) (g : Nat -> Bool) (k : Nat) (hn : n <= 1000000000) (hkn : k <= n) (hkm : k <= m) (w : World) (vals : List Value) (ha : ArgsOk w [.inr (itE n f), .inr (blI m g), .inl (.int .i64 k)] vals) : LRet Tryd.prog 50 vals false [.inl (.int .i64 (ahN f g k))] w := by
 refine fn_ok envA10_ok (fuel := 1000) (d := 30) (plan := [⟨ahP, ahQ, some (some 0), ahS n f m g k (ahN f g k) k⟩]) (orc := []) (fls := [[], [], [true]]) (l := []) (tr := [⟨.loop ahC, ahS n f m g k (ahN f g 0) 0, some (some 0), ahS n f m g k (ahN f g k) k⟩]) (by kernel_rfl) qZ Tryd.func50 w vals (GlobOk.none w) ha fun t ht => ?_
 obtain rfl := List.mem_singleton.mp ht
 exact sem_loop (fun j => ahS n f m g k (ahN f g j) j) k (by simp) (fun j hj => ah_step n f m g k j hn hkn hkm hj w) (ah_end n f m g k _ w)
def isBl (e : LE) (n : Nat) : Prop := e.size = 1 /\ e.n = n /\ ∀ j, j < n -> ∃ b, e.el j = [.bool b]
theorem InB.bl {B : Nat} {w : World} {e : LE} {v : Value} {n : Nat} (h : InB B w e v) (he : isBl e n) : InB B w (blI n fun j => bD (e.el j)) v := by
 obtain ⟨h1, h2, h3⟩ := he
 subst h2
 obtain ⟨_, a, cap, hv, hcap, hc⟩ := h
 refine ⟨⟨by show 0 < 1; decide, fun j hj => ⟨rfl, rfl⟩⟩, a, cap, hv, hcap, fun hp => ?_⟩
 obtain ⟨b, off, ha, hb, hcell⟩ := hc hp
 refine ⟨b, off, ha, hb, fun j hj o c ho => ?_⟩
 obtain ⟨x, hx⟩ := h3 j hj
 have := hcell j hj o c (by rw [hx]; have e : (blI e.n fun j => bD (e.el j)).el j = [.bool (bD (e.el j))] := rfl; rw [e, hx] at ho; exact ho)
 rw [h1] at this
 exact this
theorem ahE_ex : ∃ h : (Nat -> It) -> LE -> Nat -> Int, ∀ f e k, h f e k = (ahN f (fun j => bD (e.el j)) k : Nat) := ⟨_, fun _ _ _ => rfl⟩
noncomputable def ahE : (Nat -> It) -> LE -> Nat -> Int := Classical.choose ahE_ex
theorem ahE_eq (f : Nat -> It) (e : LE) (k : Nat) : ahE f e k = (ahN f (fun j => bD (e.el j)) k : Nat) := Classical.choose_spec ahE_ex f e k
noncomputable def lAhead (n : Nat) (f : Nat -> It) : LTab := lrow 50 fun args => match args with
 | [.inr e, .inr b, .inl (.int .i64 k)] => some (false, [.inl (.int .i64 (ahE f b k.toNat))], pre (propB (isItE e n f /\ n <= 1000000000 /\ isBl b n /\ 0 <= k /\ k <= n)))
 | _ => none
theorem lAhead_ok {gl : Gl} (n : Nat) (f : Nat -> It) : LTabOk Tryd.prog gl (lAhead n f) := .row fun args tup res h w vals hG ha => by
 split at h
 . rename_i e b k
   simp only [qS, qP] at h
   obtain ⟨rfl, rfl, hp⟩ := h
   obtain ⟨h1, h2, h3, h4, h5⟩ := propB_ok.mp hp
   obtain ⟨k, rfl⟩ := Int.eq_ofNat_of_zero_le h4
   rw [qN, ahE_eq]
   match vals, ha with
   | [u, v, x], ha => exact refAhead_ret n f n _ k h2 (by omega) (by omega) w [u, v, x] ⟨InB.it ha.1 h1, InB.bl ha.2.1 h3, ha.2.2⟩
   | [], ha => exact ha.elim
   | [_], ha => exact ha.2.elim
   | [_, _], ha => exact ha.2.2.elim
   | _ :: _ :: _ :: _ :: _, ha => exact ha.2.2.2.elim
 . cases h
end Go.Proofs.YtilljoemebbnjaaDoor
