/- Layer 13: package cand: Decode, the whole. -/
import Derived.Test.YtmaffamhjmlonaaPDec13
set_option linter.unusedVariables false
set_option linter.unusedSimpArgs false
namespace Go.Proofs.Ytmaffamhjmlonaa
open Go Go.RowKit Sim S2
theorem gr_stop {u : Nat} (hu : u < 18446744073709551616) : u / 128 ^ grN u < 128 := by
 have hlt := gr_lt u hu
 have := of_decide_eq_false (skipN_hit (P := fun j => decide (127 < u / 128 ^ j)) (k := 10) (a := 0) (by show grN u < 0 + 10; omega))
 have : ¬ 127 < u / 128 ^ grN u := this
 omega
theorem grB_lt (u : Nat) : ∀ j, ∀ x ∈ grB u j, x < 256
 | 0, x, hx => by cases hx
 | j + 1, x, hx => by
   rcases List.mem_append.mp (show x ∈ grB u j ++ [_] from hx) with h | h
   . exact grB_lt u j x h
   . obtain rfl := List.mem_singleton.mp h
     omega
theorem vbL_lt {u : Nat} (hu : u < 18446744073709551616) : ∀ x ∈ vbL u, x < 256 := fun x hx => by
 unfold vbL at hx
 rcases List.mem_append.mp hx with h | h
 . exact grB_lt u _ x h
 . obtain rfl := List.mem_singleton.mp h
   have := gr_stop hu
   omega
theorem obL_lt {N : List Int} (hN : ∀ j, j < N.length -> inI ((N[j]?).getD 0) = true) : ∀ j, j <= N.length -> ∀ x ∈ obL N j, x < 256
 | 0, _, x, hx => by cases hx
 | j + 1, hj, x, hx => by
   rcases List.mem_append.mp (show x ∈ obL N j ++ vbL _ from hx) with h | h
   . exact obL_lt hN j (by omega) x h
   . exact vbL_lt (zg_lt (hN j (by omega))) x h
theorem strOf_by (B : List Int) : ((List.range (byE B).n).map fun j => intOf ((byE B).el j)) = B := by
 refine List.ext_getElem (by simp [byE]) fun i h1 h2 => ?_
 simp only [List.getElem_map, List.getElem_range]
 show (B[i]?).getD 0 = _
 rw [List.getElem?_eq_getElem h2]; rfl
theorem strOf_rs (B : List Int) : ((List.range (rsE B).n).map fun j => intOf ((rsE B).el j)) = B := strOf_by B
theorem ofNat_inj {x y : Int} (hx : 0 <= x /\ x < 256) (hy : 0 <= y /\ y < 256) (h : UInt8.ofNat x.toNat = UInt8.ofNat y.toNat) : x = y := by
 have h2 := congrArg UInt8.toNat h
 rw [UInt8.toNat_ofNat', UInt8.toNat_ofNat'] at h2
 omega
theorem map_inj_on {α β : Type} {f : α -> β} : ∀ {l l' : List α}, (∀ x ∈ l, ∀ y ∈ l', f x = f y -> x = y) -> l.map f = l'.map f -> l = l'
 | [], [], _, _ => rfl
 | [], _ :: _, _, h => by cases h
 | _ :: _, [], _, h => by cases h
 | x :: l, y :: l', hf, h => by
   simp only [List.map_cons, List.cons.injEq] at h
   rw [hf x (List.mem_cons_self ..) y (List.mem_cons_self ..) h.1, map_inj_on (fun a ha b hb => hf a (List.mem_cons_of_mem _ ha) b (List.mem_cons_of_mem _ hb)) h.2]
theorem sameS_iff {E B : List Int} (hE : ∀ x ∈ E, 0 <= x /\ x < 256) (hB : ∀ x ∈ B, 0 <= x /\ x < 256) : sameS E B = true ↔ E = B := by
 unfold sameS
 rw [strZ_eq, strZ_eq]
 unfold strOf
 rw [strOf_by, strOf_rs, beq_iff_eq, ByteArray.toList_eq, ByteArray.toList_eq, strOfNums_data, strOfNums_data]
 exact ⟨fun h => map_inj_on (fun x hx y hy => ofNat_inj (hE x hx) (hB y hy)) h, fun h => by rw [h]⟩
def okD (hL : List (List Rc)) (rL : List (Int × List Rf)) (B : List Int) : Prop := ∀ gl c, hartsT gl c = hL -> rowsT gl c = rL -> chkZ gl c = 0 /\ bytL gl c = B
theorem de5_cx (w0 : S2.Base) (hG : GlobB (enH13 eNB) w0) (B : List Int) (a b : Option Addr) (n c m d : Nat) {hL : List (List Rc)} {rL : List (Int × List Rf)} (h1 : xhRow w0.F (.slice a n c) hL) (h2 : xrRow w0.F (.slice b m d) rL) (hf : Fine hL rL) :
   CX Try.prog 36 0 1 w0 (deS5 B (.slice a n c) (.slice b m d)) (.region (regI de5) (regO de5) false) fun x w1 s1 => x = none /\ w1 = w0 /\ ∃ gl c0, hartsT gl c0 = hL /\ rowsT gl c0 = rL /\ CnIn gl c0 /\ s1 = deS6 B (encB gl c0) (.slice a n c) (.slice b m d) (chkZ gl c0) := by
 refine CX.mid (E := enH13 eNB) enB_ok hG (l1 := (regO de5).toList.take 1) (o := opX de5 1) (l2 := (regO de5).toList.drop 2) (d := 23) [] [] (s1 := deA5 B (.slice a n c) (.slice b m d)) (f := 9) (args := [.inl ([true, true], .agg #[.slice a n c, .slice b m d])]) de5_ops (by kernel_rfl) (de5_a B _ _) qZ (by kernel_rfl) (by kernel_rfl) (by decide) (by kernel_rfl) (by kernel_rfl) ⟨_, Try.func9, by kernel_rfl, by kernel_rfl⟩ fun ν1 w1 vs hw hvs => ?_
 obtain ⟨m1, m2, m3⟩ := made_ok hw.fr.here (c := ⟨a, n, c, b, m, d⟩) h1 h2
 obtain ⟨f1, f2⟩ := fine_ok (gl := frz w1) (c := ⟨a, n, c, b, m, d⟩) (by rw [m2, m3]; exact hf)
 have hv : vs = [cnV ⟨a, n, c, b, m, d⟩] := by
   match vs, hvs with
   | [v], hvs => rw [show v = _ from hvs.1]; rfl
 subst hv
 refine (encode_ret ⟨a, n, c, b, m, d⟩ m1 f1 f2 w1 (frz_ok w1) [cnV ⟨a, n, c, b, m, d⟩] ⟨rfl, trivial⟩).mono fun e w2 h => ?_
 obtain ⟨us, he, ⟨us2, hsh, hco⟩, hb⟩ := h
 obtain ⟨v, us', us2', rfl, e2, hsh2⟩ := hsh
 obtain ⟨v2, us3, us4, e3, e4, e5, e6⟩ := hsh2
 subst e5; subst e6; subst e3; subst e4; subst e2
 obtain ⟨⟨ho, _⟩, hk, _⟩ := hco
 subst hk
 refine ⟨_, w0, extV ν1 1 v, .tp [.inr 1, .inl ([true], .int .i64 (chkZ (frz w1) ⟨a, n, c, b, m, d⟩))], _, deS6 B (encB (frz w1) ⟨a, n, c, b, m, d⟩) (.slice a n c) (.slice b m d) (chkZ (frz w1) ⟨a, n, c, b, m, d⟩), { ts := [0, 2, 5, 6, 7], bs := [0, 1], ls := [0, 1] }, [], [], he, extV_old _ _ _ _, ?_, hw.addNew hb rfl ho, hG, by kernel_rfl, de5_b B (encB (frz w1) ⟨a, n, c, b, m, d⟩) (.slice a n c) (.slice b m d) (chkZ (frz w1) ⟨a, n, c, b, m, d⟩), qZ, rfl, rfl, frz w1, ⟨a, n, c, b, m, d⟩, m2, m3, f2, rfl⟩
 show Value.tuple #[v, _] = Value.tuple #[(extV ν1 1 v).v 1, _]
 rw [extV_new]; rfl
noncomputable def deH (B : List Int) : List (List Rc) := (xhO B false).1
noncomputable def deR (B : List Int) : List (Int × List Rf) := (xrO (xhO B false).2.1 (xhO B false).2.2).1
def dX (B : List Int) (W0 : S2.Base) (x : X) (w1 : S2.Base) (s1 : S2.St) : Prop := x = some none /\ w1.toWorld = W0.toWorld /\ FLe W0.F w1.F /\
 ((okD (deH B) (deR B) B /\ ∃ a n c b m d, s1 = deT B (.slice a n c) (.slice b m d) 0 /\ xhRow w1.F (.slice a n c) (deH B) /\ xrRow w1.F (.slice b m d) (deR B)) \/ (¬ okD (deH B) (deR B) B /\ s1 = deT B nlV nlV 1))
theorem encB_in {gl : Gl} {c : Cn} (h : CnIn gl c) : ∀ x ∈ encB gl c, 0 <= x /\ x < 256 := fun x hx => by
 unfold encB at hx
 split at hx
 . exact ⟨obL_nn _ _ x hx, obL_lt h _ (Nat.le_refl _) x hx⟩
 . cases hx
theorem de_body (B : List Int) (hB : B.length <= 1000000000000) (hr : ∀ x ∈ B, 0 <= x /\ x < 256) (W0 : S2.Base) (hG : GlobB (enH13 eNB) W0) : CX Try.prog 36 0 1 W0 (de0 B) deB (dX B W0) := by
 rw [deB_eq]
 refine CX.then (de_r0 W0 hG B) (CX.then (de_r1 W0 hG B) (CX.then (de_r2 W0 hG B) (CX.seq (de3_cx W0 hG B hB) (fun w1 s1 h => ?_) (fun y w1 s1 h => by cases h.1))))
 obtain ⟨_, q1, q2, a, n, c, rfl, q3⟩ := h
 have hG1 := glob_at hG enB_bt q1
 refine CX.seq (de4_cx w1 hG1 B _ (Nat.le_trans (xhO_less B false) hB) _ _) (fun w2 s2 h => ?_) (fun y w1 s1 h => by cases h.1)
 obtain ⟨_, r1, r2, b, m, d, rfl, r3⟩ := h
 have hG2 := glob_at hG1 enB_bt r1
 have r4 : xhRow w2.F (.slice a n c) (deH B) := by
   obtain ⟨el, k1, k2⟩ := q3
   exact ⟨el, k1.mono r2, k2.mono r2⟩
 refine CX.seq (de5_cx w2 hG2 B a b n c m d r4 r3 (read_fine _ _ _ _)) (fun w3 s3 h => ?_) (fun y w1 s1 h => by cases h.1)
 obtain ⟨_, rfl, gl, c0, e1, e2, e3, rfl⟩ := h
 have key : okD (deH B) (deR B) B ↔ chkZ gl c0 = 0 /\ bytL gl c0 = B := by
   refine ⟨fun h => h gl c0 e1 e2, fun h gl' c' f1 f2 => ?_⟩
   have ha : Alike gl c0 gl' c' := alike_of (e1.trans f1.symm) (e2.trans f2.symm)
   rw [<- ha.chk, <- ha.byt]; exact h
 have sIff := sameS_iff (encB_in e3) hr
 by_cases hk : chkZ gl c0 = 0
 . have hE : encB gl c0 = bytL gl c0 := by unfold encB; rw [if_pos hk]
   rw [hk]
   cases hs : sameS (encB gl c0) B
   . refine (CX.of (E := enH13 eNB) (de6_ft w3 hG2 B (encB gl c0) a b n c m d hs) ⟨rfl, r1.trans q1, q2.trans r2, .inr ⟨fun h => ?_, rfl⟩⟩)
     have := sIff.mpr (hE.trans (key.mp h).2)
     rw [hs] at this; cases this
   . exact (CX.of (E := enH13 eNB) (de6_ff w3 hG2 B (encB gl c0) a b n c m d hs) ⟨rfl, r1.trans q1, q2.trans r2, .inl ⟨key.mpr ⟨hk, hE.symm.trans (sIff.mp hs)⟩, a, n, c, b, m, d, rfl, r4, r3⟩⟩)
 . exact (CX.of (E := enH13 eNB) (de6_t w3 hG2 B (encB gl c0) a b n c m d _ hk) ⟨rfl, r1.trans q1, q2.trans r2, .inr ⟨fun h => hk (key.mp h).1, rfl⟩⟩)
theorem decode_calls (B : List Int) (hB : B.length <= 1000000000000) (hr : ∀ x ∈ B, 0 <= x /\ x < 256) (w : World) (vals : List Value) (ha : ArgsOk w [.inr (byE B)] vals) : Calls Try.prog 11 vals.toArray w fun e w2 => Below w.heap.size w w2 /\
   ((okD (deH B) (deR B) B /\ ∃ c : Cn, e = .returned (.tuple #[cnV c, .int .i64 0]) /\ CnOk (frz w2) c /\ CnSm (frz w2) c /\ CnIn (frz w2) c /\ hartsT (frz w2) c = deH B /\ rowsT (frz w2) c = deR B) \/ (¬ okD (deH B) (deR B) B /\ e = .returned (.tuple #[cnV ⟨none, 0, 0, none, 0, 0⟩, .int .i64 1]))) := by
 let ν : Nu := ⟨fun _ => 0, fun k => ((listVals [.inr (byE B)] vals)[k]?).getD undef⟩
 obtain ⟨i1, i2, i3, i4⟩ := initX_ok (fls := []) (ν := ν) [.inr (byE B)] vals 0 0 ha (fun j v hj => by show ((listVals [.inr (byE B)] vals)[0 + j]?).getD undef = v; rw [Nat.zero_add, hj]; rfl)
 simp only [Nat.zero_add] at i2 i3
 have hwr : WR (base0 w) ν ⟨[], [rsE B]⟩ true w :=
   ⟨Below.refl _ _, fun i b hi => by simp at hi, fun i b hi => by simp at hi, fun i j hi => by simp at hi, fun k e hk hd => (by
     obtain ⟨k1, k2⟩ := i2 k e hk
     unfold LOk
     rw [k1]; exact k2), fun k e hk hd ho => (by
     rw [(i2 k e hk).1] at ho; exact absurd ho (by simp)), (fun h => by cases h), .void _ _ _⟩
 have hG : GlobB (enH13 eNB) (base0 w) := .of (GlobOk.none w)
 have hb := de_body B hB hr (base0 w) hG
 refine CX.calls (E := enH13 eNB) (fn := (Try.prog.funcs[(11 : Nat)]?).getD default) (by kernel_rfl) (c := deB) (by kernel_rfl) rfl (args := [.c 0]) (own := ⟨[], [rsE B]⟩) (w0 := base0 w) (R := dX B (base0 w)) hb ?_ (vs := vals) (ν := ν) i1 hwr
 intro x w1 s1 h
 obtain ⟨rfl, q1, q2, ⟨q3, a, n, c, b, m, d, rfl, q4, q5⟩ | ⟨q3, rfl⟩⟩ := h
 . refine ⟨(fun i h => by cases h), .inl ([true], .tuple #[.agg #[.slice a n c, .slice b m d], .int .i64 0]), by kernel_rfl, fun ν1 v w' ha hv hw' => ?_⟩
   have hbl := hw'.below
   rw [q1] at hbl
   obtain ⟨m1, m2, m3⟩ := made_ok hw'.fr.here (c := ⟨a, n, c, b, m, d⟩) q4 q5
   obtain ⟨f1, f2⟩ := fine_ok (gl := frz w') (c := ⟨a, n, c, b, m, d⟩) (by rw [m2, m3]; exact read_fine _ _ _ _)
   have hv : v = .tuple #[cnV ⟨a, n, c, b, m, d⟩, .int .i64 0] := hv
   exact ⟨hbl, .inl ⟨q3, ⟨a, n, c, b, m, d⟩, by rw [hv], m1, f1, f2, m2, m3⟩⟩
 . refine ⟨(fun i h => by cases h), .inl ([true], .tuple #[.agg #[nlV, nlV], .int .i64 1]), by kernel_rfl, fun ν1 v w' ha hv hw' => ?_⟩
   have hbl := hw'.below
   rw [q1] at hbl
   have hv : v = .tuple #[cnV ⟨none, 0, 0, none, 0, 0⟩, .int .i64 1] := hv
   exact ⟨hbl, .inr ⟨q3, by rw [hv]⟩⟩
end Go.Proofs.Ytmaffamhjmlonaa
