/- Layer 10: RelaxLays, walked over what the document says of the program. -/
import Derived.Test.YtohefnfombkkbaaLaw10
namespace Go.Proofs.Ytohefnfombkkbaa
open Go.RowKit Sim S2
set_option linter.unusedVariables false
set_option linter.unusedSimpArgs false
def inI10 (n : Nat) (g : Nat → Int) : LE := ⟨3, 1, n, fun j => [.int .i64 (g j)], false, false, true⟩
noncomputable def envI10 : S2.Env := envk Try.prog (fun _ => none) true noT noP noL
theorem envI10_ok : CallOk envI10 := envk_ok (nw := true) (.none _ _) (.none _ _) (.none _ _)
def itS10 (n : Nat) (g : Nat → Int) (i : Nat) : S2.St := { tmps := [(0, .c 0), (1, .c 1), (5, .inl ([true], .int .i64 i))], own := ⟨[], [inI10 n g, inI10 n g]⟩, lo := 0, llo := 0, mem := true, orc := [], obl := [] }
def itQ10 : Pick := { ts := [0, 1, 5], bs := [], ls := [0, 1], opn := [5] }
def itP10 : List Nat := [0, 1, 0, 1, 1]
noncomputable def itC10 : Code := codeAt (codeOf Try.prog 11) (0 :: itP10)
theorem it_0 (n : Nat) (g : Nat → Int) (i : Nat) (hi : i < n) (hn : n ≤ 1000000000) (w : World) : S2.Sem envI10 w 26 itC10 (itS10 n g i) none (itS10 n g (i + 1)) := by
  refine sem_iter envI10_ok (GlobOk.none w) (p := itQ10) (fuel := 1000) [true, false] [(pre (S2.inI ((i : Int) + 1)), true), (g ((i : Int)).toNat != g ((i : Int)).toNat, false), (pre (decide (((i : Int)).toNat < n)), true), (pre (idxB ((i : Int)) n), true), (pre (decide (((i : Int)).toNat < n)), true), (pre (idxB ((i : Int)) n), true), (decide ((i : Int) < (n : Int)), true)] (by kernel_rfl) (by kernel_rfl) ?_
  try simp only [Int.toNat_natCast]
  refine all_cons ?_ <| all_cons ?_ <| all_cons ?_ <| all_cons ?_ <| all_cons ?_ <| all_cons ?_ <| all_cons ?_ <| all_nil
  · exact ob_inI (by omega)
  · exact ne_self10 _
  · exact ob_lt (by omega)
  · exact ob_idx (by omega)
  · exact ob_lt (by omega)
  · exact ob_idx (by omega)
  · exact ob_yes (by omega)
theorem it_1 (n : Nat) (g : Nat → Int) (w : World) : S2.Sem envI10 w 26 itC10 (itS10 n g n) (some (some 0)) (itS10 n g n) := by
  refine sem_iter envI10_ok (GlobOk.none w) (p := itQ10) (fuel := 1000) [false] [(decide ((n : Int) < (n : Int)), false)] (by kernel_rfl) (by kernel_rfl) ?_
  try simp only [Int.toNat_natCast]
  refine all_cons ?_ <| all_nil
  · exact ob_no (by omega)
theorem ints10_ret (n : Nat) (g : Nat → Int) (hn : n ≤ 1000000000) (w : World) (vals : List Value) (ha : ArgsOk w [.inr (inI10 n g), .inr (inI10 n g)] vals) : LRet Try.prog 11 vals false [.inl (.bool true)] w := by
  refine fn_ok envI10_ok (fuel := 1000) (d := 30) (plan := [⟨itP10, itQ10, some (some 0), itS10 n g n⟩]) (orc := [false]) (fls := [[], []]) (l := [(((n : Int) != (n : Int)), false)]) (tr := [⟨.loop itC10, itS10 n g 0, some (some 0), itS10 n g n⟩]) (by kernel_rfl) (all_cons (ne_self10 _) all_nil) Try.func11 w vals (GlobOk.none w) ha fun t ht => ?_
  obtain rfl := List.mem_singleton.mp ht
  exact sem_loop (fun j => itS10 n g j) n (by simp) (fun j hj => it_0 n g j hj hn w) (it_1 n g w)
def isInts (e : LE) (n : Nat) (g : Nat → Int) : Prop := e.size = 1 ∧ e.n = n ∧ ∀ j, j < n → e.el j = [.int .i64 (g j)]
theorem InB.ints10 {B : Nat} {w : World} {e : LE} {v : Value} {n : Nat} {g : Nat → Int} (h : InB B w e v) (he : isInts e n g) : InB B w (inI10 n g) v := by
  obtain ⟨h1, h2, h3⟩ := he
  subst h2
  obtain ⟨_, a, cap, hv, hcap, hc⟩ := h
  refine ⟨⟨by show 0 < 1; decide, fun j hj => ⟨rfl, rfl⟩⟩, a, cap, hv, hcap, fun hp => ?_⟩
  obtain ⟨b, off, ha, hb, hcell⟩ := hc hp
  refine ⟨b, off, ha, hb, fun j hj o c ho => ?_⟩
  have := hcell j hj o c (by rw [h3 j hj]; exact ho)
  rw [h1] at this
  exact this
noncomputable def lInts10 : LTab := lrow 11 fun args => match args with
  | [.inr e, .inr e'] => some (false, [.inl (.bool true)], pre (propB (∃ n g, n ≤ 1000000000 ∧ isInts e n g ∧ isInts e' n g)))
  | _ => none
theorem lInts10_ok {gl : Gl} : LTabOk Try.prog gl lInts10 := .row fun args tup res h w vals hG ha => by
  split at h
  · rename_i e e'
    simp only [Option.some.injEq, Prod.mk.injEq] at h
    obtain ⟨rfl, rfl, hp⟩ := h
    obtain ⟨n, g, h1, h2, h3⟩ := propB_ok.mp hp
    match vals, ha with
    | [u, v], ha => exact ints10_ret n g h1 w [u, v] ⟨InB.ints10 ha.1 h2, InB.ints10 ha.2.1 h3, trivial⟩
    | [], ha => exact ha.elim
    | [_], ha => exact ha.2.elim
    | _ :: _ :: _ :: _, ha => exact ha.2.2.elim
  · cases h
theorem isInts_nt (L : List Int) : isInts (ntE L) L.length (fun j => (L[j]?).getD 0) := ⟨rfl, rfl, fun _ _ => rfl⟩
theorem may_ifOp {n : Nat} {f : Nat → It} (h : mayU n f = true) : ifOp n f := by
  unfold mayU at h
  intro i hi hk hop
  cases e : fstN (fun j => (f j).kind == 4) n with
  | some j => rw [e] at h; cases h
  | none =>
    rw [e] at h
    have h : (unitR n f).2 = 0 := eq_of_beq h
    unfold unitR at h
    cases e1 : fstN (bad1 f) n with
    | some j => rw [e1] at h; cases h
    | none =>
      have hb := fst_none e1 i hi
      unfold bad1 rightB at hb
      rw [hk] at hb
      have : ((3 : Int) == 0) = false ∧ ((3 : Int) == 1) = false ∧ ((3 : Int) == 2) = false ∧ ((3 : Int) == 3) = true := by decide
      simp only [this, cond_false, cond_true, hop] at hb
      have : (formZ 3 == 4) = false := by decide
      rw [this] at hb
      cases hb
/-- What the document asks of the program's Lay. -/
noncomputable def lLyP (n : Nat) (f : Nat → It) : LTab := lrow 8 fun args => match args with
  | [.inr e] => some (true, [.inr (wdE (layA f (lgG n f) n n)), .inr (ntE (layN f (lgG n f) n n)), .inl (.int .i64 0)], pre (propB (isItE e n f ∧ n ≤ 1000000 ∧ (∀ j, j < n → wfIt (f j)) ∧ mayU n f = true ∧ fstN (badJ f (lgG n f) n) n = none)))
  | _ => none
noncomputable def lLyN (n : Nat) (f : Nat → It) : LTab := lrow 8 fun args => match args with
  | [.inr e] => some (false, [.inl (.tuple #[.slice none 0 0, .slice none 0 0, .int .i64 1])], pre (propB (isItE e n f ∧ n ≤ 1000000 ∧ (∀ j, j < n → wfIt (f j)) ∧ mayU n f = false)))
  | _ => none
noncomputable def lLyF (n : Nat) (f : Nat → It) : LTab := lrow 8 fun args => match args with
  | [.inr e] => some (false, [.inl (.tuple #[.slice none 0 0, .slice none 0 0, .int .i64 33])], pre (propB (isItE e n f ∧ n ≤ 1000000 ∧ (∀ j, j < n → wfIt (f j)) ∧ mayU n f = true ∧ fstN (badJ f (lgG n f) n) n ≠ none)))
  | _ => none
noncomputable def lRyP (n : Nat) (f : Nat → It) : LTab := lrow 10 fun args => match args with
  | [.inr e] => some (true, [.inr (wdE (layA f (lgG n f) n n)), .inr (ntE (layN f (lgG n f) n n)), .inl (.bool true)], pre (propB (isItE e n f ∧ n ≤ 1000000 ∧ mayU n f = true ∧ fstN (badJ f (lgG n f) n) n = none)))
  | _ => none
noncomputable def lRyF (n : Nat) (f : Nat → It) : LTab := lrow 10 fun args => match args with
  | [.inr e] => some (false, [.inl (.tuple #[.slice none 0 0, .slice none 0 0, .bool false])], pre (propB (isItE e n f ∧ n ≤ 1000000 ∧ mayU n f = true ∧ fstN (badJ f (lgG n f) n) n ≠ none)))
  | _ => none
noncomputable def envLN (m : Nat) (f : Nat → It) : S2.Env := envk Try.prog (fun _ => none) true tAw10 noP (lUnitN m f)
noncomputable def envLM (m : Nat) (f : Nat → It) (n : Nat) (g : Nat → It) : S2.Env := envk Try.prog (fun _ => none) true tAw10 noP (orL (lUnitY m f) (orL (lMay n g) (lLyN n g)))
noncomputable def envLF (m : Nat) (f : Nat → It) (n : Nat) (g : Nat → It) : S2.Env := envk Try.prog (fun _ => none) true tAw10 noP (orL (lUnitY m f) (orL (lMay n g) (orL (lLyF n g) (lRyF n g))))
noncomputable def envLP (m : Nat) (f : Nat → It) (n : Nat) (g : Nat → It) : S2.Env := envk Try.prog (fun _ => none) true tAw10 noP (orL (lUnitY m f) (orL (lMay n g) (orL (lLyP n g) (orL (lRyP n g) lInts10))))
def rlyS (L : List In) (i : Nat) : S2.St := { tmps := [(9, .c 0), (12, .c 1), (15, .inl ([true], .int .i64 i))], own := ⟨[], [wdE L, wdE L]⟩, lo := 0, llo := 0, mem := true, orc := [], obl := [] }
def rlyQ : Pick := { ts := [9, 12, 15], bs := [], ls := [0, 1], opn := [15] }
def rlyQ0 : Pick := { ts := [9, 12, 15], bs := [], ls := [2, 4], opn := [15] }
def rlyP : List Nat := [0, 1, 0, 1, 1, 1, 1, 1, 1, 1, 1]
noncomputable def rlyC : Code := codeAt (codeOf Try.prog 3) (0 :: rlyP)
theorem lRyP_ok {gl : Gl} (n : Nat) (f : Nat → It) : LTabOk Try.prog gl (lRyP n f) := .row fun args tup res h w vals hG ha => by
  split at h
  · rename_i e
    simp only [Option.some.injEq, Prod.mk.injEq] at h
    obtain ⟨rfl, rfl, hp⟩ := h
    obtain ⟨h1, h2, h3, h4⟩ := propB_ok.mp hp
    match vals, ha with
    | [u], ha => exact refLay_ret n f (by omega) (may_ifOp h3) h4 w [u] ⟨InB.it ha.1 h1, trivial⟩
    | [], ha => exact ha.elim
    | _ :: _ :: _, ha => exact ha.2.elim
  · cases h
theorem lRyF_ok {gl : Gl} (n : Nat) (f : Nat → It) : LTabOk Try.prog gl (lRyF n f) := .row fun args tup res h w vals hG ha => by
  split at h
  · rename_i e
    simp only [Option.some.injEq, Prod.mk.injEq] at h
    obtain ⟨rfl, rfl, hp⟩ := h
    obtain ⟨h1, h2, h3, h4⟩ := propB_ok.mp hp
    match vals, ha with
    | [u], ha => 
      cases e1 : fstN (badJ f (lgG n f) n) n with
      | none => exact absurd e1 h4
      | some i => exact refLay_far n f (by omega) (may_ifOp h3) i e1 w [u] ⟨InB.it ha.1 h1, trivial⟩
    | [], ha => exact ha.elim
    | _ :: _ :: _, ha => exact ha.2.elim
  · cases h
/-- The program keeps what the document says of Lay; it is awake. -/
structure SaysLay : Prop where
  aw : TabOk Try.prog (fun _ => none) tAw10
  lp : ∀ n f, LTabOk Try.prog (fun _ => none) (lLyP n f)
  ln : ∀ n f, LTabOk Try.prog (fun _ => none) (lLyN n f)
  lf : ∀ n f, LTabOk Try.prog (fun _ => none) (lLyF n f)
theorem envLN_ok (hS : SaysLay) (m : Nat) (f : Nat → It) : CallOk (envLN m f) := envk_ok (nw := true) hS.aw (.none _ _) (lUnitN_ok m f)
theorem envLM_ok (hS : SaysLay) (m : Nat) (f : Nat → It) (n : Nat) (g : Nat → It) : CallOk (envLM m f n g) := envk_ok (nw := true) hS.aw (.none _ _) ((lUnitY_ok m f).or ((lMay_ok n g).or (hS.ln n g)))
theorem envLF_ok (hS : SaysLay) (m : Nat) (f : Nat → It) (n : Nat) (g : Nat → It) : CallOk (envLF m f n g) := envk_ok (nw := true) hS.aw (.none _ _) ((lUnitY_ok m f).or ((lMay_ok n g).or ((hS.lf n g).or (lRyF_ok n g))))
theorem envLP_ok (hS : SaysLay) (m : Nat) (f : Nat → It) (n : Nat) (g : Nat → It) : CallOk (envLP m f n g) := envk_ok (nw := true) hS.aw (.none _ _) ((lUnitY_ok m f).or ((lMay_ok n g).or ((hS.lp n g).or ((lRyP_ok n g).or lInts10_ok))))
theorem ne_selfI (x : In) : (!(x.op == x.op && (x.rd == x.rd && (x.a == x.a && (x.b == x.b && (x.imm == x.imm && (x.aq == x.aq && (x.rl == x.rl && true)))))))) = false := by simp
theorem rly_0 (hS : SaysLay) (m : Nat) (f : Nat → It) (n : Nat) (g : Nat → It) (L : List In) (i : Nat) (hi : i < L.length) (hN : L.length ≤ 1000000) (w : World) : S2.Sem (envLP m f n g) w 104 rlyC (rlyS L i) none (rlyS L (i + 1)) := by
  refine sem_iter (envLP_ok hS m f n g) (GlobOk.none w) (p := rlyQ) (fuel := 1000) [true, false] [(pre (inI ((i : Int) + 1)), true), (!((L[(i : Int).toNat]?.getD zI10).op == (L[(i : Int).toNat]?.getD zI10).op && ((L[(i : Int).toNat]?.getD zI10).rd == (L[(i : Int).toNat]?.getD zI10).rd && ((L[(i : Int).toNat]?.getD zI10).a == (L[(i : Int).toNat]?.getD zI10).a && ((L[(i : Int).toNat]?.getD zI10).b == (L[(i : Int).toNat]?.getD zI10).b && ((L[(i : Int).toNat]?.getD zI10).imm == (L[(i : Int).toNat]?.getD zI10).imm && ((L[(i : Int).toNat]?.getD zI10).aq == (L[(i : Int).toNat]?.getD zI10).aq && ((L[(i : Int).toNat]?.getD zI10).rl == (L[(i : Int).toNat]?.getD zI10).rl && true))))))), false), (pre (decide (((i : Int)).toNat < L.length)), true), (pre (idxB ((i : Int)) L.length), true), (pre (decide (((i : Int)).toNat < L.length)), true), (pre (idxB ((i : Int)) L.length), true), (decide ((i : Int) < (L.length : Int)), true)] (by kernel_rfl) (by kernel_rfl) ?_
  try simp only [Int.toNat_natCast]
  refine all_cons ?_ <| all_cons ?_ <| all_cons ?_ <| all_cons ?_ <| all_cons ?_ <| all_cons ?_ <| all_cons ?_ <| all_nil
  · exact ob_inI (by omega)
  · exact ne_selfI _
  · exact ob_lt (by omega)
  · exact ob_idx (by omega)
  · exact ob_lt (by omega)
  · exact ob_idx (by omega)
  · exact ob_yes (by omega)
theorem rly_1 (hS : SaysLay) (m : Nat) (f : Nat → It) (n : Nat) (g : Nat → It) (L : List In) (w : World) : S2.Sem (envLP m f n g) w 104 rlyC (rlyS L L.length) (some (some 0)) (rlyS L L.length) := by
  refine sem_iter (envLP_ok hS m f n g) (GlobOk.none w) (p := rlyQ) (fuel := 1000) [false] [(decide ((L.length : Int) < (L.length : Int)), false)] (by kernel_rfl) (by kernel_rfl) ?_
  try simp only [Int.toNat_natCast]
  refine all_cons ?_ <| all_nil
  · exact ob_no (by omega)
theorem relaxLays_walk (hS : SaysLay) (m : Nat) (f : Nat → It) (a n : Int) (hw : ∀ j, j < m → wfIt (f j)) (w : World) (vals : List Value) (ha : ArgsOk w [.inr (itE m f), .inl (.int .i64 a), .inl (.int .i64 n)] vals) : LRet Try.prog 3 vals false [.inl (.bool true)] w := by
  have iM0 := isIt0_self m f
  by_cases hs : smallU m a n
  case neg => exact fn_ok (envLN_ok hS m f) (fuel := 1000) (d := 10) (plan := []) (orc := []) (fls := [[], [true], [true]]) (l := [(pre (propB (isIt0 (itE m f) m f ∧ ¬smallU m a n)), true)]) (tr := []) (by kernel_rfl) (all_cons (propB_ok.mpr ⟨iM0, hs⟩) all_nil) Try.func3 w vals (GlobOk.none w) ha fun t ht => by cases ht
  obtain ⟨s1, s2, s3, s4, s5⟩ := hs
  have hs : smallU m a n := ⟨s1, s2, s3, s4, s5⟩
  have iM := isItE_self m f (by omega)
  have hN : (m + n.toNat) ≤ 1260 := by omega
  have iN := isIt_O (m + n.toNat) (widF f a.toNat n.toNat) (by omega)
  have hwN := wf_wid hw a.toNat n.toNat (by omega)
  cases hy : mayU (m + n.toNat) (widF f a.toNat n.toNat)
  case false => exact fn_ok (envLM_ok hS m f (m + n.toNat) (widF f a.toNat n.toNat)) (fuel := 1000) (d := 10) (plan := []) (orc := [false, true]) (fls := [[], [true], [true]]) (l := [(!mayU (m + n.toNat) (widF f a.toNat n.toNat), true), (pre (propB (isItE (owE (m + n.toNat) (widF f a.toNat n.toNat)) (m + n.toNat) (widF f a.toNat n.toNat) ∧ (m + n.toNat) ≤ 1000000000)), true), (pre (propB (isItE (owE (m + n.toNat) (widF f a.toNat n.toNat)) (m + n.toNat) (widF f a.toNat n.toNat) ∧ (m + n.toNat) ≤ 1000000 ∧ (∀ (j : Nat), j < (m + n.toNat) → wfIt (widF f a.toNat n.toNat j)) ∧ mayU (m + n.toNat) (widF f a.toNat n.toNat) = false)), true), (false, false), (pre (propB (isItE (itE m f) m f ∧ smallU m a n)), true)]) (tr := []) (by kernel_rfl) (all_cons (by rw [hy]; rfl) <| all_cons (propB_ok.mpr ⟨iN, by omega⟩) <| all_cons (propB_ok.mpr ⟨iN, by omega, hwN, hy⟩) <| all_cons rfl <| all_cons (propB_ok.mpr ⟨iM, hs⟩) all_nil) Try.func3 w vals (GlobOk.none w) ha fun t ht => by cases ht
  by_cases hb : fstN (badJ (widF f a.toNat n.toNat) (lgG (m + n.toNat) (widF f a.toNat n.toNat)) (m + n.toNat)) (m + n.toNat) = none
  case neg => exact fn_ok (envLF_ok hS m f (m + n.toNat) (widF f a.toNat n.toNat)) (fuel := 1000) (d := 10) (plan := []) (orc := [false, false]) (fls := [[], [true], [true]]) (l := [(pre (propB (isItE (owE (m + n.toNat) (widF f a.toNat n.toNat)) (m + n.toNat) (widF f a.toNat n.toNat) ∧ (m + n.toNat) ≤ 1000000 ∧ mayU (m + n.toNat) (widF f a.toNat n.toNat) = true ∧ fstN (badJ (widF f a.toNat n.toNat) (lgG (m + n.toNat) (widF f a.toNat n.toNat)) (m + n.toNat)) (m + n.toNat) ≠ none)), true), (!mayU (m + n.toNat) (widF f a.toNat n.toNat), false), (pre (propB (isItE (owE (m + n.toNat) (widF f a.toNat n.toNat)) (m + n.toNat) (widF f a.toNat n.toNat) ∧ (m + n.toNat) ≤ 1000000000)), true), (pre (propB (isItE (owE (m + n.toNat) (widF f a.toNat n.toNat)) (m + n.toNat) (widF f a.toNat n.toNat) ∧ (m + n.toNat) ≤ 1000000 ∧ (∀ (j : Nat), j < (m + n.toNat) → wfIt (widF f a.toNat n.toNat j)) ∧ mayU (m + n.toNat) (widF f a.toNat n.toNat) = true ∧ fstN (badJ (widF f a.toNat n.toNat) (lgG (m + n.toNat) (widF f a.toNat n.toNat)) (m + n.toNat)) (m + n.toNat) ≠ none)), true), (false, false), (pre (propB (isItE (itE m f) m f ∧ smallU m a n)), true)]) (tr := []) (by kernel_rfl) (all_cons (propB_ok.mpr ⟨iN, by omega, hy, hb⟩) <| all_cons (by rw [hy]; rfl) <| all_cons (propB_ok.mpr ⟨iN, by omega⟩) <| all_cons (propB_ok.mpr ⟨iN, by omega, hwN, hy, hb⟩) <| all_cons rfl <| all_cons (propB_ok.mpr ⟨iM, hs⟩) all_nil) Try.func3 w vals (GlobOk.none w) ha fun t ht => by cases ht
  have hlen := (layA_len (widF f a.toNat n.toNat) (lgG (m + n.toNat) (widF f a.toNat n.toNat)) (m + n.toNat) (m + n.toNat))
  refine fn_ok (envLP_ok hS m f (m + n.toNat) (widF f a.toNat n.toNat)) (fuel := 1000) (d := 30) (plan := [⟨rlyP, rlyQ0, some (some 0), rlyS (layA (widF f a.toNat n.toNat) (lgG (m + n.toNat) (widF f a.toNat n.toNat)) (m + n.toNat) (m + n.toNat)) (layA (widF f a.toNat n.toNat) (lgG (m + n.toNat) (widF f a.toNat n.toNat)) (m + n.toNat) (m + n.toNat)).length⟩]) (orc := [false, false, false, false]) (fls := [[], [true], [true]]) (l := [(pre (propB (∃ n_1 g, n_1 ≤ 1000000000 ∧ isInts (ntE (layN (widF f a.toNat n.toNat) (lgG (m + n.toNat) (widF f a.toNat n.toNat)) (m + n.toNat) (m + n.toNat))) n_1 g ∧ isInts (ntE (layN (widF f a.toNat n.toNat) (lgG (m + n.toNat) (widF f a.toNat n.toNat)) (m + n.toNat) (m + n.toNat))) n_1 g)), true), ((((layA (widF f a.toNat n.toNat) (lgG (m + n.toNat) (widF f a.toNat n.toNat)) (m + n.toNat) (m + n.toNat)).length : Nat) : Int) != (((layA (widF f a.toNat n.toNat) (lgG (m + n.toNat) (widF f a.toNat n.toNat)) (m + n.toNat) (m + n.toNat)).length : Nat) : Int), false), (false, false), (pre (propB (isItE (owE (m + n.toNat) (widF f a.toNat n.toNat)) (m + n.toNat) (widF f a.toNat n.toNat) ∧ (m + n.toNat) ≤ 1000000 ∧ mayU (m + n.toNat) (widF f a.toNat n.toNat) = true ∧ fstN (badJ (widF f a.toNat n.toNat) (lgG (m + n.toNat) (widF f a.toNat n.toNat)) (m + n.toNat)) (m + n.toNat) = none)), true), (!mayU (m + n.toNat) (widF f a.toNat n.toNat), false), (pre (propB (isItE (owE (m + n.toNat) (widF f a.toNat n.toNat)) (m + n.toNat) (widF f a.toNat n.toNat) ∧ (m + n.toNat) ≤ 1000000000)), true), (pre (propB (isItE (owE (m + n.toNat) (widF f a.toNat n.toNat)) (m + n.toNat) (widF f a.toNat n.toNat) ∧ (m + n.toNat) ≤ 1000000 ∧ (∀ (j : Nat), j < (m + n.toNat) → wfIt (widF f a.toNat n.toNat j)) ∧ mayU (m + n.toNat) (widF f a.toNat n.toNat) = true ∧ fstN (badJ (widF f a.toNat n.toNat) (lgG (m + n.toNat) (widF f a.toNat n.toNat)) (m + n.toNat)) (m + n.toNat) = none)), true), (false, false), (pre (propB (isItE (itE m f) m f ∧ smallU m a n)), true)]) (tr := [⟨.loop rlyC, rlyS (layA (widF f a.toNat n.toNat) (lgG (m + n.toNat) (widF f a.toNat n.toNat)) (m + n.toNat) (m + n.toNat)) 0, some (some 0), rlyS (layA (widF f a.toNat n.toNat) (lgG (m + n.toNat) (widF f a.toNat n.toNat)) (m + n.toNat) (m + n.toNat)) (layA (widF f a.toNat n.toNat) (lgG (m + n.toNat) (widF f a.toNat n.toNat)) (m + n.toNat) (m + n.toNat)).length⟩]) (by kernel_rfl) (all_cons (propB_ok.mpr ⟨_, _, by omega, isInts_nt _, isInts_nt _⟩) <| all_cons (ne_self10 _) <| all_cons rfl <| all_cons (propB_ok.mpr ⟨iN, by omega, hy, hb⟩) <| all_cons (by rw [hy]; rfl) <| all_cons (propB_ok.mpr ⟨iN, by omega⟩) <| all_cons (propB_ok.mpr ⟨iN, by omega, hwN, hy, hb⟩) <| all_cons rfl <| all_cons (propB_ok.mpr ⟨iM, hs⟩) all_nil) Try.func3 w vals (GlobOk.none w) ha fun t ht => ?_
  obtain rfl := List.mem_singleton.mp ht
  exact sem_loop (fun j => rlyS (layA (widF f a.toNat n.toNat) (lgG (m + n.toNat) (widF f a.toNat n.toNat)) (m + n.toNat) (m + n.toNat)) j) (layA (widF f a.toNat n.toNat) (lgG (m + n.toNat) (widF f a.toNat n.toNat)) (m + n.toNat) (m + n.toNat)).length (by simp) (fun j hj => rly_0 hS m f (m + n.toNat) (widF f a.toNat n.toNat) (layA (widF f a.toNat n.toNat) (lgG (m + n.toNat) (widF f a.toNat n.toNat)) (m + n.toNat) (m + n.toNat)) j hj (by omega) w) (rly_1 hS m f (m + n.toNat) (widF f a.toNat n.toNat) (layA (widF f a.toNat n.toNat) (lgG (m + n.toNat) (widF f a.toNat n.toNat)) (m + n.toNat) (m + n.toNat)) w)
/-- As the frame wants it. -/
theorem relaxLays_fr (hS : SaysLay) (m : Nat) (f : Nat → It) (v : Value) (a n : Int) (w : World) (hw : ∀ j, j < m → wfIt (f j)) (hu : InB w.heap.size w (itE m f) v) : Ret Try.prog 3 #[v, .int .i64 a, .int .i64 n] (.bool true) w :=
  LRet.plain (relaxLays_walk hS m f a n hw w [v, .int .i64 a, .int .i64 n] ⟨hu, rfl, rfl, trivial⟩)
end Go.Proofs.Ytohefnfombkkbaa
