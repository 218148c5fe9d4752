/- Order of package rel. -/
import Derived.Test.YthmmmbfjhfocfaaDoorPur14
import Derived.Test.YthmmmbfjhfocfaaDoorLea14
import Derived.Deep.OwnRows
import Derived.Maps.AppendAt
namespace Go.Proofs.YthmmmbfjhfocfaaDoor
open Go Go.RowKit
set_option linter.unusedVariables false
set_option linter.unusedSimpArgs false

theorem intInfo : (Tryd.prog.info? 3).map (fun i => (i.zero, i.size, i.bytes)) = some (some (.int .i64 0), 1, 8) := by kernel_rfl
/-- A set's block. -/
def setV (f : Nat → Bool) : Nat → Value := fun i => u64V (wd f i)
theorem setV_in (f : Nat → Bool) : SetIn (setV f) 0 f := fun i hi => by unfold setV; rw [Nat.zero_add]
theorem setV_put (f g : Nat → Bool) : ∀ i, i < 8 → setF (setV f) 0 g i = setV g i := fun i hi => by unfold setF setV; rw [if_pos ⟨by omega, by omega⟩, Nat.sub_zero]
/-- A block of integers. -/
def intV (x : Nat → Int) : Nat → Value := fun i => .int .i64 (x i)
theorem intV_set (x : Nat → Int) (b : Nat) (y : Int) : updF (intV x) b (.int .i64 y) = intV (updF x b y) := by
  funext i
  unfold intV updF
  split <;> rfl
theorem own_keep {w w' : World} {base size k : Nat} {e : TypeId} {v : Value} {xs : List Value} (h : w.ownsRow base e size v k xs) (hk : ∀ g, base ≤ g → g < w.heap.size → w'.heap[g]? = w.heap[g]?) : w'.ownsRow base e size v k xs := by
  refine ⟨h.1, ?_⟩
  rcases h.2 with h2 | ⟨g, cap, cur, hv, hg, hh, r⟩
  · exact .inl h2
  · exact .inr ⟨g, cap, cur, hv, hg, (hk g hg (Array.getElem?_eq_some_iff.1 hh).1).trans hh, r⟩
theorem own_base {w : World} {base base' size k : Nat} {e : TypeId} {v : Value} {xs : List Value} (h : w.ownsRow base e size v k xs) (hb : base' ≤ base) : w.ownsRow base' e size v k xs := by
  refine ⟨h.1, ?_⟩
  rcases h.2 with h2 | ⟨g, cap, cur, hv, hg, r⟩
  · exact .inl h2
  · exact .inr ⟨g, cap, cur, hv, Nat.le_trans hb hg, r⟩
/-- What Order makes. -/
def OrdR (w : World) (n : Nat) (m : Nat → Nat → Bool) : Ending → World → Prop := fun e w' => ∃ v, e = .returned (.tuple #[v, .bool (decide ((gr n m n).length = n))]) ∧
  w'.ownsRow w.heap.size 3 1 v (if (gr n m n).length = n then (gr n m n).length else 0) (if (gr n m n).length = n then (gr n m n).map (fun (x : Nat) => Value.int .i64 x) else []) ∧ Below w.heap.size w w'
theorem made_int (n : Nat) : ∀ i, i < n → (madeCells #[Value.int .i64 0] n)[i]? = some (.int .i64 0) := fun i hi => by
  have h := toList_madeCells_one (.int .i64 0) n
  rw [← Array.getElem?_toList, h, List.getElem?_replicate, if_pos hi]
/-- What is ready at first, below j. -/
def rI (n : Nat) (m : Nat → Nat → Bool) (j : Nat) : Nat → Bool := fun e => decide (e < j) && decide (deg n m [] e = 0)
theorem rI_zero (n : Nat) (m : Nat → Nat → Bool) : rI n m 0 = fun _ => false := by funext e; unfold rI; simp
theorem rI_yes {n : Nat} {m : Nat → Nat → Bool} {j : Nat} (h : deg n m [] j = 0) : (fun x => x == j || rI n m j x) = rI n m (j + 1) := by
  funext x
  unfold rI
  by_cases hx : x = j
  · subst hx; rw [decide_eq_true h]; simp
  · rw [show (x == j) = false by simpa using hx]
    by_cases h2 : x < j
    · rw [decide_eq_true h2, decide_eq_true (show x < j + 1 by omega)]; rfl
    · rw [decide_eq_false h2, decide_eq_false (show ¬ x < j + 1 by omega)]; rfl
theorem rI_no {n : Nat} {m : Nat → Nat → Bool} {j : Nat} (h : ¬ deg n m [] j = 0) : rI n m j = rI n m (j + 1) := by
  funext x
  unfold rI
  by_cases hx : x = j
  · subst hx; rw [decide_eq_false h]; simp
  · by_cases h2 : x < j
    · rw [decide_eq_true h2, decide_eq_true (show x < j + 1 by omega)]
    · rw [decide_eq_false h2, decide_eq_false (show ¬ x < j + 1 by omega)]
theorem rI_all (n : Nat) (m : Nat → Nat → Bool) : rI n m n = rdF n m [] := by
  funext x
  unfold rI rdF inL
  simp
theorem setF_setV {w : World} {b : Nat} {t : TypeId} {f g g' : Nat → Bool} (h : Hb w b t 8 (setF (setV f) 0 g)) (hg : g = g') : Hb w b t 8 (setV g') := by
  subst hg; exact h.congr (setV_put f g)
/-- What may turn in Order's loops. -/
def ok3 (O R : Nat) : Nat → TypeId → Prop := fun k t => k = O ∨ k = R ∨ (R < k ∧ t = 3)
theorem Kc.mono {ok ok' : Nat → TypeId → Prop} {A B : World} (h : Kc ok A B) (hi : ∀ k t, ok k t → ok' k t) : Kc ok' A B := ⟨h.size, fun k cs t fz h1 h2 => h.cells k cs t fz h1 fun hc => h2 (hi _ _ hc), h.objs⟩
/-- What stays in Order's loops. -/
structure OX (O : Nat) (p : Option Addr) (b0 b1 n : Nat) (m : Nat → Nat → Bool) (Ds : List Nat) (W : World) : Prop where
  ob : Hb W (O + 1) 46 1 (fun _ => .slice (some ⟨O, 0, none⟩) n n)
  rel : RelP W p b0 b1 n m
  g : TzOk W
  ds : ∀ D, D ∈ Ds → W.heap[D]? = some (.deferred (some []))
theorem OX.kc {O R : Nat} {p : Option Addr} {b0 b1 n : Nat} {m : Nat → Nat → Bool} {Ds : List Nat} {W W' : World} (h : OX O p b0 b1 n m Ds W) (hR : O + 1 < R) (hlp : p ≠ none → b0 < O ∧ b1 < O) (h0 : 0 < O) (hk : Kc (ok3 O R) W W') : OX O p b0 b1 n m Ds W' :=
  ⟨h.ob.kc hk (by unfold ok3; omega), h.rel.kc hk (fun hp => by have := hlp hp; unfold ok3; omega), h.g.kc hk (fun t => by unfold ok3; omega), fun D hD => hk.objs D _ (h.ds D hD) rfl⟩
theorem OX.own {O B : Nat} {p : Option Addr} {b0 b1 n : Nat} {m : Nat → Nat → Bool} {Ds : List Nat} {W W' : World} {row : Option Nat} (h : OX O p b0 b1 n m Ds W) (hB : ∀ D, D ∈ Ds → D < B) (hg : W.grownBy W' row) (hr : ∀ r, row = some r → B ≤ r ∧ ∃ o : Obj, W.heap[r]? = some o ∧ o.isCells = false) : OX O p b0 b1 n m Ds W' :=
  ⟨ownFrom_hb B _ _ _ _ () W W' row h.ob hg hr, own_relP h.rel hg hr, own_tz h.g hg hr, fun D hD => ownFrom_obj (hB D hD) _ () W W' row (h.ds D hD) hg hr⟩
theorem own_kept {w w' : World} {row : Option Nat} {B base size k : Nat} {e : TypeId} {v : Value} {xs : List Value} (h : w.ownsRow base e size v k xs) (hg : w.grownBy w' row) (hr : ∀ r, row = some r → B ≤ r ∧ ∃ o : Obj, w.heap[r]? = some o ∧ o.isCells = false) : w'.ownsRow base e size v k xs := by
  refine ⟨h.1, ?_⟩
  rcases h.2 with h2 | ⟨g, cap, cur, hv, hb, hh, r⟩
  · exact .inl h2
  · refine .inr ⟨g, cap, cur, hv, hb, (hg.block g (Array.getElem?_eq_some_iff.1 hh).1 fun e => ?_).trans hh, r⟩
    obtain ⟨_, o, ho, hc⟩ := hr g e.symm
    rw [hh] at ho; cases ho; cases hc
theorem own_form {w : World} {base size k : Nat} {e : TypeId} {v : Value} {xs : List Value} (h : w.ownsRow base e size v k xs) : ∃ a cap, v = .slice a k cap := by
  rcases h.2 with ⟨rfl, rfl⟩ | ⟨g, cap, cur, rfl, _⟩
  · exact ⟨none, 0, rfl⟩
  · exact ⟨_, cap, rfl⟩
/-- A slice's length. -/
def slLen : Value → Nat
  | .slice _ l _ => l
  | _ => 0
theorem own_len {w : World} {base size k : Nat} {e : TypeId} {v : Value} {xs : List Value} (h : w.ownsRow base e size v k xs) : slLen v = k := by
  rcases h.2 with ⟨rfl, rfl⟩ | ⟨g, cap, cur, rfl, _⟩ <;> rfl
def intsV (L : List Nat) : List Value := L.map fun (x : Nat) => Value.int .i64 x
theorem ownsRow0 (w : World) (b : Nat) : w.ownsRow b 3 1 (.slice none 0 0) 0 (intsV []) := World.ownsRow_nil _ _ _ _
theorem leZ_some {f : Nat → Bool} {e : Nat} (h : nx f = some e) : leZ f = ((e : Int), true) := by
  unfold nx nxL at h
  unfold leZ
  cases hl : els f with
  | nil => rw [hl] at h; cases h
  | cons x l => rw [hl] at h; cases h; rfl
theorem leZ_none {f : Nat → Bool} (h : nx f = none) : leZ f = (0, false) := by
  unfold nx nxL at h
  unfold leZ
  cases hl : els f with
  | nil => rfl
  | cons x l => rw [hl] at h; cases h
set_option maxRecDepth 100000 in
set_option maxHeartbeats 4000000 in
theorem order_ret {w : World} {p : Option Addr} {b0 b1 n : Nat} {m : Nat → Nat → Bool} (h : RelP w p b0 b1 n m) (hG : TzOk w) : Calls Tryd.prog 27 #[.pointer p] w (OrdR w n m) := by
  have hn5 := h.n512
  have hmk := fun W => run_make_row' (P := Tryd.prog) 46 3 (.int .i64 0) 8 Tryd.underlying46 intInfo rfl .i64 .i64 n (by omega) (by omega) W
  obtain ⟨i0, hi0, hz0, hz1, hz2⟩ := info_parts intInfo
  have HL := hid (len_ret h.v)
  have HM := hid (fun w => callsIn_wide.1 (pairs_make p w Fence.wide 0 trivial rfl))
  have hG0 := hG.lt
  have hlp := h.lt
  have Hin := hid h.inn
  have hlen : (prs n m).length ≤ 262144 := by have := off_le m n; rw [prs_len]; omega
  have Hlen := hid hlen
  have hb1 : Below w.heap.size w (((w.alloc (.cells (madeCells #[.int .i64 0] n) 3)).alloc (.cells #[.slice (some ⟨w.heap.size, 0, none⟩) n n] 46)).alloc (.cells #[.pointer p] 25)) := (((Below.refl _ w).alloc (Nat.le_refl _) _).alloc (by simp) _).alloc (by simp; omega) _
  have hO : Hb (((w.alloc (.cells (madeCells #[.int .i64 0] n) 3)).alloc (.cells #[.slice (some ⟨w.heap.size, 0, none⟩) n n] 46)).alloc (.cells #[.pointer p] 25)) w.heap.size 3 n (intV fun b => (cP [] b : Nat)) := by
    have := Hb.new w (madeCells #[.int .i64 0] n) 3 (f := intV fun b => (cP [] b : Nat)) (fun i hi => by rw [size_madeCells] at hi; exact made_int n i hi)
    rw [size_madeCells] at this
    exact (this.alloc _).alloc _
  have hOB : Hb (((w.alloc (.cells (madeCells #[.int .i64 0] n) 3)).alloc (.cells #[.slice (some ⟨w.heap.size, 0, none⟩) n n] 46)).alloc (.cells #[.pointer p] 25)) (w.heap.size + 1) 46 1 (fun _ => .slice (some ⟨w.heap.size, 0, none⟩) n n) := by
    have := (Hb.new (w.alloc (.cells (madeCells #[.int .i64 0] n) 3)) #[.slice (some ⟨w.heap.size, 0, none⟩) n n] 46 (one_at _)).alloc (.cells #[.pointer p] 25)
    rwa [World.size_alloc] at this
  have hPB : Hb (((w.alloc (.cells (madeCells #[.int .i64 0] n) 3)).alloc (.cells #[.slice (some ⟨w.heap.size, 0, none⟩) n n] 46)).alloc (.cells #[.pointer p] 25)) (w.heap.size + 1 + 1) 25 1 (fun _ => .pointer p) := by
    have := Hb.new ((w.alloc (.cells (madeCells #[.int .i64 0] n) 3)).alloc (.cells #[.slice (some ⟨w.heap.size, 0, none⟩) n n] 46)) #[.pointer p] 25 (one_at _)
    rwa [World.size_alloc, World.size_alloc] at this
  have hr1 := h.below hb1
  have hg1 := hG.below hb1
  have hs1 : (((w.alloc (.cells (madeCells #[.int .i64 0] n) 3)).alloc (.cells #[.slice (some ⟨w.heap.size, 0, none⟩) n n] 46)).alloc (.cells #[.pointer p] 25)).heap.size = w.heap.size + 3 := by simp
  have HB1 := hid hb1
  have HO := hid hO
  have HOB := hid hOB
  have HPB := hid hPB
  have HR1 := hid hr1
  have HG1 := hid hg1
  have HS1 := hid hs1
  clear h hG hlen hb1 hO hOB hPB hr1 hg1 hs1
  refine (callsIn_wide (n := 9)).1 ?_
  refine callsIn_of_wp_marks Tryd.func27 rfl trivial ?_ rfl
  simp only [Tryd.ntmps27, List.size_toArray, List.length_cons, List.length_nil, Nat.reduceAdd, Nat.reduceSub, Array.replicate_succ, Array.replicate_zero, List.push_toArray, List.append_toArray, List.nil_append, List.cons_append]
  gi_wp2_with (first | (refine ⟨trivial, ?_⟩; refine (callsIn_wide.2 HL.out).mono ?_; rintro e' w ⟨rfl, rfl⟩) | (refine ⟨trivial, ?_⟩; refine (callsIn_wide.2 (HM.out _)).mono ?_; rintro e' w3 ⟨rfl, rfl⟩))
  have hO1 := HO.out
  have hOB1 := HOB.out
  have hPB1 := HPB.out
  have hr1 := HR1.out
  have hg1 := HG1.out
  have hs1 := HS1.out
  have hb1 := HB1.out
  generalize (((w.alloc (.cells (madeCells #[.int .i64 0] n) 3)).alloc (.cells #[.slice (some ⟨w.heap.size, 0, none⟩) n n] 46)).alloc (.cells #[.pointer p] 25)) = w1 at hO1 hOB1 hPB1 hr1 hg1 hs1 hb1 ⊢
  clear HO HOB HPB HR1 HG1 HS1 HB1 hmk
  refine range_outer (pairs1_tells p b0 b1 n m (fun k _ => k = w.heap.size) (w.heap.size + 1 + 1) w1 hr1 hPB1 hg1 (by omega) (fun hp => by have := hlp hp; omega) (fun t => by omega) (fun k hk => ⟨by omega, by omega, by omega⟩))
    rfl (enters_of Tryd.func42 (by kernel_rfl) rfl) (fun k x hk => by obtain ⟨e, he, rfl⟩ := List.mem_map.1 (List.mem_of_getElem? hk); rfl)
    (fun k W => (Hb W w.heap.size 3 n (intV fun b => (cP ((prs n m).take k) b : Nat)) ∧ Hb W (w.heap.size + 1) 46 1 (fun _ => .slice (some ⟨w.heap.size, 0, none⟩) n n) ∧ RelP W p b0 b1 n m ∧ TzOk W) ∧ Below w.heap.size w W) (fun _ _ _ => False)
    (OwnFrom.and (fun s W W' row hs hg hr => ⟨ownFrom_hb w1.heap.size _ _ _ _ () W W' row hs.1 hg hr, ownFrom_hb w1.heap.size _ _ _ _ () W W' row hs.2.1 hg hr, own_relP hs.2.2.1 hg hr, own_tz hs.2.2.2 hg hr⟩) (ownFrom_below (Nat.le_refl _) (by omega))) (fun c s A A' row hs _ _ => hs)
    ⟨⟨by rw [List.take_zero]; exact hO1, hOB1, hr1, hg1⟩, hb1⟩ (fun k => { tmps := (.pointer p :: undef :: .slice none 0 0 :: .bool false :: .pointer (some ⟨w.heap.size + 1, 0, none⟩) :: undef :: .int .i64 ((eP n m k).2 : Nat) :: undef :: undef :: undef :: undef :: undef :: undef :: undef :: .pointer p :: .int .i64 n :: .slice (some ⟨w.heap.size, 0, none⟩) n n :: .pointer p :: .func (.func 42) #[] #[.pointer (some ⟨w.heap.size + 1 + 1, 0, none⟩)] :: .int .i64 ((eP n m k).1 : Nat) :: .int .i64 ((eP n m k).2 : Nat) :: undef :: undef :: undef :: undef :: undef :: undef :: undef :: undef :: undef :: undef :: undef :: undef :: undef :: undef :: undef :: undef :: undef :: undef :: undef :: undef :: undef :: undef :: undef :: undef :: undef :: undef :: undef :: undef :: undef :: undef :: undef :: undef :: undef :: undef :: undef :: undef :: undef :: undef :: undef :: undef :: undef :: undef :: undef :: undef :: undef :: undef :: undef :: undef :: undef :: undef :: undef :: undef :: undef :: undef :: undef :: undef :: undef :: undef :: undef :: undef :: [] : List Value).toArray, defers := [] }) ?assign ?body ?done ?stop
  case assign =>
    intro l' k x m' W' K hk hK
    obtain ⟨e, he, rfl⟩ : ∃ e : Nat × Nat, (prs n m)[k]? = some e ∧ x = #[.int .i64 e.1, .int .i64 e.2] := by
      rw [List.getElem?_map] at hk
      obtain ⟨e, he, h2⟩ := Option.map_eq_some_iff.1 hk
      exact ⟨e, he, h2.symm⟩
    rw [eP_of he] at hK
    have hsem := @Oper.semAt_some
    gi_wp2
    exact hK
  case body =>
    rintro l' k x m' W' hk hl hr ⟨⟨hO', hOB', hr', hg'⟩, hB⟩
    obtain ⟨e, he⟩ : ∃ e : Nat × Nat, (prs n m)[k]? = some e := by
      rw [List.getElem?_map] at hk
      obtain ⟨e, he, h2⟩ := Option.map_eq_some_iff.1 hk
      exact ⟨e, he⟩
    have htk : (prs n m).take (k + 1) = (prs n m).take k ++ [e] := by
      obtain ⟨h1, h2⟩ := List.getElem?_eq_some_iff.1 he
      rw [List.take_succ_eq_append_getElem h1, h2]
    have hcl := cP_le ((prs n m).take k) e.2
    have hcl2 : ((prs n m).take k).length ≤ 262144 := Nat.le_trans (List.length_take_le' _ _) Hlen.out
    have hst := cP_snoc ((prs n m).take k) e
    rw [← htk] at hst
    rw [eP_of he]
    obtain ⟨ea, eb⟩ := e
    obtain ⟨hm, hea⟩ := prs_mem (List.mem_of_getElem? he)
    have heb := (Hin.out _ _ hm).2
    have c1 := hOB'.cell (i := 0) (by omega)
    have c2 : W'.cell? ⟨w.heap.size, eb, none⟩ = some (.int .i64 ((cP ((prs n m).take k) eb : Nat) : Int)) := hO'.cell (i := eb) heb
    have f2 := hO'.free eb
    have hset := hO'.set (i := eb) (.int .i64 ((cP ((prs n m).take k) eb : Nat) + 1))
    rw [intV_set, hst] at hset
    have Hset := hid hset
    have HBO := hid (hOB'.other (a := ⟨w.heap.size, eb, none⟩) (by simp) (.int .i64 ((cP ((prs n m).take k) eb : Nat) + 1)))
    have HBR := hid (hr'.fr ((Fr.refl [w.heap.size] W').set (p := ⟨w.heap.size, eb, none⟩) (.inr (by simp)) (.int .i64 ((cP ((prs n m).take k) eb : Nat) + 1))) (fun hp => by have := hlp hp; simp; omega))
    have HBG := hid (hg'.fr ((Fr.refl [w.heap.size] W').set (p := ⟨w.heap.size, eb, none⟩) (.inr (by simp)) (.int .i64 ((cP ((prs n m).take k) eb : Nat) + 1))) (by simp; omega))
    obtain ⟨cs, fz, hobj⟩ := hO'.obj
    have HK := hid ((Kc.refl (fun k _ => k = w.heap.size) W').set (p := ⟨w.heap.size, eb, none⟩) (.inl ⟨cs, _, fz, hobj, rfl⟩) (.int .i64 ((cP ((prs n m).take k) eb : Nat) + 1)))
    have HBB := hid (hB.setCell (p := ⟨w.heap.size, eb, none⟩) (Nat.le_refl _) (.int .i64 ((cP ((prs n m).take k) eb : Nat) + 1)))
    generalize cP ((prs n m).take k) eb = c at hcl c2 Hset HBO HBR HBG HK HBB
    clear hset hst hO' hr' hg' he hk hobj
    have hsem := @Oper.semAt_some
    gi_wp2
    exact ⟨HK.out, ⟨Hset.out, HBO.out, HBR.out, HBG.out⟩, HBB.out⟩
  case done =>
    rintro D0 W' hD0 ⟨⟨hO', hOB', hr', hg'⟩, hB⟩ hd0
    rw [List.length_map, List.take_of_length_le (Nat.le_refl _)] at hO'
    have hk8 : Below W'.heap.size W' (W'.alloc (.cells #[.int .u64 0, .int .u64 0, .int .u64 0, .int .u64 0, .int .u64 0, .int .u64 0, .int .u64 0, .int .u64 0] 55)) := (Below.refl _ W').alloc (Nat.le_refl _) _
    have hR8 : Hb (W'.alloc (.cells #[.int .u64 0, .int .u64 0, .int .u64 0, .int .u64 0, .int .u64 0, .int .u64 0, .int .u64 0, .int .u64 0] 55)) W'.heap.size 55 8 (setV fun _ => false) := Hb.new W' _ 55 (fun i hi => by
      have hi : i < 8 := hi
      unfold setV
      rw [wd_zero]
      have : i = 0 ∨ i = 1 ∨ i = 2 ∨ i = 3 ∨ i = 4 ∨ i = 5 ∨ i = 6 ∨ i = 7 := by omega
      rcases this with rfl | rfl | rfl | rfl | rfl | rfl | rfl | rfl <;> rfl)
    have hO8 := hO'.below hk8 hO'.lt
    have hOB8 := hOB'.below hk8 hOB'.lt
    have hr8 := hr'.below hk8
    have hg8 := hg'.below hk8
    have hB8 : Below w.heap.size w (W'.alloc (.cells #[.int .u64 0, .int .u64 0, .int .u64 0, .int .u64 0, .int .u64 0, .int .u64 0, .int .u64 0, .int .u64 0] 55)) := hB.alloc hB.size _
    have hd8 : (W'.alloc (.cells #[.int .u64 0, .int .u64 0, .int .u64 0, .int .u64 0, .int .u64 0, .int .u64 0, .int .u64 0, .int .u64 0] 55)).heap[D0]? = some (.deferred (some [])) := (hk8.block D0 (Array.getElem?_eq_some_iff.1 hd0).1).trans hd0
    have hs8 : (W'.alloc (.cells #[.int .u64 0, .int .u64 0, .int .u64 0, .int .u64 0, .int .u64 0, .int .u64 0, .int .u64 0, .int .u64 0] 55)).heap.size = W'.heap.size + 1 := by simp
    have hDR : D0 < W'.heap.size := (Array.getElem?_eq_some_iff.1 hd0).1
    have hRw := hB.size
    have hR2 : w.heap.size + 1 < W'.heap.size := hOB'.lt
    have c1 := hOB8.cell (i := 0) (by omega)
    have HH := hid (And.intro hR8 (And.intro hO8 (And.intro hOB8 (And.intro hr8 (And.intro hg8 (And.intro hB8 (And.intro hd8 hs8)))))))
    clear hk8 hR8 hO8 hOB8 hr8 hg8 hB8 hd8 hs8 hO' hOB' hr' hg' hB hd0
    gi_wp2
    obtain ⟨hR8, hO8, hOB8, hr8, hg8, hB8, hd8, hs8⟩ := HH.out
    clear HH c1
    generalize (W'.alloc (.cells #[.int .u64 0, .int .u64 0, .int .u64 0, .int .u64 0, .int .u64 0, .int .u64 0, .int .u64 0, .int .u64 0] 55)) = w8 at hR8 hO8 hOB8 hr8 hg8 hB8 hd8 hs8 ⊢
    generalize W'.heap.size = R at hR8 hs8 hDR hRw hR2 ⊢
    have hO8' : Hb w8 w.heap.size 3 n (intV fun b => (deg n m [] b : Nat)) := hO8.congr fun i hi => by show Value.int .i64 ((cP (prs n m) i : Nat) : Int) = .int .i64 ((deg n m [] i : Nat) : Int); rw [cP_all m (by omega) n]
    clear hO8
    gi_loopw [29] (fun v wr => ∃ j : Nat, j ≤ n ∧ v = .int .i64 j ∧ Hb wr R 55 8 (setV (rI n m j)) ∧ Fr [R] w8 wr) (fun v _ => n - (intOf v).toNat)
    case atStart => exact ⟨0, Nat.zero_le _, rfl, by rw [rI_zero]; exact hR8, Fr.refl _ _⟩
    case round =>
      obtain ⟨j, hj, rfl, hR, hF⟩ := hrel
      have hOj := hO8'.fr hF (by simp; omega)
      by_cases hlt : j < n
      · have c2 : wr.cell? ⟨w.heap.size, j, none⟩ = some (.int .i64 ((deg n m [] j : Nat) : Int)) := hOj.cell hlt
        have hdl := deg_le n m [] j
        have hj' : ((j : Int)).toNat = j := by omega
        by_cases hz : deg n m [] j = 0
        · have hst := rI_yes hz
          rw [hz] at c2
          have HA := hid (sadd hR (setV_in _) (by omega) (e := j) (by omega))
          have HF := hid hF
          clear hR hF hOj
          gi_wp2_with (refine ⟨trivial, ?_⟩; refine (callsIn_wide.2 HA.out).mono ?_; rintro e' w9 ⟨rfl, h9, f9⟩; refine Hid.out ?_)
          have h9' := setF_setV h9 hst
          have f9' := HF.out.trans f9
          clear h9 f9 hst
          refine hid ?_
          gi_wp2
          go_roundw
          case rel => exact ⟨j + 1, by omega, by go_num, h9', f9'⟩
          case measure => simp [intOf]; omega
        · have hst := rI_no hz
          rw [hst] at hR
          have hz' : ¬ ((deg n m [] j : Nat) : Int) = 0 := by omega
          clear hst hOj
          gi_wp2
          go_roundw
          case rel => exact ⟨j + 1, by omega, by go_num, hR, hF⟩
          case measure => simp [intOf]; omega
      · obtain rfl : n = j := by omega
        rw [rI_all] at hR
        have hOB9 := hOB8.fr hF (by simp; omega)
        have hr9 := hr8.fr hF (fun hp => by have := hlp hp; simp; omega)
        have hg9 := hg8.fr hF (by simp; omega)
        have hB9 := Fr.below hB8 hF hB8.size (by simp; omega)
        have hd9 : wr.heap[D0]? = some (.deferred (some [])) := (hF.block D0 (by omega) (by simp; omega)).trans hd8
        have hs9 : R < wr.heap.size := by have := hF.size; omega
        have HLe := hid (least_ret hR (setV_in _) (by omega) hg9)
        have HH := hid (And.intro hR (And.intro hOj (And.intro hOB9 (And.intro hr9 (And.intro hg9 (And.intro hB9 hd9))))))
        clear hR hF hOj hOB9 hr9 hg9 hB9 hd9 hR8 hO8' hOB8 hr8 hg8 hB8 hd8 hs8
        gi_wp2_with (refine ⟨trivial, ?_⟩; refine (callsIn_wide.2 HLe.out).mono ?_; rintro e' w9 ⟨rfl, hb9⟩; refine Hid.out ?_)
        refine hid ?_
        gi_wp2
        obtain ⟨hR, hOj, hOB9, hr9, hg9, hB9, hd9⟩ := HH.out
        refine wpIn_loop (fun a' w' => ∃ (j : Nat) (Ds : List Nat) (v : Value) (u43 u44 u45 u46 u47 u48 u49 u50 u51 u52 u53 u54 u55 u56 u57 u58 u59 u60 : Value), j ≤ n ∧ (gr n m j).length = j ∧ OX w.heap.size p b0 b1 n m Ds w' ∧ Hb w' w.heap.size 3 n (intV fun b => (deg n m (gr n m j) b : Nat)) ∧ Hb w' R 55 8 (setV (rdF n m (gr n m j))) ∧ w'.ownsRow (R + 1) 3 1 v j (intsV (gr n m j)) ∧ Below w.heap.size w w' ∧ Ds.Nodup ∧ (∀ D, D ∈ Ds → w.heap.size ≤ D) ∧ a' = { tmps := (.pointer p :: undef :: .slice none 0 0 :: .bool false :: .pointer (some ⟨w.heap.size + 1, 0, none⟩) :: undef :: undef :: .pointer (some ⟨R, 0, none⟩) :: u8 :: u9 :: v :: .int .i64 (leZ (rdF n m (gr n m j))).1 :: .bool (leZ (rdF n m (gr n m j))).2 :: undef :: .pointer p :: .int .i64 n :: .slice (some ⟨w.heap.size, 0, none⟩) n n :: .pointer p :: .func (.func 42) #[] #[.pointer (some ⟨w.heap.size + 1 + 1, 0, none⟩)] :: undef :: undef :: undef :: undef :: undef :: undef :: undef :: undef :: .slice (some ⟨w.heap.size, 0, none⟩) n n :: .int .i64 n :: .int .i64 n :: .bool false :: u31 :: u32 :: u33 :: u34 :: u35 :: u36 :: u37 :: u38 :: .tuple #[.int .i64 (leZ (rdF n m [])).1, .bool (leZ (rdF n m [])).2] :: .tuple #[.int .i64 (leZ (rdF n m [])).1, .bool (leZ (rdF n m [])).2] :: .int .i64 (leZ (rdF n m [])).1 :: .bool (leZ (rdF n m [])).2 :: u43 :: u44 :: u45 :: u46 :: u47 :: u48 :: u49 :: u50 :: u51 :: u52 :: u53 :: u54 :: u55 :: u56 :: u57 :: u58 :: u59 :: u60 :: undef :: undef :: undef :: undef :: undef :: undef :: undef :: undef :: undef :: undef :: undef :: undef :: undef :: undef :: undef :: undef :: undef :: undef :: undef :: undef :: [] : List Value).toArray, defers := marks Ds }) (fun a' _ => n + 1 - slLen (a'.tmps.getD 10 undef)) ?h0 ?round
        case h0 =>
          refine ⟨0, [D0], .slice none 0 0, _, _, _, _, _, _, _, _, _, _, _, _, _, _, _, _, _, _, Nat.zero_le _, rfl, ⟨hOB9.below hb9 hOB9.lt, hr9.below hb9, hg9.below hb9, fun D hD => ?_⟩, hOj.below hb9 hOj.lt, hR.below hb9 hR.lt, ownsRow0 _ _, hB9.trans (hb9.mono hB9.size), by simp, fun D hD => ?_, rfl⟩
          · rw [List.mem_singleton.1 hD]; exact (hb9.block D0 (Array.getElem?_eq_some_iff.1 hd9).1).trans hd9
          · rw [List.mem_singleton.1 hD]; omega
        case round =>
          clear hR hOj hOB9 hr9 hg9 hB9 hd9 hb9 HH
          rintro a' w' ⟨j, Ds, v, u43, u44, u45, u46, u47, u48, u49, u50, u51, u52, u53, u54, u55, u56, u57, u58, u59, u60, hj, hgl, hX, hO, hR, hrow, hB, hnd, hds, rfl⟩
          cases hnx : nx (rdF n m (gr n m j)) with
          | none =>
            rw [leZ_none hnx]
            have hfin : gr n m n = gr n m j := by have := gr_none hnx (n - j); rwa [show j + (n - j) = n by omega] at this
            have hlen : (gr n m n).length = j := by rw [hfin, hgl]
            obtain ⟨va, vc, rfl⟩ := own_form hrow
            have HL' := hid (len_ret hX.rel.v)
            have HH := hid (And.intro hX (And.intro hrow hB))
            clear hX hO hR hrow hB hnx
            by_cases hjn : j < n
            · gi_wp2_with (refine ⟨trivial, ?_⟩; refine (callsIn_wide.2 HL'.out).mono ?_; rintro e' w8' ⟨rfl, rfl⟩)
              refine leave_marks (.tuple #[.slice none 0 0, .bool false]) (fun W => Below w.heap.size w W) (fun _ _ => results_tmp2 (t := 2) (u := 3) rfl _ _ _) (fun W h => ⟨.slice none 0 0, by rw [decide_eq_false (by omega)], by rw [if_neg (by omega), if_neg (by omega)]; exact World.ownsRow_nil _ _ _ _, h⟩) Ds _ hnd (fun D' h => HH.out.1.ds D' h) (fun D' W h hd' hh => hh.trans (belowK_b (w := w) (Nat.le_refl _) W D' _ _ (hds D' h) hd' rfl rfl)) HH.out.2.2
            · obtain rfl : n = j := by omega
              gi_wp2_with (refine ⟨trivial, ?_⟩; refine (callsIn_wide.2 HL'.out).mono ?_; rintro e' w8' ⟨rfl, rfl⟩)
              refine leave_marks (.tuple #[.slice va n vc, .bool true]) (fun W => W.ownsRow (R + 1) 3 1 (.slice va n vc) n (intsV (gr n m n)) ∧ Below w.heap.size w W) (fun _ _ => results_tmp2 (t := 2) (u := 3) rfl _ _ _) (fun W h => ⟨.slice va n vc, by rw [decide_eq_true (by omega)], by rw [if_pos (by omega), if_pos (by omega), hlen]; exact own_base h.1 (by omega), h.2⟩) Ds _ hnd (fun D' h => HH.out.1.ds D' h) (fun D' W h hd' hh => ⟨ownsRow_putObj hh.1 _ hd' rfl, hh.2.trans (belowK_b (w := w) (Nat.le_refl _) W D' _ _ (hds D' h) hd' rfl rfl)⟩) HH.out.2
          | some e =>
            rw [leZ_some hnx]
            obtain ⟨he, he5⟩ := nx_some hnx
            obtain ⟨hen, heL, hed⟩ := rdF_iff.1 he
            obtain ⟨hp, hrc⟩ := hX.rel.nz (by omega)
            subst hp
            obtain ⟨hq0, hq1⟩ := hlp (by simp)
            have hgs := gr_some hnx
            have hGd := gr_gd n m j
            have hlen1 : (gr n m (j + 1)).length = j + 1 := by rw [hgs]; simp [hgl]
            have hj1 : j + 1 ≤ n := by have := (gr_gd n m (j + 1)).len; omega
            have Hgs := hid hgs
            have Hlen1 := hid hlen1
            clear hgs hlen1 hnx
            obtain ⟨L, hLd⟩ : ∃ L, L = gr n m j := ⟨_, rfl⟩
            rw [← hLd] at hgl hO hR hrow he hGd
            have HLd := hid hLd
            clear hLd heL hed
            have HD := hid (sdel hR (setV_in _) (by omega) (e := e) (by omega))
            obtain ⟨csR, fzR, hcR⟩ := hR.obj
            have hsl := own_len hrow
            have HOld := hid (And.intro hX (And.intro hO (And.intro hrow hB)))
            have HcR := hid hcR
            clear hcR
            clear hX hO hR hrow hB hrc
            gi_wp2_with (refine ⟨trivial, ?_⟩; refine (callsIn_wide.2 HD.out).mono ?_; rintro e' w10 ⟨rfl, h10, f10⟩; refine Hid.out ?_)
            obtain ⟨hX, hO, hrow, hB⟩ := HOld.out
            have r10 : Hb w10 R 55 8 (setV (rK n m L e 0)) := setF_setV h10 rK_zero.symm
            have O10 := hO.fr f10 (by simp; omega)
            have k10 : Kc (ok3 w.heap.size R) w' w10 := Kc.of_fr f10 (fun k hk _ => by rw [List.mem_singleton.1 hk]; exact ⟨csR, _, fzR, HcR.out, .inr (.inl rfl)⟩)
            have X10 := hX.kc hR2 hlp hG0 k10
            have row10 := own_keep hrow (fun g hg hlt => f10.block g hlt (by simp; omega))
            have B10 := Fr.below hB f10 hB.size (by simp; omega)
            have hw10 : R < w10.heap.size := r10.lt
            have HS := hid (And.intro r10 (And.intro O10 (And.intro X10 (And.intro row10 B10))))
            clear h10 f10 k10 r10 O10 X10 row10 B10 hX hO hrow hB
            have hjb : j ≤ 512 := by omega
            refine hid ?_
            gi_wp2_with (gi_at_builtin; refine wpListIn_append_own _ rfl _ _ 46 rfl (R + 1) 3 i0 (.int .i64 0) 1 8 Tryd.underlying46 hi0 hz0 hz1 hz2 rfl (by decide) v j (intsV L) rfl (HS.out.2.2.2.1.alloc _) ⟨w10.heap.size, 0, none⟩ 1 1 [.int .i64 e] rfl rfl (cell_one_new _ _ _) (by simp [Value.oneCell']) (by unfold maxLen; omega) (by omega) (by simp; omega) ?_; intro v' w11 hown' hgrow _; refine Hid.out ?_)
            obtain ⟨r10, O10, X10, row10, B10⟩ := HS.out
            have k11 : Kc (fun k t => R < k ∧ t = 3) w10 w11 := ((Kc.refl _ w10).alloc _).trans (Kc.of_grown hgrow fun q hq => by
              obtain ⟨h1, cs, fz, h2⟩ := row_obj (row10.alloc _) q hq
              exact ⟨cs, _, fz, h2, h1, rfl⟩)
            have r11 := r10.kc k11 (by omega)
            have O11 := O10.kc k11 (by omega)
            have X11 := X10.kc hR2 hlp hG0 (k11.mono fun k t h => .inr (.inr h))
            have B11 : Below w.heap.size w w11 := (B10.alloc B10.size _).grown hgrow (by simp; omega) (fun q hq => by
              obtain ⟨h1, _⟩ := row_obj row10 q hq
              omega)
            have row11 : w11.ownsRow (R + 1) 3 1 v' (j + 1) (intsV (L ++ [e])) := by
              have : intsV (L ++ [e]) = intsV L ++ [.int .i64 e] := by unfold intsV; rw [List.map_append]; rfl
              rw [this]; exact hown'
            obtain ⟨_, rc11⟩ := X11.rel.nz (by omega)
            have c11 := rc11.rcell
            have HMA := hid (fun w => callsIn_wide.1 (all_make (some ⟨b1, e * 8, none⟩) w Fence.wide 0 trivial rfl))
            have HT := hid (And.intro r11 (And.intro O11 (And.intro X11 (And.intro row11 (And.intro B11 rc11)))))
            clear r10 O10 X10 row10 B10 k11 r11 O11 X11 B11 row11 rc11 hown' hgrow HS
            refine hid ?_
            gi_wp2_with (refine ⟨trivial, ?_⟩; refine (callsIn_wide.2 (HMA.out _)).mono ?_; rintro e' w12' ⟨rfl, rfl⟩)
            obtain ⟨r11, O11, X11, row11, B11, rc11⟩ := HT.out
            have AB : Hb (w11.alloc (.cells #[.pointer (some ⟨b1, e * 8, none⟩)] 66)) w11.heap.size 66 1 (fun _ => .pointer (some ⟨b1, e * 8, none⟩)) := Hb.new w11 #[.pointer (some ⟨b1, e * 8, none⟩)] 66 (one_at _)
            have k12 := (Kc.refl (ok3 w.heap.size R) w11).alloc (.cells #[.pointer (some ⟨b1, e * 8, none⟩)] 66)
            have r12 := r11.alloc (.cells #[.pointer (some ⟨b1, e * 8, none⟩)] 66)
            have O12 := O11.alloc (.cells #[.pointer (some ⟨b1, e * 8, none⟩)] 66)
            have X12 := X11.kc hR2 hlp hG0 k12
            have row12 := row11.alloc (.cells #[.pointer (some ⟨b1, e * 8, none⟩)] 66)
            have B12 := B11.alloc B11.size (.cells #[.pointer (some ⟨b1, e * 8, none⟩)] 66)
            obtain ⟨_, rc12⟩ := X12.rel.nz (by omega)
            have hw11 : R < w11.heap.size := r11.lt
            have hs12 : (w11.alloc (.cells #[.pointer (some ⟨b1, e * 8, none⟩)] 66)).heap.size = w11.heap.size + 1 := by simp
            clear r11 O11 X11 row11 B11 rc11 k12 HT c11
            generalize w11.alloc (.cells #[.pointer (some ⟨b1, e * 8, none⟩)] 66) = w12 at AB r12 O12 X12 row12 B12 rc12 hs12 ⊢
            rw [← oK_zero (e := e)] at O12
            refine range_outer (all1_tells false (m e) (rowsV m) (fun k _ => k = w.heap.size ∨ k = R) w11.heap.size b1 (e * 8) (n * 8) 55 w12 AB rc12.rows (rc12.row hen) (by omega) X12.g (by omega) (by omega) (fun t => by omega)) rfl (enters_of Tryd.func43 (by kernel_rfl) rfl)
              (fun k x hk => by obtain ⟨y, hy, rfl⟩ := List.mem_map.1 (List.mem_of_getElem? hk); rfl)
              (fun k W => (OX w.heap.size (some ⟨b0, 0, none⟩) b0 b1 n m Ds W ∧ Hb W w.heap.size 3 n (intV (oK n m L e k)) ∧ Hb W R 55 8 (setV (rK n m L e k)) ∧ W.ownsRow (R + 1) 3 1 v' (j + 1) (intsV (L ++ [e]))) ∧ Below w.heap.size w W) (fun _ _ _ => False)
              (OwnFrom.and (fun s W W' row hs hg hr => ⟨hs.1.own (fun D hD => (Array.getElem?_eq_some_iff.1 (X12.ds D hD)).1) hg hr, ownFrom_hb w12.heap.size _ _ _ _ () W W' row hs.2.1 hg hr, ownFrom_hb w12.heap.size _ _ _ _ () W W' row hs.2.2.1 hg hr, own_kept hs.2.2.2 hg hr⟩) (ownFrom_below (Nat.le_refl _) (by omega))) (fun c s A A' row hs _ _ => hs)
              ⟨⟨X12, O12, r12, row12⟩, B12⟩ (fun k => { tmps := (.pointer (some ⟨b0, 0, none⟩) :: undef :: .slice none 0 0 :: .bool false :: .pointer (some ⟨w.heap.size + 1, 0, none⟩) :: undef :: undef :: .pointer (some ⟨R, 0, none⟩) :: u8 :: u9 :: v' :: .int .i64 e :: .bool true :: .int .i64 (eAt (m e) k : Nat) :: .pointer (some ⟨b0, 0, none⟩) :: .int .i64 n :: .slice (some ⟨w.heap.size, 0, none⟩) n n :: .pointer (some ⟨b0, 0, none⟩) :: .func (.func 42) #[] #[.pointer (some ⟨w.heap.size + 1 + 1, 0, none⟩)] :: undef :: undef :: undef :: undef :: undef :: undef :: undef :: undef :: .slice (some ⟨w.heap.size, 0, none⟩) n n :: .int .i64 n :: .int .i64 n :: .bool false :: u31 :: u32 :: u33 :: u34 :: u35 :: u36 :: u37 :: u38 :: .tuple #[.int .i64 (leZ (rdF n m [])).1, .bool (leZ (rdF n m [])).2] :: .tuple #[.int .i64 (leZ (rdF n m [])).1, .bool (leZ (rdF n m [])).2] :: .int .i64 (leZ (rdF n m [])).1 :: .bool (leZ (rdF n m [])).2 :: .bool true :: u44 :: u45 :: u46 :: u47 :: .int .i64 e :: .tuple #[] :: v :: .int .i64 e :: .slice (some ⟨w10.heap.size, 0, none⟩) 1 1 :: v' :: .pointer (some ⟨b0, 0, none⟩) :: .pointer (some ⟨b0, 0, none⟩) :: .pointer (some ⟨b0, 8, none⟩) :: .slice (some ⟨b1, 0, none⟩) n n :: .int .i64 e :: .pointer (some ⟨b1, e * 8, none⟩) :: .func (.func 43) #[] #[.pointer (some ⟨w11.heap.size, 0, none⟩)] :: .int .i64 (eAt (m e) k : Nat) :: undef :: undef :: undef :: undef :: undef :: undef :: undef :: undef :: undef :: undef :: undef :: undef :: undef :: undef :: undef :: undef :: undef :: undef :: undef :: [] : List Value).toArray, defers := [] }) ?assign2 ?body2 ?done2 ?stop2
            case assign2 =>
              intro l' k x m' W' K hk hK
              obtain ⟨y, hy, rfl⟩ : ∃ y : Nat, (els (m e))[k]? = some y ∧ x = #[.int .i64 y] := by
                rw [List.getElem?_map] at hk
                obtain ⟨y, hy, h2⟩ := Option.map_eq_some_iff.1 hk
                exact ⟨y, hy, h2.symm⟩
              rw [eAt_of hy] at hK
              have hsem := @Oper.semAt_some
              gi_wp2
              exact hK
            case body2 =>
              rintro l' k x m' W' hk hl hrl ⟨⟨hX, hO, hr, hrow⟩, hB⟩
              obtain ⟨y, hy⟩ : ∃ y : Nat, (els (m e))[k]? = some y := by
                rw [List.getElem?_map] at hk
                obtain ⟨y, hy, h2⟩ := Option.map_eq_some_iff.1 hk
                exact ⟨y, hy⟩
              rw [eAt_of hy]
              obtain ⟨hmy, hy5⟩ := els_mem hy
              have hyn := (Hin.out _ _ hmy).2
              have hdy := deg_le n m L y
              have hrst := rK_step (k := k) hGd he Hin.out hy
              have hoy : oK n m L e (k + 1) y = oK n m L e k y - 1 := by rw [← oK_step hy, updF_same]
              have hobnd : -1 ≤ oK n m L e k y ∧ oK n m L e k y ≤ 512 := by unfold oK; split <;> omega
              have c1 := hX.ob.cell (i := 0) (by omega)
              have c2 : W'.cell? ⟨w.heap.size, y, none⟩ = some (.int .i64 (oK n m L e k y)) := hO.cell hyn
              have f2 := hO.free y
              have hset := hO.set (i := y) (.int .i64 (oK n m L e k y - 1))
              rw [intV_set, oK_step hy] at hset
              obtain ⟨cs, fz, hobj⟩ := hO.obj
              have hk1 : Kc (fun k _ => k = w.heap.size ∨ k = R) W' (W'.setCell ⟨w.heap.size, y, none⟩ (.int .i64 (oK n m L e k y - 1))) := (Kc.refl _ W').set (p := ⟨w.heap.size, y, none⟩) (.inl ⟨cs, _, fz, hobj, .inl rfl⟩) _
              have hB1 : Below w.heap.size w (W'.setCell ⟨w.heap.size, y, none⟩ (.int .i64 (oK n m L e k y - 1))) := hB.setCell (p := ⟨w.heap.size, y, none⟩) (Nat.le_refl _) _
              have hX1 := hX.kc hR2 hlp hG0 (hk1.mono fun k t h => (show ok3 w.heap.size R k t from h.imp_right .inl))
              have hr1 : Hb (W'.setCell ⟨w.heap.size, y, none⟩ (.int .i64 (oK n m L e k y - 1))) R 55 8 (setV (rK n m L e k)) := hr.other (by show R ≠ w.heap.size; omega) _
              have hrow1 := own_keep (w' := W'.setCell ⟨w.heap.size, y, none⟩ (.int .i64 (oK n m L e k y - 1))) hrow (fun g hg _ => Below.heap_setCell _ _ _ _ (by show g ≠ w.heap.size; omega))
              have c3 : (W'.setCell ⟨w.heap.size, y, none⟩ (.int .i64 (oK n m L e k y - 1))).cell? ⟨w.heap.size, y, none⟩ = some (.int .i64 (oK n m L e k y - 1)) := by rw [hset.cell hyn]; unfold intV; rw [hoy]
              have c4 := hX1.ob.cell (i := 0) (by omega)
              obtain ⟨cR, fR, hRo⟩ := hr1.obj
              have HRo := hid hRo
              have hsem := @Oper.semAt_some
              by_cases hz : oK n m L e (k + 1) y = 0
              · rw [if_pos hz] at hrst
                have hz' : oK n m L e k y - 1 = 0 := by omega
                have HA := hid (sadd hr1 (setV_in _) (by omega) (e := y) hy5)
                rw [hz'] at hset hk1 hB1 hX1 hr1 hrow1 c3 c4 HA HRo
                have HH := hid (And.intro hset (And.intro hk1 (And.intro hB1 (And.intro hX1 hrow1))))
                have Hrst := hid hrst
                have hz2 : oK n m L e k y = 1 := by omega
                rw [hz2] at c2
                clear hset hk1 hB1 hX1 hr1 hrow1 hrst hX hO hr hrow hB hRo hobj hz hz' hz2 hoy hobnd he hk hy c3 c4
                gi_wp2_with (refine ⟨trivial, (fun h => by cases h), ?_⟩; refine (CallsIn.inRound l' (callsIn_wide.2 HA.out)).mono ?_; rintro e' w6 ⟨rfl, h6, f6⟩; refine Hid.out ?_)
                obtain ⟨hset, hk1, hB1, hX1, hrow1⟩ := HH.out
                have r6 := setF_setV h6 Hrst.out.symm
                have k6 : Kc (fun k _ => k = w.heap.size ∨ k = R) (W'.setCell ⟨w.heap.size, y, none⟩ (.int .i64 0)) w6 := Kc.of_fr f6 (fun k hk _ => by rw [List.mem_singleton.1 hk]; exact ⟨cR, _, fR, HRo.out, .inr rfl⟩)
                have X6 := hX1.kc hR2 hlp hG0 (k6.mono fun k t h => (show ok3 w.heap.size R k t from h.imp_right .inl))
                have O6 := hset.fr f6 (by simp; omega)
                have row6 := own_keep hrow1 (fun g hg hlt => f6.block g hlt (by simp; omega))
                have B6 := Fr.below hB1 f6 hB1.size (by simp; omega)
                have HZ := hid (And.intro (hk1.trans k6) (And.intro (And.intro X6 (And.intro O6 (And.intro r6 row6))) B6))
                clear hset hk1 hB1 hX1 hrow1 r6 k6 X6 O6 row6 B6 HH h6 f6
                refine hid ?_
                gi_wp2
                exact HZ.out
              · rw [if_neg hz] at hrst
                rw [← hrst] at hr1
                have hz' : ¬ oK n m L e k y - 1 = 0 := by omega
                have HZ := hid (And.intro hk1 (And.intro (And.intro hX1 (And.intro hset (And.intro hr1 hrow1))) hB1))
                clear hset hk1 hB1 hX1 hr1 hrow1 hrst hX hO hr hrow hB hRo hobj hz hoy he hk hy hdy
                generalize oK n m L e k y = q at hobnd c2 c3 c4 hz' HZ
                gi_wp2
                exact HZ.out
            case done2 =>
              rintro D W' hD ⟨⟨hX, hO, hr, hrow⟩, hB⟩ hd
              rw [List.length_map] at hO hr
              rw [rK_all he hn5] at hr
              have hLe : L ++ [e] = gr n m (j + 1) := by rw [Hgs.out, HLd.out]
              have hO' : Hb W' w.heap.size 3 n (intV fun b => (deg n m (gr n m (j + 1)) b : Nat)) := hO.congr fun i hi => by
                show Value.int .i64 (oK n m L e (els (m e)).length i) = .int .i64 ((deg n m (gr n m (j + 1)) i : Nat) : Int)
                rw [oK_all he (by omega), hLe]
              rw [hLe] at hr hrow
              have hvl := own_len hrow
              have hvl0 : slLen v = j := hsl
              have HLe := hid (least_ret hr (setV_in _) (by omega) hX.g)
              have HH := hid (And.intro hX (And.intro hO' (And.intro hr (And.intro hrow (And.intro hB hd)))))
              clear hX hO hO' hr hrow hB hd hLe
              gi_wp2_with (refine ⟨trivial, ?_⟩; refine (callsIn_wide.2 HLe.out).mono ?_; rintro e' w13 ⟨rfl, hb13⟩; refine Hid.out ?_)
              obtain ⟨hX, hO, hr, hrow, hB, hd⟩ := HH.out
              have hdlt := (Array.getElem?_eq_some_iff.1 hd).1
              have hXn : OX w.heap.size (some ⟨b0, 0, none⟩) b0 b1 n m (D :: Ds) w13 := ⟨hX.ob.below hb13 hX.ob.lt, hX.rel.below hb13, hX.g.below hb13, fun D' hD' => by
                rcases List.mem_cons.1 hD' with rfl | hD'
                · exact (hb13.block _ hdlt).trans hd
                · exact (hb13.block _ (Array.getElem?_eq_some_iff.1 (hX.ds D' hD')).1).trans (hX.ds D' hD')⟩
              have hOn := hO.below hb13 hO.lt
              have hrn := hr.below hb13 hr.lt
              have hrown := own_keep hrow (fun g _ hg => hb13.block g hg)
              have hBn := hB.trans (hb13.mono hB.size)
              have hndn : (D :: Ds).Nodup := List.nodup_cons.2 ⟨fun hc => by have := (Array.getElem?_eq_some_iff.1 (X12.ds D hc)).1; omega, hnd⟩
              have hdsn : ∀ D', D' ∈ D :: Ds → w.heap.size ≤ D' := fun D' hD' => by
                rcases List.mem_cons.1 hD' with rfl | hD'
                · omega
                · exact hds D' hD'
              have Hall := hid (And.intro hXn (And.intro hOn (And.intro hrn (And.intro hrown (And.intro hBn (And.intro hndn hdsn))))))
              clear hX hO hr hrow hB hd hXn hOn hrn hrown hBn hndn hdsn HH
              refine hid ?_
              gi_wp2
              refine ⟨⟨j + 1, D :: Ds, v', _, _, _, _, _, _, _, _, _, _, _, _, _, _, _, _, _, _, hj1, Hlen1.out, Hall.out.1, Hall.out.2.1, Hall.out.2.2.1, Hall.out.2.2.2.1, Hall.out.2.2.2.2.1, Hall.out.2.2.2.2.2.1, Hall.out.2.2.2.2.2.2, rfl⟩, ?_⟩
              show n + 1 - slLen v' < n + 1 - slLen v
              omega
            case stop2 =>
              intro D c k W' _ _ h _
              exact h.elim
  case stop =>
    intro D c k W' _ _ h _
    exact h.elim
end Go.Proofs.YthmmmbfjhfocfaaDoor
