/- After of package rel. -/
import Derived.Test.YthmmmbfjhfocfaaDoorTur14
import Derived.Test.YthmmmbfjhfocfaaDoorTail14
namespace Go.Proofs.YthmmmbfjhfocfaaDoor
open Go Go.RowKit
set_option linter.unusedVariables false
set_option linter.unusedSimpArgs false

/-- From the first component of a pair of the list on, where m' leads from the second one. -/
def afL (n : Nat) (m' : Nat → Nat → Bool) (l : List (Nat × Nat)) : Nat → Nat → Bool := fun a c => decide (c < n) && l.any (fun x => x.1 == a && m' x.2 c)
theorem afL_snoc {n : Nat} {m' : Nat → Nat → Bool} (l : List (Nat × Nat)) (a b : Nat) : updF (updF (afL n m' l) a (fun x => afL n m' l a x || m' b x)) a (fun x => (afL n m' l a x || m' b x) && elF n x) = afL n m' (l ++ [(a, b)]) := by
  funext x y
  by_cases hx : x = a
  · subst hx
    rw [updF_same]
    unfold afL elF
    rw [List.any_append]
    simp
    cases decide (y < n) <;> simp
  · rw [updF_other _ _ hx, updF_other _ _ hx]
    unfold afL
    rw [List.any_append]
    have : (a == x) = false := by simpa using fun h => hx h.symm
    simp [this]
theorem afL_none {n n' : Nat} {m' : Nat → Nat → Bool} (l : List (Nat × Nat)) {a b : Nat} (hm : ∀ a b, m' a b = true → a < n' ∧ b < n') (hb : ¬ b < n') : afL n m' l = afL n m' (l ++ [(a, b)]) := by
  funext x y
  unfold afL
  rw [List.any_append]
  have : m' b y = false := by
    cases h : m' b y
    · rfl
    · exact absurd (hm _ _ h).1 hb
  simp [this]
theorem afL_in {n : Nat} {m m' : Nat → Nat → Bool} {l : List (Nat × Nat)} (hl : ∀ x, x ∈ l → x.1 < n) : ∀ a b, afL n m' l a b = true → a < n ∧ b < n := fun a b h => by
  unfold afL at h
  rw [Bool.and_eq_true, decide_eq_true_eq, List.any_eq_true] at h
  obtain ⟨h1, x, hx, h2⟩ := h
  rw [Bool.and_eq_true, beq_iff_eq] at h2
  exact ⟨by rw [← h2.1]; exact hl x hx, h1⟩
theorem afL_nil (n : Nat) (m' : Nat → Nat → Bool) : afL n m' [] = fun _ _ => false := by funext a b; simp [afL]
theorem not_lets {A : Act} {R : World → Prop} : ¬ LetsOut (AtR A R) := fun ⟨a, w, h⟩ => by cases h.1
set_option maxRecDepth 100000 in
set_option maxHeartbeats 4000000 in
theorem after_ret {w : World} {p q : Option Addr} {b0 b1 n c0 c1 n' : Nat} {m m' : Nat → Nat → Bool} (h : RelP w p b0 b1 n m) (h' : RelP w q c0 c1 n' m') (hG : TzOk w) : Calls Tryd.prog 22 #[.pointer p, .pointer q] w (MkR w n (afL n m' (prs n m))) := by
  have hB0 : Below w.heap.size w (w.alloc (.cells #[.pointer q] 25)) := (Below.refl _ w).alloc (Nat.le_refl _) _
  have hs0 : Hb (w.alloc (.cells #[.pointer q] 25)) w.heap.size 25 1 (fun _ => .pointer q) := Hb.new w #[.pointer q] 25 (one_at _)
  have HL := hid (len_ret (h.below hB0).v)
  have HN := hid (fun w => new_ret (n : Int) w)
  have hn5 := h.n512
  rw [clN_self n hn5] at HN
  have HM := hid (fun w => callsIn_wide.1 (pairs_make p w Fence.wide 0 trivial rfl))
  have hG0 := hG.lt
  have hlp := h.lt
  have hlq := h'.lt
  have Hin := hid h.inn
  have Hin' := hid h'.inn
  have Hh := hid (h.below hB0)
  have Hh' := hid (h'.below hB0)
  have HG := hid (hG.below hB0)
  clear h h' hG
  refine (callsIn_wide (n := 9)).1 ?_
  refine callsIn_of_wp_marks Tryd.func22 rfl trivial ?_ rfl
  simp only [Tryd.ntmps22, List.size_toArray, List.length_cons, List.length_nil, Nat.reduceAdd, Nat.reduceSub, Array.replicate_succ, Array.replicate_zero, List.push_toArray, List.append_toArray, List.nil_append, List.cons_append]
  gi_wp2_with (first | (refine ⟨trivial, ?_⟩; refine (callsIn_wide.2 HL.out).mono ?_; rintro e' w0 ⟨rfl, rfl⟩) | (refine ⟨trivial, ?_⟩; refine (callsIn_wide.2 (HN.out _)).mono ?_; rintro e' w2 ⟨d0, d1, rfl, hr2, hd0, hd1, hb2⟩; refine Hid.out ?_))
  have hz0 : (w.alloc (.cells #[.pointer q] 25)).heap.size = w.heap.size + 1 := by simp
  rw [hz0] at hd0 hd1
  have hh2 := Hh.out.below hb2
  have hh2' := Hh'.out.below hb2
  have hg2 := HG.out.below hb2
  have hs2 := hs0.below hb2 (by omega)
  have hp2 : p ≠ none → b0 ≠ d1 ∧ b1 ≠ d1 := fun hp => by have := hlp hp; omega
  have hq2 : q ≠ none → d1 ≠ c0 ∧ d1 ≠ c1 := fun hp => by have := hlq hp; omega
  have hB2 : Below w.heap.size w w2 := hB0.trans (hb2.mono (by omega))
  have hsz2 := hB2.size
  have hl2 := hr2.hd.lt
  have hl3 := hr2.rows.lt
  clear hb2 hB0 hs0 hz0
  refine hid ?_
  gi_wp2_with (refine ⟨trivial, ?_⟩; refine (callsIn_wide.2 (HM.out _)).mono ?_; rintro e' w3 ⟨rfl, rfl⟩)
  have hB1 : Below w.heap.size w ((w2.alloc (.cells #[.pointer (some ⟨d0, 0, none⟩)] 25)).alloc (.cells #[.pointer p] 25)) := (hB2.alloc hsz2 _).alloc (by simp; omega) _
  have hk1 : Below w2.heap.size w2 ((w2.alloc (.cells #[.pointer (some ⟨d0, 0, none⟩)] 25)).alloc (.cells #[.pointer p] 25)) := ((Below.refl _ w2).alloc (Nat.le_refl _) _).alloc (by simp) _
  have bl : Hb ((w2.alloc (.cells #[.pointer (some ⟨d0, 0, none⟩)] 25)).alloc (.cells #[.pointer p] 25)) w2.heap.size 25 1 (fun _ => .pointer (some ⟨d0, 0, none⟩)) := (Hb.new w2 #[.pointer (some ⟨d0, 0, none⟩)] 25 (one_at _)).alloc _
  have bx : Hb ((w2.alloc (.cells #[.pointer (some ⟨d0, 0, none⟩)] 25)).alloc (.cells #[.pointer p] 25)) (w2.heap.size + 1) 25 1 (fun _ => .pointer p) := by
    have := Hb.new (w2.alloc (.cells #[.pointer (some ⟨d0, 0, none⟩)] 25)) #[.pointer p] 25 (one_at (.pointer p))
    rwa [World.size_alloc] at this
  have r1 := hh2.below hk1
  have q1 := hh2'.below hk1
  have t1 := hr2.below hk1
  have g1 := hg2.below hk1
  have x1 := hs2.below hk1 hs2.lt
  have s1 : ((w2.alloc (.cells #[.pointer (some ⟨d0, 0, none⟩)] 25)).alloc (.cells #[.pointer p] 25)).heap.size = w2.heap.size + 2 := by simp
  generalize ((w2.alloc (.cells #[.pointer (some ⟨d0, 0, none⟩)] 25)).alloc (.cells #[.pointer p] 25)) = w1 at hB1 bl bx r1 q1 t1 g1 x1 s1 ⊢
  clear hk1 hh2 hh2' hg2 hs2 hr2 hB2
  refine range_outer (pairs1_tells p b0 b1 n m (fun k _ => k = d1) (w2.heap.size + 1) w1 r1 bx g1 (by omega) hp2 (fun t => by omega) (fun k hk => ⟨by omega, by omega, by omega⟩))
    rfl (enters_of Tryd.func42 (by kernel_rfl) rfl) (fun k x hk => by obtain ⟨e, he, rfl⟩ := List.mem_map.1 (List.mem_of_getElem? hk); rfl)
    (fun k W => (RelC W d0 d1 n (afL n m' ((prs n m).take k)) ∧ Hb W w2.heap.size 25 1 (fun _ => .pointer (some ⟨d0, 0, none⟩)) ∧ Hb W w.heap.size 25 1 (fun _ => .pointer q) ∧ RelP W q c0 c1 n' m') ∧ Below w.heap.size w W) (fun _ _ _ => False)
    (OwnFrom.and (fun s W W' row hs hg hr => ⟨own_relC hs.1 hg hr, ownFrom_hb w1.heap.size _ _ _ _ () W W' row hs.2.1 hg hr, ownFrom_hb w1.heap.size _ _ _ _ () W W' row hs.2.2.1 hg hr, own_relP hs.2.2.2 hg hr⟩) (ownFrom_below (Nat.le_refl _) (by omega))) (fun c s A A' row hs _ _ => hs)
    ⟨⟨by rw [List.take_zero, afL_nil]; exact t1, bl, x1, q1⟩, hB1⟩ (fun k => { tmps := #[.pointer p, .pointer q, undef, .pointer (some ⟨w.heap.size, 0, none⟩), .pointer none, .pointer (some ⟨w2.heap.size, 0, none⟩), .int .i64 ((eP n m k).1 : Nat), .int .i64 ((eP n m k).2 : Nat), .pointer p, .int .i64 n, .pointer (some ⟨d0, 0, none⟩), .pointer p, .func (.func 42) #[] #[.pointer (some ⟨w2.heap.size + 1, 0, none⟩)], .int .i64 ((eP n m k).1 : Nat), .int .i64 ((eP n m k).2 : Nat), undef, undef, undef, undef, undef, undef, undef, undef, undef, undef, undef, undef, undef, undef, undef, undef, undef, undef, undef, undef, undef, undef, undef, undef, undef, undef, undef], defers := [] }) ?assign ?body ?done ?stop
  case assign =>
    intro l' k x mm W' K hk hK
    obtain ⟨e, he, rfl⟩ : ∃ e : Nat × Nat, (prs n m)[k]? = some e ∧ x = #[.int .i64 e.1, .int .i64 e.2] := by
      rw [List.getElem?_map] at hk
      obtain ⟨e, he, h2⟩ := Option.map_eq_some_iff.1 hk
      exact ⟨e, he, h2.symm⟩
    rw [eP_of he] at hK
    have hsem := @Oper.semAt_some
    gi_wp2
    exact hK
  case body =>
    rintro l' k x mm W' hk hl hr ⟨⟨hr', hbl, hbs, hq'⟩, hB⟩
    obtain ⟨e, he⟩ : ∃ e : Nat × Nat, (prs n m)[k]? = some e := by
      rw [List.getElem?_map] at hk
      obtain ⟨e, he, h2⟩ := Option.map_eq_some_iff.1 hk
      exact ⟨e, he⟩
    have htk : (prs n m).take (k + 1) = (prs n m).take k ++ [e] := by
      obtain ⟨h1, h2⟩ := List.getElem?_eq_some_iff.1 he
      rw [List.take_succ_eq_append_getElem h1, h2]
    rw [eP_of he]
    obtain ⟨ea, eb⟩ := e
    obtain ⟨hm, hea⟩ := prs_mem (List.mem_of_getElem? he)
    have heb := (Hin.out _ _ hm).2
    have cb := hbl.cell (i := 0) (by omega)
    have cs := hbs.cell (i := 0) (by omega)
    have HE := hid (isEl_ret hq'.v (eb : Int))
    have hsem := @Oper.semAt_some
    by_cases hin : eb < n'
    · rw [show inE n' (eb : Int) = true from inE_iff.2 ⟨by omega, by omega⟩] at HE
      obtain ⟨rfl, hqc⟩ := hq'.nz (by omega)
      obtain ⟨hq3, hq4⟩ := hq2 (by simp)
      have c1' := hr'.rcell
      have c2' := hqc.rcell
      obtain ⟨ml, hml⟩ : ∃ ml, ml = afL n m' ((prs n m).take k) := ⟨_, rfl⟩
      have hst : updF (updF ml ea (fun x => ml ea x || m' eb x)) ea (fun x => (ml ea x || m' eb x) && elF n x) = afL n m' ((prs n m).take (k + 1)) := by rw [hml, afL_snoc, ← htk]
      have hfin : ∀ a b, afL n m' ((prs n m).take (k + 1)) a b = true → a < n ∧ b < n := afL_in (m := m) fun x hx => (prs_mem (List.mem_of_mem_take hx)).2
      rw [← hml] at hr'
      clear hml htk
      have HJ := hid (fun (W : World) (h1 : Hb W d1 55 (n * 8) (rowsV ml)) (h2 : Hb W c1 55 (n' * 8) (rowsV m')) => sjoin h1 (hr'.row hea) (by omega) (b2 := c1) (o2 := eb * 8) (g := m' eb) (fun i hi => by rw [h2.cell (by omega : eb * 8 + i < n' * 8), hqc.row hin i hi]) (.inl hq4.symm) h2.lt (fun e => absurd e.symm hq4))
      have Hr := hid hr'
      have Hqc := hid hqc
      have Hst := hid hst
      have Hfin := hid hfin
      clear hr' hqc hst hfin hq' he hk hm
      gi_wp2_with (refine ⟨trivial, (fun h => by cases h), ?_⟩; refine (CallsIn.inRound l' (callsIn_wide.2 HE.out)).mono ?_; rintro e' w4 ⟨rfl, rfl⟩)
      refine wpIn_mono (Q := AtR { tmps := #[.pointer p, .pointer (some ⟨c0, 0, none⟩), undef, .pointer (some ⟨w.heap.size, 0, none⟩), .pointer none, .pointer (some ⟨w2.heap.size, 0, none⟩), .int .i64 ea, .int .i64 eb, .pointer p, .int .i64 n, .pointer (some ⟨d0, 0, none⟩), .pointer p, .func (.func 42) #[] #[.pointer (some ⟨w2.heap.size + 1, 0, none⟩)], .int .i64 ea, .int .i64 eb, .pointer (some ⟨c0, 0, none⟩), .int .i64 eb, .bool true, .pointer (some ⟨d0, 0, none⟩), .pointer (some ⟨d0, 0, none⟩), .pointer (some ⟨d0, 8, none⟩), .slice (some ⟨d1, 0, none⟩) n n, .int .i64 ea, .pointer (some ⟨d1, ea * 8, none⟩), .pointer (some ⟨c0, 0, none⟩), .pointer (some ⟨c0, 0, none⟩), .pointer (some ⟨c0, 8, none⟩), .slice (some ⟨c1, 0, none⟩) n' n', .int .i64 eb, .pointer (some ⟨c1, eb * 8, none⟩), .tuple #[], undef, undef, undef, undef, undef, undef, undef, undef, undef, undef, undef], defers := [] } (fun W => Hb W d1 55 (n * 8) (setF (rowsV ml) (ea * 8) (fun x => ml ea x || m' eb x)) ∧ Fr [d1] w4 W)) ?reg ?cont
      case reg =>
        refine tail_in 12 (by kernel_rfl) (by kernel_rfl) (by kernel_rfl) not_lets ?_
        simp only [List.take_succ_cons, List.take_zero, List.drop_succ_cons, List.drop_zero]
        repeat still_step
        try refine wpStill_nil ?_
        go_wp2_with (go_at_call 37; refine (HJ.out _ (by exact Hr.out.rows) (by exact Hqc.out.rows)).mono ?_; rintro e' w6 ⟨rfl, h6, f6⟩)
        exact ⟨rfl, rfl, h6, f6.of_drawn⟩
      rintro _ _ w6 ⟨rfl, rfl, h6, f6⟩
      rw [rows_set] at h6
      have e6 := Hr.out.hd.fr f6 (by simpa using Hr.out.ne)
      have c6 := e6.cell (i := 8) (by omega)
      rw [show relV d1 n 8 = .slice (some ⟨d1, 0, none⟩) n n from rfl] at c6
      have hne2 : w2.heap.size ≠ d1 := by omega
      have hbl6 := hbl.fr f6 (by simpa using hne2)
      have cb6 := hbl6.cell (i := 0) (by omega)
      have HK := hid (fun (W : World) (h1 : Hb W d1 55 (n * 8) (rowsV (updF ml ea (fun x => ml ea x || m' eb x)))) (h2 : Hb W d0 57 9 (relV d1 n)) => skeep (f := fun x => ml ea x || m' eb x) h1 (fun i hi => by unfold rowsV; rw [show (ea * 8 + i) / 8 = ea by omega, show (ea * 8 + i) % 8 = i by omega, updF_same]) (by omega) (b2 := d0) (o2 := 0) (g := elF n) (fun i hi => by rw [h2.cell (by omega), Hr.out.els i hi]) (.inl Hr.out.ne) h2.lt (fun e => absurd e Hr.out.ne))
      have H6 := hid h6
      have E6 := hid e6
      clear h6 e6 c1' c2' cb cs
      gi_wp2
      refine wpIn_mono (Q := AtR { tmps := #[.pointer p, .pointer (some ⟨c0, 0, none⟩), undef, .pointer (some ⟨w.heap.size, 0, none⟩), .pointer none, .pointer (some ⟨w2.heap.size, 0, none⟩), .int .i64 ea, .int .i64 eb, .pointer p, .int .i64 n, .pointer (some ⟨d0, 0, none⟩), .pointer p, .func (.func 42) #[] #[.pointer (some ⟨w2.heap.size + 1, 0, none⟩)], .int .i64 ea, .int .i64 eb, .pointer (some ⟨c0, 0, none⟩), .int .i64 eb, .bool true, .pointer (some ⟨d0, 0, none⟩), .pointer (some ⟨d0, 0, none⟩), .pointer (some ⟨d0, 8, none⟩), .slice (some ⟨d1, 0, none⟩) n n, .int .i64 ea, .pointer (some ⟨d1, ea * 8, none⟩), .pointer (some ⟨c0, 0, none⟩), .pointer (some ⟨c0, 0, none⟩), .pointer (some ⟨c0, 8, none⟩), .slice (some ⟨c1, 0, none⟩) n' n', .int .i64 eb, .pointer (some ⟨c1, eb * 8, none⟩), .tuple #[], .pointer (some ⟨d0, 0, none⟩), .pointer (some ⟨d0, 0, none⟩), .pointer (some ⟨d0, 8, none⟩), .slice (some ⟨d1, 0, none⟩) n n, .int .i64 ea, .pointer (some ⟨d1, ea * 8, none⟩), .pointer (some ⟨d0, 0, none⟩), .pointer (some ⟨d0, 0, none⟩), .pointer (some ⟨d0, 0, none⟩), .tuple #[], undef], defers := [] } (fun W => Hb W d1 55 (n * 8) (setF (rowsV (updF ml ea (fun x => ml ea x || m' eb x))) (ea * 8) (fun x => (ml ea x || m' eb x) && elF n x)) ∧ Fr [d1] w6 W)) ?reg2 ?cont2
      case reg2 =>
        refine tail_in 9 (by kernel_rfl) (by kernel_rfl) (by kernel_rfl) not_lets ?_
        simp only [List.take_succ_cons, List.take_zero, List.drop_succ_cons, List.drop_zero]
        repeat still_step
        try refine wpStill_nil ?_
        go_wp2_with (go_at_call 38; refine (HK.out _ (by exact H6.out) (by exact E6.out)).mono ?_; rintro e' w7 ⟨rfl, h7, f7⟩)
        exact ⟨rfl, rfl, h7, f7.of_drawn⟩
      rintro _ _ w7 ⟨rfl, rfl, h7, f7⟩
      rw [rows_set, Hst.out] at h7
      have f47 := f6.trans f7
      have hr7 : RelC w7 d0 d1 n (afL n m' ((prs n m).take (k + 1))) := ⟨E6.out.fr f7 (by simpa using Hr.out.ne), h7, Hr.out.ne, Hr.out.n512, Hfin.out⟩
      have hne3 : w.heap.size ≠ d1 := by omega
      have hbl7 := hbl6.fr f7 (by simpa using hne2)
      have hbs7 := hbs.fr f47 (by simpa using hne3)
      have hq7 : RelP w7 (some ⟨c0, 0, none⟩) c0 c1 n' m' := .inr ⟨rfl, Hqc.out.fr f47 (by simpa using hq3.symm) (by simpa using hq4.symm)⟩
      have hB7 := Fr.below hB f47 hB.size (by simp; omega)
      obtain ⟨cs, fz, hobj⟩ := Hr.out.rows.obj
      have hk7 : Kc (fun k _ => k = d1) w4 w7 := Kc.of_fr f47 (fun k hk _ => by rw [List.mem_singleton.1 hk]; exact ⟨cs, _, fz, hobj, rfl⟩)
      clear h7
      gi_wp2
      exact ⟨hk7, ⟨hr7, hbl7, hbs7, hq7⟩, hB7⟩
    · rw [show inE n' (eb : Int) = false by cases hc : inE n' (eb : Int); · rfl
                                            · exact absurd (inE_iff.1 hc).2 (by omega)] at HE
      have hst : afL n m' ((prs n m).take k) = afL n m' ((prs n m).take (k + 1)) := by rw [htk]; exact afL_none _ Hin'.out hin
      rw [hst] at hr'
      have Hr := hid hr'
      have Hq := hid hq'
      clear hr' hst htk hq'
      gi_wp2_with (refine ⟨trivial, (fun h => by cases h), ?_⟩; refine (CallsIn.inRound l' (callsIn_wide.2 HE.out)).mono ?_; rintro e' w4 ⟨rfl, rfl⟩)
      exact ⟨Kc.refl _ _, ⟨Hr.out, hbl, hbs, Hq.out⟩, hB⟩
  case done =>
    rintro D W' hD ⟨⟨hr', hbl, _, _⟩, hB⟩ hd
    rw [List.length_map, List.take_of_length_le (Nat.le_refl _)] at hr'
    have cb := hbl.cell (i := 0) (by omega)
    have Hr' := hid hr'
    clear hr'
    gi_wp2
    refine leave_marks (.pointer (some ⟨d0, 0, none⟩)) (fun W => RelC W d0 d1 n (afL n m' (prs n m)) ∧ Below w.heap.size w W) (fun _ _ => results_tmp (t := 4) rfl _ _ _) (fun W h => ⟨d0, d1, rfl, h.1, by omega, by omega, h.2⟩) [D] _ (by simp) (fun D' h => by rw [List.mem_singleton.1 h]; exact hd) (fun D' W h hd' hh => ?_) ⟨Hr'.out, hB⟩
    rw [List.mem_singleton.1 h] at hd' ⊢
    exact ⟨own_relC (B := 0) hh.1 (grownBy_putObj' W D (.deferred none)) (fun r e => by cases e; exact ⟨Nat.zero_le _, _, hd', rfl⟩), hh.2.trans (belowK_b (w := w) (Nat.le_refl _) W D _ _ (by omega) hd' rfl rfl)⟩
  case stop =>
    intro D c k W' _ _ h _
    exact h.elim
end Go.Proofs.YthmmmbfjhfocfaaDoor
