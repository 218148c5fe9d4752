/- The evaluator with lists answers what the call returns: regions that draw their order and make lists. No word of the program. -/
import Derived.Test.YtpmjfpdogbcigaaDoorS2G
namespace Go.Proofs.YtpmjfpdogbcigaaDoor.S2
open Go Go.RowKit Sim
set_option linter.unusedVariables false
set_option linter.unusedSimpArgs false

/-! ### Whatever order is picked -/
theorem filter_le {p q : Nat → Bool} (h : ∀ j, q j = true → p j = true) : ∀ l : List Nat, (l.filter q).length ≤ (l.filter p).length
  | [] => Nat.le_refl _
  | x :: r => by
    have ih := filter_le h r
    cases hq : q x
    · rw [List.filter_cons_of_neg (by simp [hq])]
      cases hp : p x
      · rw [List.filter_cons_of_neg (by simp [hp])]; exact ih
      · rw [List.filter_cons_of_pos hp, List.length_cons]; omega
    · rw [List.filter_cons_of_pos hq, List.filter_cons_of_pos (h x hq), List.length_cons, List.length_cons]; omega
theorem filter_lt {p q : Nat → Bool} (h : ∀ j, q j = true → p j = true) {i : Nat} (hp : p i = true) (hq : q i = false) : ∀ l : List Nat, i ∈ l → (l.filter q).length < (l.filter p).length
  | [], hi => by cases hi
  | x :: r, hi => by
    rcases List.mem_cons.mp hi with rfl | hi
    · rw [List.filter_cons_of_neg (by simp [hq]), List.filter_cons_of_pos hp, List.length_cons]
      have := filter_le h r
      omega
    · have ih := filter_lt h hp hq r hi
      cases hqx : q x
      · rw [List.filter_cons_of_neg (by simp [hqx])]
        cases hpx : p x
        · rw [List.filter_cons_of_neg (by simp [hpx])]; exact ih
        · rw [List.filter_cons_of_pos hpx, List.length_cons]; omega
      · rw [List.filter_cons_of_pos hqx, List.filter_cons_of_pos (h x hqx), List.length_cons, List.length_cons]; omega
def lstB (listed : Array Bool) (j : Nat) : Bool := listed.getD j false
def setL (L : Nat → Bool) (i : Nat) : Nat → Bool := fun j => if j = i then true else L j
theorem lstB_set {listed : Array Bool} {i : Nat} (h : i < listed.size) : lstB (listed.setIfInBounds i true) = setL (lstB listed) i := by
  funext j
  unfold lstB setL
  simp only [Array.getD_eq_getD_getElem?, Array.getElem?_setIfInBounds]
  by_cases hij : i = j
  · subst hij; simp [h]
  · rw [if_neg hij, if_neg (fun e => hij e.symm)]
theorem lstB_true {listed : Array Bool} {i : Nat} (h : i < listed.size) : listed.getD i true = lstB listed i := by
  unfold lstB; simp [Array.getD, h]
/-- A region whose operations may come in any order: what holds whatever is listed. -/
theorem wpAny_steps {P : Program} {ops : Array Oper} {Q : Exit → Act → World → Prop} {I : (Nat → Bool) → Act → World → Prop}
    (step : ∀ L i o a w, ops[i]? = some o → I L a w → L i = false → (∀ e ∈ o.after, Region.binds .any e = true → L e.on = true) → ∀ K : Act → World → Prop, (∀ a' w', I (setL L i) a' w' → K a' w') → wpOp P ops Q i K a w)
    (last : ∀ L a w, (∀ i, i < ops.size → L i = true) → I L a w → Q .normal a w)
    (dep : ∀ i o, ops[i]? = some o → ∀ e ∈ o.after, Region.binds .any e = true → e.on < i) :
    ∀ (fuel : Nat) (listed : Array Bool) (a : Act) (w : World), listed.size = ops.size → ((List.range ops.size).filter fun i => !lstB listed i).length ≤ fuel → I (lstB listed) a w → wpAny P .any ops Q fuel listed a w := by
  have done : ∀ listed : Array Bool, listed.size = ops.size → Region.ready .any ops listed = [] → ∀ i, i < ops.size → lstB listed i = true := by
    intro listed hs hr i
    induction i using Nat.strongRecOn with
    | _ i ih =>
      intro hi
      cases hl : lstB listed i
      · exfalso
        have : i ∈ Region.ready .any ops listed := mem_ready.2 ⟨by rw [lstB_true (by omega)]; exact hl, ops[i], by simp [hi], fun e he hb => by
          have hlt := dep i ops[i] (by simp [hi]) e he hb
          exact ih e.on hlt (by omega)⟩
        rw [hr] at this; cases this
      · rfl
  intro fuel
  induction fuel with
  | zero =>
    intro listed a w hs hf hI
    have all : ∀ i, i < ops.size → lstB listed i = true := fun i hi => by
      cases hl : lstB listed i
      · exfalso
        have : i ∈ (List.range ops.size).filter fun i => !lstB listed i := List.mem_filter.mpr ⟨List.mem_range.mpr hi, by simp [hl]⟩
        rw [List.length_eq_zero_iff.mp (Nat.le_zero.mp hf)] at this
        cases this
      · rfl
    refine ⟨?_, last _ a w all hI⟩
    cases hr : Region.ready .any ops listed with
    | nil => rfl
    | cons j r =>
      exfalso
      have hj : j ∈ Region.ready .any ops listed := by rw [hr]; exact List.mem_cons_self
      obtain ⟨h1, o, ho, _⟩ := mem_ready.1 hj
      have hjs : j < ops.size := by
        rcases Nat.lt_or_ge j ops.size with h | h
        · exact h
        · rw [Array.getElem?_eq_none h] at ho; cases ho
      rw [lstB_true (by omega), all j hjs] at h1
      cases h1
  | succ fuel ih =>
    intro listed a w hs hf hI
    refine ⟨fun hr => last _ a w (done listed hs hr) hI, fun i hi => ?_⟩
    obtain ⟨h1, o, ho, h2⟩ := mem_ready.1 hi
    have his : i < ops.size := by
      rcases Nat.lt_or_ge i ops.size with h | h
      · exact h
      · rw [Array.getElem?_eq_none h] at ho; cases ho
    rw [lstB_true (by omega)] at h1
    refine step (lstB listed) i o a w ho hI h1 h2 _ fun a' w' hI' => ?_
    refine ih (listed.setIfInBounds i true) a' w' (by simp [hs]) ?_ (by rw [lstB_set (by omega)]; exact hI')
    have hlt := filter_lt (p := fun j => !lstB listed j) (q := fun j => !lstB (listed.setIfInBounds i true) j) (fun j hj => by
      rw [lstB_set (by omega)] at hj
      unfold setL at hj
      by_cases hji : j = i
      · rw [if_pos hji] at hj; cases hj
      · rw [if_neg hji] at hj; exact hj) (i := i) (by simp [h1]) (by rw [lstB_set (by omega)]; simp [setL]) (List.range ops.size) (List.mem_range.mpr his)
    omega

/-! ### The lists made -/
theorem newsL_len (L L' : Nat → Bool) : ∀ (ds : List Dn) (i k : Nat), (newsL L i ds).length = (newsL L' k ds).length
  | [], _, _ => rfl
  | d :: r, i, k => by
    unfold newsL
    cases d.e with
    | none => exact newsL_len L L' r _ _
    | some e => simp [newsL_len L L' r (i + 1) (k + 1)]
theorem newsL_none {L : Nat → Bool} {i : Nat} {d : Dn} {r : List Dn} (h : d.e = none) : newsL L i (d :: r) = newsL L (i + 1) r := by simp [newsL, h]
theorem newsL_some {L : Nat → Bool} {i : Nat} {d : Dn} {r : List Dn} {e : LE} (h : d.e = some e) : newsL L i (d :: r) = { e with dead := !L i } :: newsL L (i + 1) r := by simp [newsL, h]
theorem newsL_append (L : Nat → Bool) : ∀ (ds ds' : List Dn) (i : Nat), newsL L i (ds ++ ds') = newsL L i ds ++ newsL L (i + ds.length) ds'
  | [], ds', i => rfl
  | d :: r, ds', i => by
    have ih := newsL_append L r ds' (i + 1)
    rw [show i + 1 + r.length = i + (d :: r).length by simp; omega] at ih
    show newsL L i (d :: (r ++ ds')) = _
    cases he : d.e with
    | none => rw [newsL_none he, newsL_none he]; exact ih
    | some e => rw [newsL_some he, newsL_some he, ih]; rfl
theorem newsL_congr {L L' : Nat → Bool} : ∀ (ds : List Dn) (i : Nat), (∀ j, i ≤ j → j < i + ds.length → L j = L' j) → newsL L i ds = newsL L' i ds
  | [], _, _ => rfl
  | d :: r, i, h => by
    have ih := newsL_congr r (i + 1) (fun j h1 h2 => h j (by omega) (by simp; omega))
    unfold newsL
    cases d.e with
    | none => exact ih
    | some e => simp only [ih, h i (Nat.le_refl _) (by simp)]
theorem newsL_le {F L : Nat → Bool} (h : ∀ j, F j = true → L j = true) : ∀ (ds : List Dn) (i p : Nat) (e : LE), (newsL F i ds)[p]? = some e → e.dead = false → (newsL L i ds)[p]? = some e
  | [], _, _, _, hp, _ => by simp [newsL] at hp
  | d :: r, i, p, e, hp, hd => by
    unfold newsL at hp ⊢
    cases he : d.e with
    | none => rw [he] at hp; exact newsL_le h r _ _ _ hp hd
    | some e' =>
      rw [he] at hp
      cases p with
      | zero =>
        simp at hp ⊢
        subst hp
        simp at hd
        simp [hd, h i hd]
      | succ p =>
        simp at hp ⊢
        exact newsL_le h r _ _ _ hp hd
/-- Fewer lists alive. -/
theorem WR.kill {w0 : Base} {w : World} {ν : Nu} {own own' : Mem} {mem : Bool} (h : WR w0 ν own mem w) (hb : own'.b = own.b) (hl : ∀ (p : Nat) e, own'.l[p]? = some e → e.dead = false → own.l[p]? = some e) (hok : OkB own'.b.length own'.l.length own'.b) : WR w0 ν own' true w :=
  ⟨h.below, fun i b hi => h.blk i b (by rw [← hb]; exact hi), hok, fun i j hi hj => h.inj i j (by rw [← hb]; exact hi) (by rw [← hb]; exact hj), fun p e hp hd => h.lst p e (hl p e hp hd) hd, fun p e hp hd ho g hg => by
    obtain ⟨s1, s2⟩ := h.sep p e (hl p e hp hd) hd ho g hg
    exact ⟨fun i hi => s1 i (by rw [← hb]; exact hi), fun k' e' hk' hd' ho' hne => s2 k' e' (hl k' e' hk' hd') hd' ho' hne⟩, (fun h => by cases h), ⟨h.fr.here, fun i hi => h.fr.offb i (by rw [← hb]; exact hi), fun p e hp hd ho g hg => h.fr.offl p e (hl p e hp hd) hd ho g hg⟩⟩
/-- A list comes alive. -/
theorem WR.revive {w0 : Base} {w : World} {ν : Nu} {own : Mem} {mem : Bool} (h : WR w0 ν own mem w) {p : Nat} {e : LE} {v : Value} (hp : p < own.l.length) (ho : e.own = true) (hv : OwnB w0.heap.size w e v) (hf : ∀ g, v.ownBlock = some g → Fresh ν own g) (hF : ∀ g, v.ownBlock = some g → w0.F g = none) {m : Nat} (hm : m ≤ p) (hok : OkB own.b.length m own.b) :
    WR w0 (extV ν p v) { own with l := own.l.set p e } true w := by
  have vold : ∀ i, i ≠ p → (extV ν p v).v i = ν.v i := fun i hi => by unfold extV; simp only; rw [if_neg hi]
  have old : ∀ i e', (own.l.set p e)[i]? = some e' → (i ≠ p ∧ own.l[i]? = some e') ∨ (i = p ∧ e' = e) := fun i e' hi => by
    by_cases hip : p = i
    · subst hip
      rw [List.getElem?_set_self hp] at hi
      simp only [Option.some.injEq] at hi
      exact .inr ⟨rfl, hi.symm⟩
    · rw [List.getElem?_set_ne hip] at hi
      exact .inl ⟨fun e => hip e.symm, hi⟩
  refine ⟨h.below, fun i b hi => ⟨(h.blk i b hi).1.congr (hok i b hi) ((extV_old ν own.b.length p v).mono (Nat.le_refl _) hm), (h.blk i b hi).2⟩, by simpa using h.okb, h.inj, fun i e' hi hd => ?_, fun i e' hi hd ho' g hb => ?_, (fun h => by cases h), ⟨h.fr.here, h.fr.offb, fun i e' hi hd ho' g hb => by
    rcases old i e' hi with ⟨hl, hi'⟩ | ⟨rfl, rfl⟩
    · rw [vold i hl] at hb; exact h.fr.offl i e' hi' hd ho' g hb
    · rw [extV_new] at hb; exact hF g hb⟩⟩
  · rcases old i e' hi with ⟨hl, hi'⟩ | ⟨rfl, rfl⟩
    · rw [vold i hl]; exact h.lst i e' hi' hd
    · rw [extV_new]; unfold LOk; rw [ho]; exact hv
  · rcases old i e' hi with ⟨hl, hi'⟩ | ⟨rfl, rfl⟩
    · rw [vold i hl] at hb
      obtain ⟨s1, s2⟩ := h.sep i e' hi' hd ho' g hb
      refine ⟨s1, fun i' e2 hi2 hd2 ho2 hne => ?_⟩
      rcases old i' e2 hi2 with ⟨hl', hi3⟩ | ⟨rfl, rfl⟩
      · rw [vold i' hl']; exact s2 i' e2 hi3 hd2 ho2 hne
      · rw [extV_new]
        intro heq
        exact (hf g heq).2 i e' hi' hd ho' hb
    · rw [extV_new] at hb
      refine ⟨(hf g hb).1, fun i' e2 hi2 hd2 ho2 hne => ?_⟩
      rcases old i' e2 hi2 with ⟨hl', hi3⟩ | ⟨rfl, rfl⟩
      · rw [vold i' hl']; exact (hf g hb).2 i' e2 hi3 hd2 ho2
      · exact absurd rfl hne
/-! ### Slots -/
theorem getD_put (a : Act) (dst : Option Tmp) (v : Value) (t : Nat) : (a.put dst v).tmps.getD t undef = if dst = some t ∧ t < a.tmps.size then v else a.tmps.getD t undef := by
  cases dst with
  | none => simp [Act.put]
  | some d =>
    simp only [Act.put, Array.getD_eq_getD_getElem?, Array.getElem?_setIfInBounds, Option.some.injEq]
    by_cases hdt : d = t
    · subst hdt
      by_cases hs : d < a.tmps.size <;> simp [hs]
    · simp [hdt]
theorem put_size (a : Act) (dst : Option Tmp) (v : Value) : (a.put dst v).tmps.size = a.tmps.size := by cases dst <;> simp [Act.put]
theorem put_defers' (a : Act) (dst : Option Tmp) (v : Value) : (a.put dst v).defers = a.defers := by cases dst <;> rfl
theorem dstIs_iff {o : Oper} {t : Nat} : dstIs o t = true ↔ o.dst = some t := by
  unfold dstIs
  cases o.dst with
  | none => simp
  | some u => simp
structure Dep (ops : Array Oper) (i : Nat) (o : Oper) : Prop where
  sel : ∀ cs b, o.op ≠ .select cs b
  low : ∀ e ∈ o.after, Region.binds .any e = true → e.on < i
  looks : ∀ j, looksB ops o j = true → j < i ∧ ∃ e ∈ o.after, Region.binds .any e = true ∧ e.on = j
  once : ∀ j oj t, ops[j]? = some oj → o.dst = some t → oj.dst = some t → i = j
theorem depB_ok {ops : Array Oper} (h : depB ops = true) {i : Nat} {o : Oper} (ho : ops[i]? = some o) : Dep ops i o := by
  have lt : ∀ {j : Nat} {oj : Oper}, ops[j]? = some oj → j < ops.size := fun {j oj} hj => by
    rcases Nat.lt_or_ge j ops.size with h | h
    · exact h
    · rw [Array.getElem?_eq_none h] at hj; cases hj
  have hi := List.all_eq_true.mp h i (List.mem_range.mpr (lt ho))
  rw [ho] at hi
  simp only [Bool.and_eq_true, List.all_eq_true] at hi
  obtain ⟨⟨⟨h1, h2⟩, h3⟩, h4⟩ := hi
  refine ⟨fun cs b e => by rw [e] at h1; simp [notSel] at h1, fun e he hb => ?_, fun j hj => ?_, fun j oj t hj hd hdj => ?_⟩
  · have := h2 e (by simpa using he)
    rw [hb] at this
    simpa [Nat.blt_eq] using this
  · have hjs : j < ops.size := by
      unfold looksB at hj
      split at hj
      · rename_i oj hoj; exact lt hoj
      · cases hj
    have := h3 j (List.mem_range.mpr hjs)
    rw [hj] at this
    simp only [Bool.not_true, Bool.false_or, Bool.and_eq_true, List.any_eq_true] at this
    obtain ⟨k1, e, he, hb, hon⟩ := this
    exact ⟨by simpa [Nat.blt_eq] using k1, e, by simpa using he, hb, Nat.eq_of_beq_eq_true hon⟩
  · have := h4 j (List.mem_range.mpr (lt hj))
    rw [hd, hj] at this
    simp only [Bool.or_eq_true] at this
    rcases this with h | h
    · exact Nat.eq_of_beq_eq_true h
    · rw [dstIs_iff.mpr hdj] at h; cases h
/-- What is known of the outcomes. -/
def KD (s0 : Mem) (ds : List Dn) : Prop := ∀ (i : Nat) d, ds[i]? = some d → (d.e = none ∧ okV s0.b.length s0.l.length d.x) ∨ ∃ e, d.e = some e ∧ e.own = true ∧ e.dead = false ∧ d.x = .c (s0.l.length + (newsL (fun _ => true) 0 (ds.take i)).length)
/-- What holds when some of the operations have been carried out. -/
structure ID (n : Nat) (ops : Array Oper) (w0 : Base) (ν0 : Nu) (s0 : Mem) (a0 : Act) (ds : List Dn) (L : Nat → Bool) (ν : Nu) (a : Act) (w : World) : Prop where
  ag : Agree s0.b.length s0.l.length ν0 ν
  size : a.tmps.size = n
  df : a.defers = []
  base : ∀ t, (∀ i o, ops[i]? = some o → o.dst = some t → L i = false) → a.tmps.getD t undef = a0.tmps.getD t undef
  done : ∀ (i : Nat) o d t, ops[i]? = some o → ds[i]? = some d → o.dst = some t → L i = true → Is ν d.x (a.tmps.getD t undef)
  wr : WR w0 ν { s0 with l := s0.l ++ newsL L 0 ds } true w
theorem ID.put {n : Nat} {ops : Array Oper} {w0 : Base} {ν0 : Nu} {s0 : Mem} {a0 : Act} {ds : List Dn} {L : Nat → Bool} {ν : Nu} {a : Act} {w : World} (h : ID n ops w0 ν0 s0 a0 ds L ν a w) (hdep : depB ops = true) (hK : KD s0 ds)
    {k : Nat} {o : Oper} {d : Dn} (ho : ops[k]? = some o) (hd : ds[k]? = some d) (hn : ∀ t, o.dst = some t → t < n) {ν' : Nu} {v : Value} {w' : World} (hag : Agree s0.b.length s0.l.length ν ν')
    (hoth : ∀ (i : Nat) di, i ≠ k → ds[i]? = some di → ∀ e, di.e = some e → ν'.v (s0.l.length + (newsL (fun _ => true) 0 (ds.take i)).length) = ν.v (s0.l.length + (newsL (fun _ => true) 0 (ds.take i)).length))
    (hv : Is ν' d.x v) (hw : WR w0 ν' { s0 with l := s0.l ++ newsL (setL L k) 0 ds } true w') : ID n ops w0 ν0 s0 a0 ds (setL L k) ν' (a.put o.dst v) w' := by
  refine ⟨h.ag.trans hag (Nat.le_refl _) (Nat.le_refl _), by rw [put_size, h.size], by rw [put_defers', h.df], fun t ht => ?_, fun i oi di t hoi hdi hti hL => ?_, hw⟩
  · rw [getD_put, if_neg]
    · refine h.base t fun i oi hoi hti => ?_
      have := ht i oi hoi hti
      unfold setL at this
      by_cases hik : i = k
      · rw [if_pos hik] at this; cases this
      · rw [if_neg hik] at this; exact this
    · intro ⟨hdt, _⟩
      have := ht k o ho hdt
      simp [setL] at this
  · rw [getD_put]
    by_cases hik : i = k
    · subst hik
      rw [ho] at hoi
      obtain rfl := Option.some.inj hoi
      rw [hd] at hdi
      obtain rfl := Option.some.inj hdi
      rw [if_pos ⟨hti, by rw [h.size]; exact hn t hti⟩]
      exact hv
    · have hne : ¬ (o.dst = some t ∧ t < a.tmps.size) := fun ⟨hdt, _⟩ => hik ((depB_ok hdep hoi).once k o t ho hti hdt)
      rw [if_neg hne]
      have hLi : L i = true := by unfold setL at hL; rw [if_neg hik] at hL; exact hL
      have h0 := h.done i oi di t hoi hdi hti hLi
      rcases hK i di hdi with ⟨_, hok⟩ | ⟨e, he, _, _, hx⟩
      · exact Is_congr hok hag h0
      · rw [hx] at h0 ⊢
        show _ = ν'.v _
        rw [hoth i di hik hdi e he]; exact h0
/-- The slots that an operation looks at are those of the text's order. -/
def valD (L : Nat → Bool) (a : Act) (ν : Nu) (i : Nat) (o : Oper) (d : Dn) : Value := match o.dst with
  | some t => if L i = true then a.tmps.getD t undef else conc ν d.x
  | none => undef
def actD (L : Nat → Bool) (a : Act) (ν : Nu) : Nat → List Oper → List Dn → Act → Act
  | i, o :: r, d :: ds, b => actD L a ν (i + 1) r ds (b.put o.dst (valD L a ν i o d))
  | _, _, _, b => b
theorem actD_size (L : Nat → Bool) (a : Act) (ν : Nu) : ∀ (os : List Oper) (ds : List Dn) (i : Nat) (b : Act), (actD L a ν i os ds b).tmps.size = b.tmps.size
  | [], _, _, _ => by simp [actD]
  | _ :: _, [], _, _ => by simp [actD]
  | o :: r, d :: ds, i, b => by show (actD L a ν (i + 1) r ds _).tmps.size = _; rw [actD_size L a ν r ds, put_size]
theorem actD_snoc (L : Nat → Bool) (a : Act) (ν : Nu) (o : Oper) (d : Dn) : ∀ (os : List Oper) (ds : List Dn) (i : Nat) (b : Act), os.length = ds.length → actD L a ν i (os ++ [o]) (ds ++ [d]) b = (actD L a ν i os ds b).put o.dst (valD L a ν (i + os.length) o d)
  | [], [], i, b, _ => rfl
  | [], _ :: _, _, _, h => by simp at h
  | _ :: _, [], _, _, h => by simp at h
  | p :: r, q :: ds, i, b, h => by
    have := actD_snoc L a ν o d r ds (i + 1) (b.put p.dst (valD L a ν i p q)) (by simpa using h)
    rw [show i + 1 + r.length = i + (p :: r).length by simp; omega] at this
    exact this
theorem actD_get (L : Nat → Bool) (a : Act) (ν : Nu) (t : Nat) : ∀ (os : List Oper) (ds : List Dn) (i : Nat) (b : Act), os.length = ds.length → a.tmps.size = b.tmps.size → (∀ (j : Nat) o, os[j]? = some o → o.dst = some t → L (i + j) = true) →
    (b.tmps.getD t undef = a.tmps.getD t undef ∨ ∃ (j : Nat) (o : Oper), os[j]? = some o ∧ o.dst = some t) → (actD L a ν i os ds b).tmps.getD t undef = a.tmps.getD t undef
  | [], [], i, b, _, _, _, h => by
    rcases h with h | ⟨j, o, hj, _⟩
    · exact h
    · simp at hj
  | [], _ :: _, _, _, h, _, _, _ => by simp at h
  | _ :: _, [], _, _, h, _, _, _ => by simp at h
  | o :: r, d :: ds, i, b, hl, hs, hL, h => by
    show (actD L a ν (i + 1) r ds (b.put o.dst (valD L a ν i o d))).tmps.getD t undef = _
    refine actD_get L a ν t r ds (i + 1) _ (by simpa using hl) (by rw [put_size]; exact hs) (fun j oj hj ht => by have := hL (j + 1) oj (by simpa using hj) ht; rwa [show i + 1 + j = i + (j + 1) by omega]) ?_
    rw [getD_put]
    by_cases hdt : o.dst = some t
    · left
      have h0 : L i = true := by have := hL 0 o rfl hdt; rwa [Nat.add_zero] at this
      by_cases hts : t < b.tmps.size
      · rw [if_pos ⟨hdt, hts⟩]
        unfold valD
        simp only [hdt]
        rw [if_pos h0]
      · rw [if_neg (fun h => hts h.2)]
        simp [Array.getD, hts, hs]
    · rw [if_neg (fun h => hdt h.1)]
      rcases h with h | ⟨j, oj, hj, hjt⟩
      · exact .inl h
      · cases j with
        | zero => simp at hj; subst hj; exact absurd hjt hdt
        | succ j => exact .inr ⟨j, oj, by simpa using hj, hjt⟩
end Go.Proofs.YtpmjfpdogbcigaaDoor.S2
