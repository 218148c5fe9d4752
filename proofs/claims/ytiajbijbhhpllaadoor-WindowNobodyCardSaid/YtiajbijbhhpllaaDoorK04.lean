/- Part 4 of the proof: S2J, S2I, Dec05. -/
import Derived.Test.YtiajbijbhhpllaaDoorK03
import Derived.Scope
set_option linter.unusedVariables false
set_option linter.unusedSimpArgs false
namespace Go.Proofs.YtiajbijbhhpllaaDoor.S2
open Go Go.RowKit Sim
theorem filter_le {p q : Nat → Bool} (h : ∀ j, q j = true → p j = true) : ∀ l : List Nat, (l.filter q).length ≤ (l.filter p).length
  | [] => Nat.le_refl _
  | x :: r => by
    have ih := filter_le h r
    cases hq : q x
    · rw [List.filter_cons_of_neg (by simp [hq])]
      cases hp : p x
      · rw [List.filter_cons_of_neg (by simp [hp])]; exact ih
      · rw [List.filter_cons_of_pos hp, List.length_cons]; omega
    · rw [List.filter_cons_of_pos hq, List.filter_cons_of_pos (h x hq), List.length_cons, List.length_cons]; omega
theorem filter_lt {p q : Nat → Bool} (h : ∀ j, q j = true → p j = true) {i : Nat} (hp : p i = true) (hq : q i = false) : ∀ l : List Nat, i ∈ l → (l.filter q).length < (l.filter p).length
  | [], hi => by cases hi
  | x :: r, hi => by
    rcases List.mem_cons.mp hi with rfl | hi
    · rw [List.filter_cons_of_neg (by simp [hq]), List.filter_cons_of_pos hp, List.length_cons]
      have := filter_le h r
      omega
    · have ih := filter_lt h hp hq r hi
      cases hqx : q x
      · rw [List.filter_cons_of_neg (by simp [hqx])]
        cases hpx : p x
        · rw [List.filter_cons_of_neg (by simp [hpx])]; exact ih
        · rw [List.filter_cons_of_pos hpx, List.length_cons]; omega
      · rw [List.filter_cons_of_pos hqx, List.filter_cons_of_pos (h x hqx), List.length_cons, List.length_cons]; omega
def lstB (listed : Array Bool) (j : Nat) : Bool := listed.getD j false
def setL (L : Nat → Bool) (i : Nat) : Nat → Bool := fun j => if j = i then true else L j
theorem lstB_set {listed : Array Bool} {i : Nat} (h : i < listed.size) : lstB (listed.setIfInBounds i true) = setL (lstB listed) i := by
  funext j
  unfold lstB setL
  simp only [Array.getD_eq_getD_getElem?, Array.getElem?_setIfInBounds]
  by_cases hij : i = j
  · subst hij; simp [h]
  · rw [if_neg hij, if_neg (fun e => hij e.symm)]
theorem lstB_true {listed : Array Bool} {i : Nat} (h : i < listed.size) : listed.getD i true = lstB listed i := by
  unfold lstB; simp [Array.getD, h]
theorem wpAny_steps {P : Program} {ops : Array Oper} {Q : Exit → Act → World → Prop} {I : (Nat → Bool) → Act → World → Prop}
    (step : ∀ L i o a w, ops[i]? = some o → I L a w → L i = false → (∀ e ∈ o.after, Region.binds .any e = true → L e.on = true) → ∀ K : Act → World → Prop, (∀ a' w', I (setL L i) a' w' → K a' w') → wpOp P ops Q i K a w)
    (last : ∀ L a w, (∀ i, i < ops.size → L i = true) → I L a w → Q .normal a w)
    (dep : ∀ i o, ops[i]? = some o → ∀ e ∈ o.after, Region.binds .any e = true → e.on < i) :
    ∀ (fuel : Nat) (listed : Array Bool) (a : Act) (w : World), listed.size = ops.size → ((List.range ops.size).filter fun i => !lstB listed i).length ≤ fuel → I (lstB listed) a w → wpAny P .any ops Q fuel listed a w := by
  have done : ∀ listed : Array Bool, listed.size = ops.size → Region.ready .any ops listed = [] → ∀ i, i < ops.size → lstB listed i = true := by
    intro listed hs hr i
    induction i using Nat.strongRecOn with
    | _ i ih =>
      intro hi
      cases hl : lstB listed i
      · exfalso
        have : i ∈ Region.ready .any ops listed := mem_ready.2 ⟨by rw [lstB_true (by omega)]; exact hl, ops[i], by simp [hi], fun e he hb => by
          have hlt := dep i ops[i] (by simp [hi]) e he hb
          exact ih e.on hlt (by omega)⟩
        rw [hr] at this; cases this
      · rfl
  intro fuel
  induction fuel with
  | zero =>
    intro listed a w hs hf hI
    have all : ∀ i, i < ops.size → lstB listed i = true := fun i hi => by
      cases hl : lstB listed i
      · exfalso
        have : i ∈ (List.range ops.size).filter fun i => !lstB listed i := List.mem_filter.mpr ⟨List.mem_range.mpr hi, by simp [hl]⟩
        rw [List.length_eq_zero_iff.mp (Nat.le_zero.mp hf)] at this
        cases this
      · rfl
    refine ⟨?_, last _ a w all hI⟩
    cases hr : Region.ready .any ops listed with
    | nil => rfl
    | cons j r =>
      exfalso
      have hj : j ∈ Region.ready .any ops listed := by rw [hr]; exact List.mem_cons_self
      obtain ⟨h1, o, ho, _⟩ := mem_ready.1 hj
      have hjs : j < ops.size := by
        rcases Nat.lt_or_ge j ops.size with h | h
        · exact h
        · rw [Array.getElem?_eq_none h] at ho; cases ho
      rw [lstB_true (by omega), all j hjs] at h1
      cases h1
  | succ fuel ih =>
    intro listed a w hs hf hI
    refine ⟨fun hr => last _ a w (done listed hs hr) hI, fun i hi => ?_⟩
    obtain ⟨h1, o, ho, h2⟩ := mem_ready.1 hi
    have his : i < ops.size := by
      rcases Nat.lt_or_ge i ops.size with h | h
      · exact h
      · rw [Array.getElem?_eq_none h] at ho; cases ho
    rw [lstB_true (by omega)] at h1
    refine step (lstB listed) i o a w ho hI h1 h2 _ fun a' w' hI' => ?_
    refine ih (listed.setIfInBounds i true) a' w' (by simp [hs]) ?_ (by rw [lstB_set (by omega)]; exact hI')
    have hlt := filter_lt (p := fun j => !lstB listed j) (q := fun j => !lstB (listed.setIfInBounds i true) j) (fun j hj => by
      rw [lstB_set (by omega)] at hj
      unfold setL at hj
      by_cases hji : j = i
      · rw [if_pos hji] at hj; cases hj
      · rw [if_neg hji] at hj; exact hj) (i := i) (by simp [h1]) (by rw [lstB_set (by omega)]; simp [setL]) (List.range ops.size) (List.mem_range.mpr his)
    omega
theorem newsL_len (L L' : Nat → Bool) : ∀ (ds : List Dn) (i k : Nat), (newsL L i ds).length = (newsL L' k ds).length
  | [], _, _ => rfl
  | d :: r, i, k => by
    unfold newsL
    cases d.e with
    | none => exact newsL_len L L' r _ _
    | some e => simp [newsL_len L L' r (i + 1) (k + 1)]
theorem newsL_none {L : Nat → Bool} {i : Nat} {d : Dn} {r : List Dn} (h : d.e = none) : newsL L i (d :: r) = newsL L (i + 1) r := by simp [newsL, h]
theorem newsL_some {L : Nat → Bool} {i : Nat} {d : Dn} {r : List Dn} {e : LE} (h : d.e = some e) : newsL L i (d :: r) = { e with dead := !L i } :: newsL L (i + 1) r := by simp [newsL, h]
theorem newsL_append (L : Nat → Bool) : ∀ (ds ds' : List Dn) (i : Nat), newsL L i (ds ++ ds') = newsL L i ds ++ newsL L (i + ds.length) ds'
  | [], ds', i => rfl
  | d :: r, ds', i => by
    have ih := newsL_append L r ds' (i + 1)
    rw [show i + 1 + r.length = i + (d :: r).length by simp; omega] at ih
    show newsL L i (d :: (r ++ ds')) = _
    cases he : d.e with
    | none => rw [newsL_none he, newsL_none he]; exact ih
    | some e => rw [newsL_some he, newsL_some he, ih]; rfl
theorem newsL_congr {L L' : Nat → Bool} : ∀ (ds : List Dn) (i : Nat), (∀ j, i ≤ j → j < i + ds.length → L j = L' j) → newsL L i ds = newsL L' i ds
  | [], _, _ => rfl
  | d :: r, i, h => by
    have ih := newsL_congr r (i + 1) (fun j h1 h2 => h j (by omega) (by simp; omega))
    unfold newsL
    cases d.e with
    | none => exact ih
    | some e => simp only [ih, h i (Nat.le_refl _) (by simp)]
theorem newsL_le {F L : Nat → Bool} (h : ∀ j, F j = true → L j = true) : ∀ (ds : List Dn) (i p : Nat) (e : LE), (newsL F i ds)[p]? = some e → e.dead = false → (newsL L i ds)[p]? = some e
  | [], _, _, _, hp, _ => by simp [newsL] at hp
  | d :: r, i, p, e, hp, hd => by
    unfold newsL at hp ⊢
    cases he : d.e with
    | none => rw [he] at hp; exact newsL_le h r _ _ _ hp hd
    | some e' =>
      rw [he] at hp
      cases p with
      | zero =>
        simp at hp ⊢
        subst hp
        simp at hd
        simp [hd, h i hd]
      | succ p =>
        simp at hp ⊢
        exact newsL_le h r _ _ _ hp hd
theorem WR.kill {w0 : Base} {w : World} {ν : Nu} {own own' : Mem} {mem : Bool} (h : WR w0 ν own mem w) (hb : own'.b = own.b) (hl : ∀ (p : Nat) e, own'.l[p]? = some e → e.dead = false → own.l[p]? = some e) (hok : OkB own'.b.length own'.l.length own'.b) : WR w0 ν own' true w :=
  ⟨h.below, fun i b hi => h.blk i b (by rw [← hb]; exact hi), hok, fun i j hi hj => h.inj i j (by rw [← hb]; exact hi) (by rw [← hb]; exact hj), fun p e hp hd => h.lst p e (hl p e hp hd) hd, fun p e hp hd ho g hg => by
    obtain ⟨s1, s2⟩ := h.sep p e (hl p e hp hd) hd ho g hg
    exact ⟨fun i hi => s1 i (by rw [← hb]; exact hi), fun k' e' hk' hd' ho' hne => s2 k' e' (hl k' e' hk' hd') hd' ho' hne⟩, (fun h => by cases h), ⟨h.fr.here, fun i hi => h.fr.offb i (by rw [← hb]; exact hi), fun p e hp hd ho g hg => h.fr.offl p e (hl p e hp hd) hd ho g hg⟩⟩
theorem WR.revive {w0 : Base} {w : World} {ν : Nu} {own : Mem} {mem : Bool} (h : WR w0 ν own mem w) {p : Nat} {e : LE} {v : Value} (hp : p < own.l.length) (ho : e.own = true) (hv : OwnB w0.heap.size w e v) (hf : ∀ g, v.ownBlock = some g → Fresh ν own g) (hF : ∀ g, v.ownBlock = some g → w0.F g = none) {m : Nat} (hm : m ≤ p) (hok : OkB own.b.length m own.b) :
    WR w0 (extV ν p v) { own with l := own.l.set p e } true w := by
  have vold : ∀ i, i ≠ p → (extV ν p v).v i = ν.v i := fun i hi => by unfold extV; simp only; rw [if_neg hi]
  have old : ∀ i e', (own.l.set p e)[i]? = some e' → (i ≠ p ∧ own.l[i]? = some e') ∨ (i = p ∧ e' = e) := fun i e' hi => by
    by_cases hip : p = i
    · subst hip
      rw [List.getElem?_set_self hp] at hi
      simp only [Option.some.injEq] at hi
      exact .inr ⟨rfl, hi.symm⟩
    · rw [List.getElem?_set_ne hip] at hi
      exact .inl ⟨fun e => hip e.symm, hi⟩
  refine ⟨h.below, fun i b hi => ⟨(h.blk i b hi).1.congr (hok i b hi) ((extV_old ν own.b.length p v).mono (Nat.le_refl _) hm), (h.blk i b hi).2⟩, by simpa using h.okb, h.inj, fun i e' hi hd => ?_, fun i e' hi hd ho' g hb => ?_, (fun h => by cases h), ⟨h.fr.here, h.fr.offb, fun i e' hi hd ho' g hb => by
    rcases old i e' hi with ⟨hl, hi'⟩ | ⟨rfl, rfl⟩
    · rw [vold i hl] at hb; exact h.fr.offl i e' hi' hd ho' g hb
    · rw [extV_new] at hb; exact hF g hb⟩⟩
  · rcases old i e' hi with ⟨hl, hi'⟩ | ⟨rfl, rfl⟩
    · rw [vold i hl]; exact h.lst i e' hi' hd
    · rw [extV_new]; unfold LOk; rw [ho]; exact hv
  · rcases old i e' hi with ⟨hl, hi'⟩ | ⟨rfl, rfl⟩
    · rw [vold i hl] at hb
      obtain ⟨s1, s2⟩ := h.sep i e' hi' hd ho' g hb
      refine ⟨s1, fun i' e2 hi2 hd2 ho2 hne => ?_⟩
      rcases old i' e2 hi2 with ⟨hl', hi3⟩ | ⟨rfl, rfl⟩
      · rw [vold i' hl']; exact s2 i' e2 hi3 hd2 ho2 hne
      · rw [extV_new]
        intro heq
        exact (hf g heq).2 i e' hi' hd ho' hb
    · rw [extV_new] at hb
      refine ⟨(hf g hb).1, fun i' e2 hi2 hd2 ho2 hne => ?_⟩
      rcases old i' e2 hi2 with ⟨hl', hi3⟩ | ⟨rfl, rfl⟩
      · rw [vold i' hl']; exact (hf g hb).2 i' e2 hi3 hd2 ho2
      · exact absurd rfl hne
theorem getD_put (a : Act) (dst : Option Tmp) (v : Value) (t : Nat) : (a.put dst v).tmps.getD t undef = if dst = some t ∧ t < a.tmps.size then v else a.tmps.getD t undef := by
  cases dst with
  | none => simp [Act.put]
  | some d =>
    simp only [Act.put, Array.getD_eq_getD_getElem?, Array.getElem?_setIfInBounds, Option.some.injEq]
    by_cases hdt : d = t
    · subst hdt
      by_cases hs : d < a.tmps.size <;> simp [hs]
    · simp [hdt]
theorem put_size (a : Act) (dst : Option Tmp) (v : Value) : (a.put dst v).tmps.size = a.tmps.size := by cases dst <;> simp [Act.put]
theorem put_defers' (a : Act) (dst : Option Tmp) (v : Value) : (a.put dst v).defers = a.defers := by cases dst <;> rfl
theorem dstIs_iff {o : Oper} {t : Nat} : dstIs o t = true ↔ o.dst = some t := by
  unfold dstIs
  cases o.dst with
  | none => simp
  | some u => simp
structure Dep (ops : Array Oper) (i : Nat) (o : Oper) : Prop where
  sel : ∀ cs b, o.op ≠ .select cs b
  low : ∀ e ∈ o.after, Region.binds .any e = true → e.on < i
  looks : ∀ j, looksB ops o j = true → j < i ∧ ∃ e ∈ o.after, Region.binds .any e = true ∧ e.on = j
  once : ∀ j oj t, ops[j]? = some oj → o.dst = some t → oj.dst = some t → i = j
theorem depB_ok {ops : Array Oper} (h : depB ops = true) {i : Nat} {o : Oper} (ho : ops[i]? = some o) : Dep ops i o := by
  have lt : ∀ {j : Nat} {oj : Oper}, ops[j]? = some oj → j < ops.size := fun {j oj} hj => by
    rcases Nat.lt_or_ge j ops.size with h | h
    · exact h
    · rw [Array.getElem?_eq_none h] at hj; cases hj
  have hi := List.all_eq_true.mp h i (List.mem_range.mpr (lt ho))
  rw [ho] at hi
  simp only [Bool.and_eq_true, List.all_eq_true] at hi
  obtain ⟨⟨⟨h1, h2⟩, h3⟩, h4⟩ := hi
  refine ⟨fun cs b e => by rw [e] at h1; simp [notSel] at h1, fun e he hb => ?_, fun j hj => ?_, fun j oj t hj hd hdj => ?_⟩
  · have := h2 e (by simpa using he)
    rw [hb] at this
    simpa [Nat.blt_eq] using this
  · have hjs : j < ops.size := by
      unfold looksB at hj
      split at hj
      · rename_i oj hoj; exact lt hoj
      · cases hj
    have := h3 j (List.mem_range.mpr hjs)
    rw [hj] at this
    simp only [Bool.not_true, Bool.false_or, Bool.and_eq_true, List.any_eq_true] at this
    obtain ⟨k1, e, he, hb, hon⟩ := this
    exact ⟨by simpa [Nat.blt_eq] using k1, e, by simpa using he, hb, Nat.eq_of_beq_eq_true hon⟩
  · have := h4 j (List.mem_range.mpr (lt hj))
    rw [hd, hj] at this
    simp only [Bool.or_eq_true] at this
    rcases this with h | h
    · exact Nat.eq_of_beq_eq_true h
    · rw [dstIs_iff.mpr hdj] at h; cases h
def KD (s0 : Mem) (ds : List Dn) : Prop := ∀ (i : Nat) d, ds[i]? = some d → (d.e = none ∧ okV s0.b.length s0.l.length d.x) ∨ ∃ e, d.e = some e ∧ e.own = true ∧ e.dead = false ∧ d.x = .c (s0.l.length + (newsL (fun _ => true) 0 (ds.take i)).length)
structure ID (n : Nat) (ops : Array Oper) (w0 : Base) (ν0 : Nu) (s0 : Mem) (a0 : Act) (ds : List Dn) (L : Nat → Bool) (ν : Nu) (a : Act) (w : World) : Prop where
  ag : Agree s0.b.length s0.l.length ν0 ν
  size : a.tmps.size = n
  df : a.defers = []
  base : ∀ t, (∀ i o, ops[i]? = some o → o.dst = some t → L i = false) → a.tmps.getD t undef = a0.tmps.getD t undef
  done : ∀ (i : Nat) o d t, ops[i]? = some o → ds[i]? = some d → o.dst = some t → L i = true → Is ν d.x (a.tmps.getD t undef)
  wr : WR w0 ν { s0 with l := s0.l ++ newsL L 0 ds } true w
theorem ID.put {n : Nat} {ops : Array Oper} {w0 : Base} {ν0 : Nu} {s0 : Mem} {a0 : Act} {ds : List Dn} {L : Nat → Bool} {ν : Nu} {a : Act} {w : World} (h : ID n ops w0 ν0 s0 a0 ds L ν a w) (hdep : depB ops = true) (hK : KD s0 ds)
    {k : Nat} {o : Oper} {d : Dn} (ho : ops[k]? = some o) (hd : ds[k]? = some d) (hn : ∀ t, o.dst = some t → t < n) {ν' : Nu} {v : Value} {w' : World} (hag : Agree s0.b.length s0.l.length ν ν')
    (hoth : ∀ (i : Nat) di, i ≠ k → ds[i]? = some di → ∀ e, di.e = some e → ν'.v (s0.l.length + (newsL (fun _ => true) 0 (ds.take i)).length) = ν.v (s0.l.length + (newsL (fun _ => true) 0 (ds.take i)).length))
    (hv : Is ν' d.x v) (hw : WR w0 ν' { s0 with l := s0.l ++ newsL (setL L k) 0 ds } true w') : ID n ops w0 ν0 s0 a0 ds (setL L k) ν' (a.put o.dst v) w' := by
  refine ⟨h.ag.trans hag (Nat.le_refl _) (Nat.le_refl _), by rw [put_size, h.size], by rw [put_defers', h.df], fun t ht => ?_, fun i oi di t hoi hdi hti hL => ?_, hw⟩
  · rw [getD_put, if_neg]
    · refine h.base t fun i oi hoi hti => ?_
      have := ht i oi hoi hti
      unfold setL at this
      by_cases hik : i = k
      · rw [if_pos hik] at this; cases this
      · rw [if_neg hik] at this; exact this
    · intro ⟨hdt, _⟩
      have := ht k o ho hdt
      simp [setL] at this
  · rw [getD_put]
    by_cases hik : i = k
    · subst hik
      rw [ho] at hoi
      obtain rfl := Option.some.inj hoi
      rw [hd] at hdi
      obtain rfl := Option.some.inj hdi
      rw [if_pos ⟨hti, by rw [h.size]; exact hn t hti⟩]
      exact hv
    · have hne : ¬ (o.dst = some t ∧ t < a.tmps.size) := fun ⟨hdt, _⟩ => hik ((depB_ok hdep hoi).once k o t ho hti hdt)
      rw [if_neg hne]
      have hLi : L i = true := by unfold setL at hL; rw [if_neg hik] at hL; exact hL
      have h0 := h.done i oi di t hoi hdi hti hLi
      rcases hK i di hdi with ⟨_, hok⟩ | ⟨e, he, _, _, hx⟩
      · exact Is_congr hok hag h0
      · rw [hx] at h0 ⊢
        show _ = ν'.v _
        rw [hoth i di hik hdi e he]; exact h0
def valD (L : Nat → Bool) (a : Act) (ν : Nu) (i : Nat) (o : Oper) (d : Dn) : Value := match o.dst with
  | some t => if L i = true then a.tmps.getD t undef else conc ν d.x
  | none => undef
def actD (L : Nat → Bool) (a : Act) (ν : Nu) : Nat → List Oper → List Dn → Act → Act
  | i, o :: r, d :: ds, b => actD L a ν (i + 1) r ds (b.put o.dst (valD L a ν i o d))
  | _, _, _, b => b
theorem actD_snoc (L : Nat → Bool) (a : Act) (ν : Nu) (o : Oper) (d : Dn) : ∀ (os : List Oper) (ds : List Dn) (i : Nat) (b : Act), os.length = ds.length → actD L a ν i (os ++ [o]) (ds ++ [d]) b = (actD L a ν i os ds b).put o.dst (valD L a ν (i + os.length) o d)
  | [], [], i, b, _ => rfl
  | [], _ :: _, _, _, h => by simp at h
  | _ :: _, [], _, _, h => by simp at h
  | p :: r, q :: ds, i, b, h => by
    have := actD_snoc L a ν o d r ds (i + 1) (b.put p.dst (valD L a ν i p q)) (by simpa using h)
    rw [show i + 1 + r.length = i + (p :: r).length by simp; omega] at this
    exact this
theorem actD_get (L : Nat → Bool) (a : Act) (ν : Nu) (t : Nat) : ∀ (os : List Oper) (ds : List Dn) (i : Nat) (b : Act), os.length = ds.length → a.tmps.size = b.tmps.size → (∀ (j : Nat) o, os[j]? = some o → o.dst = some t → L (i + j) = true) →
    (b.tmps.getD t undef = a.tmps.getD t undef ∨ ∃ (j : Nat) (o : Oper), os[j]? = some o ∧ o.dst = some t) → (actD L a ν i os ds b).tmps.getD t undef = a.tmps.getD t undef
  | [], [], i, b, _, _, _, h => by
    rcases h with h | ⟨j, o, hj, _⟩
    · exact h
    · simp at hj
  | [], _ :: _, _, _, h, _, _, _ => by simp at h
  | _ :: _, [], _, _, h, _, _, _ => by simp at h
  | o :: r, d :: ds, i, b, hl, hs, hL, h => by
    show (actD L a ν (i + 1) r ds (b.put o.dst (valD L a ν i o d))).tmps.getD t undef = _
    refine actD_get L a ν t r ds (i + 1) _ (by simpa using hl) (by rw [put_size]; exact hs) (fun j oj hj ht => by have := hL (j + 1) oj (by simpa using hj) ht; rwa [show i + 1 + j = i + (j + 1) by omega]) ?_
    rw [getD_put]
    by_cases hdt : o.dst = some t
    · left
      have h0 : L i = true := by have := hL 0 o rfl hdt; rwa [Nat.add_zero] at this
      by_cases hts : t < b.tmps.size
      · rw [if_pos ⟨hdt, hts⟩]
        unfold valD
        simp only [hdt]
        rw [if_pos h0]
      · rw [if_neg (fun h => hts h.2)]
        simp [Array.getD, hts, hs]
    · rw [if_neg (fun h => hdt h.1)]
      rcases h with h | ⟨j, oj, hj, hjt⟩
      · exact .inl h
      · cases j with
        | zero => simp at hj; subst hj; exact absurd hjt hdt
        | succ j => exact .inr ⟨j, oj, by simpa using hj, hjt⟩
end Go.Proofs.YtiajbijbhhpllaaDoor.S2
namespace Go.Proofs.YtiajbijbhhpllaaDoor.S2
open Go Go.RowKit Sim
theorem getElem_of_getD {x y : Array Value} {t : Nat} (hs : x.size = y.size) (h : x.getD t undef = y.getD t undef) : x[t]? = y[t]? := by
  by_cases ht : t < x.size
  · have hy : t < y.size := by omega
    simp only [Array.getD, ht, hy, dite_true] at h
    rw [Array.getElem?_eq_getElem ht, Array.getElem?_eq_getElem hy]
    exact congrArg some h
  · rw [Array.getElem?_eq_none (by omega), Array.getElem?_eq_none (by omega)]
theorem exec_same {ops : Array Oper} {o : Oper} {a b : Act} (hs : ∀ cs b, o.op ≠ .select cs b) (h : ∀ t ∈ o.looksAt ops, b.tmps.getD t undef = a.tmps.getD t undef) : execOp a.eval o = execOp b.eval o :=
  execOp_congr o hs fun x hx => by
    cases x with
    | tmp t => exact (h t (List.mem_append_left _ (List.mem_filterMap.2 ⟨.tmp t, by simpa using hx, rfl⟩))).symm
    | _ => rfl
theorem wanted_same {ops : Array Oper} {o : Oper} {a b : Act} (hz : a.tmps.size = b.tmps.size) (h : ∀ t ∈ o.looksAt ops, b.tmps.getD t undef = a.tmps.getD t undef) : Region.wanted o (yielded ops a.tmps) = Region.wanted o (yielded ops b.tmps) := by
  unfold Region.wanted
  cases hg : o.guard with
  | none => rfl
  | some p =>
    obtain ⟨g, want⟩ := p
    have : yielded ops a.tmps g = yielded ops b.tmps g := by
      unfold yielded
      cases hd : (ops[g]?).bind (·.dst) with
      | none => rfl
      | some t =>
        have hm : t ∈ o.looksAt ops := by
          unfold Oper.looksAt
          rw [hg]
          refine List.mem_append_right _ ?_
          simp only [hd]; simp
        simp only [Option.bind_some]
        rw [getElem_of_getD hz (h t hm).symm]
    simp only [this]
theorem wantS_tm {n : Nat} {ops : Array Oper} {o : Oper} {s s1 : St} {t : Bool} (h : wantS n ops o s = some (t, s1)) : ∀ p ∈ s1.tmps, p ∈ s.tmps ∨ ∃ b, p.2 = .inl ([], .bool b) := by
  unfold wantS at h
  split at h
  · simp only [Option.some.injEq, Prod.mk.injEq] at h
    obtain ⟨_, rfl⟩ := h
    exact fun p hp => .inl hp
  · split at h
    · rename_i d hd
      cases hb : Nat.blt d n
      · rw [hb] at h; cases h
      · rw [hb] at h
        simp only [cond_true] at h
        split at h
        · rename_i fl b hl
          simp only [Option.some.injEq, Prod.mk.injEq] at h
          obtain ⟨_, rfl⟩ := h
          obtain ⟨_, _, h3, _⟩ := ask_ok s fl b
          intro p hp
          rcases List.mem_cons.mp hp with rfl | hp
          · exact .inr ⟨_, rfl⟩
          · rw [h3] at hp; exact .inl hp
        · simp only [Option.some.injEq, Prod.mk.injEq] at h
          obtain ⟨_, rfl⟩ := h
          exact fun p hp => .inl hp
        · cases h
    · cases h
inductive StepD (E : Env) (n : Nat) (ops : Array Oper) (o : Oper) (pre : List Dn) (s : St) : Dn → St → Prop where
  | skip (s1) (h : wantS n ops o s = some (false, s1)) : StepD E n ops o pre s ⟨.inl ([], undef), none⟩ s1
  | ro (s1 x c q) (h : wantS n ops o s = some (true, s1)) (h1 : simRO E o (focus ops o pre s1) = some (x, c, q)) (h2 : okVB s1.own.b.length s1.own.l.length x = true) : StepD E n ops o pre s ⟨x, none⟩ { s1 with obl := more s1 q }
  | plain (s1 f args p s2) (h : wantS n ops o s = some (true, s1)) (h1 : callArgs (focus ops o pre s1) o = some (f, args)) (h2 : pcallS E f args (focus ops o pre s1) = some (.inl p, s2)) : StepD E n ops o pre s ⟨.inl p, none⟩ { s1 with obl := s2.obl }
  | lplain (s1 f args l fn v b) (h : wantS n ops o s = some (true, s1)) (h1 : callArgs (focus ops o pre s1) o = some (f, args)) (h2 : argsX (focus ops o pre s1) args = some l) (h3 : E.P.funcs[f]? = some fn) (h4 : (fn.name == "runtime.NumGoroutine") = false ∧ fn.body.isNone = false)
      (h5 : E.lcall f l = some (false, [.inl v], b)) : StepD E n ops o pre s ⟨.inl ([true], v), none⟩ { s1 with obl := (b, true) :: (subsO (focus ops o pre s1) args ++ s1.obl) }
  | lst (s1 f args l fn e b) (h : wantS n ops o s = some (true, s1)) (h1 : callArgs (focus ops o pre s1) o = some (f, args)) (h2 : argsX (focus ops o pre s1) args = some l) (h3 : E.P.funcs[f]? = some fn) (h4 : (fn.name == "runtime.NumGoroutine") = false ∧ fn.body.isNone = false)
      (h5 : E.lcall f l = some (false, [.inr e], b)) : StepD E n ops o pre s ⟨.c (s1.own.l.length + (newsL (fun _ => true) 0 pre).length), some { e with own := true, dead := false }⟩ { s1 with obl := (b, true) :: (subsO (focus ops o pre s1) args ++ s1.obl) }
  | lit (s1 x m q e) (h : wantS n ops o s = some (true, s1)) (h1 : simLX E o (focus ops o pre s1) = some (x, m, q)) (h2 : m.l.getLast? = some e) : StepD E n ops o pre s ⟨.c (s1.own.l.length + (newsL (fun _ => true) 0 pre).length), some e⟩ s1
  | eff (s1 f args p b) (h : wantS n ops o s = some (true, s1)) (h1 : callArgs (focus ops o pre s1) o = some (f, args)) (h2 : effP E f args s1.own = some (p, b)) : StepD E n ops o pre s ⟨.inl p, none⟩ { s1 with obl := (b, true) :: s1.obl }
  | mk (s1 e q) (h : wantS n ops o s = some (true, s1)) (h1 : simMK E o (focus ops o pre s1) = some (e, q)) : StepD E n ops o pre s ⟨.c (s1.own.l.length + (newsL (fun _ => true) 0 pre).length), some e⟩ { s1 with obl := more s1 q }
theorem simMK_some {E : Env} {o : Oper} {s : St} {e : LE} {q : List (Bool × Bool)} (h : simMK E o s = some (e, q)) : ∃ (t : TypeId) (l c : Operand) (f f2 : List Bool) (kl kc : IntKind) (n m : Int) (et : TypeId) (i : TypeInfo) (z : Value), o.op = .makeSlice t l c ∧ ev s l = .inl (f, .int kl n) ∧ ev s c = .inl (f2, .int kc m) ∧ E.P.underlying t = some (.slice et) ∧ E.P.info? et = some i ∧ i.zero = some z ∧ z.cells.size = i.size ∧ 0 < i.size ∧ z.cells.toList.all Value.oneCell' = true ∧
    e = ⟨et, i.size, n.toNat, fun _ => z.cells.toList, true, false, anyF f⟩ ∧ q = [(pre (decide (n = m ∧ 0 ≤ n ∧ i.bytes * n.toNat ≤ 281474976710656 ∧ n.toNat ≤ maxLen)), true)] := by
  unfold simMK at h
  split at h
  · rename_i t l c ho
    split at h
    · rename_i f kl n f2 kc m et hl hc hu
      split at h
      · rename_i i hi
        split at h
        · rename_i z hz
          simp only [cond_eq_ite] at h
          split at h
          · rename_i hb
            simp only [Bool.and_eq_true] at hb
            simp only [Option.some.injEq, Prod.mk.injEq] at h
            obtain ⟨rfl, rfl⟩ := h
            exact ⟨t, l, c, f, f2, kl, kc, n, m, et, i, z, ho, hl, hc, hu, hi, hz, Nat.eq_of_beq_eq_true hb.1.1, by simpa [Nat.blt_eq] using hb.1.2, hb.2, rfl, rfl⟩
          · cases h
        · cases h
      · cases h
    · cases h
  · cases h
theorem lit_last {E : Env} {o : Oper} {s : St} {x : SV} {m : Mem} {q : List (Bool × Bool)} {e : LE} (h1 : simLX E o s = some (x, m, q)) (h2 : m.l.getLast? = some e) : ∃ t len parts cells et i, o.op = .buildSlice t len parts ∧ parts.toList.all (fun p => isV (ev s p.2)) = true ∧ litB E.P t len (parts.toList.map fun p => (p.1, rho s p.2)) = some (cells, et) ∧ 0 < i ∧ cells.length = len * i ∧ cells.all Value.oneCell' = true ∧ len ≤ 2 ^ 24 ∧ e = ⟨et, i, len, tabE (chunks i len cells), true, false, true⟩ := by
  obtain ⟨t, len, parts, cells, et, i, ho, hb, hlit, hi, hsz, hlen, hone, hle, rfl, rfl, rfl⟩ := simLX_some h1
  simp only [List.getLast?_append, List.getLast?_singleton, Option.some_or, Option.some.injEq] at h2
  exact ⟨t, len, parts, cells, et, i.size, ho, hb, hlit, hsz, hlen, hone, hle, h2.symm⟩
theorem stepD_is {E : Env} {n : Nat} {ops : Array Oper} {o : Oper} {pre : List Dn} {s s1 : St} {d : Dn} (h : stepD E n ops o pre s = some (d, s1)) : StepD E n ops o pre s d s1 := by
  unfold stepD at h
  split at h
  · cases h
  · rename_i s0 hw
    simp only [Option.some.injEq, Prod.mk.injEq] at h
    obtain ⟨rfl, rfl⟩ := h
    exact .skip _ hw
  · rename_i s0 hw
    split at h
    · rename_i e q hmk
      simp only [Option.some.injEq, Prod.mk.injEq] at h
      obtain ⟨rfl, rfl⟩ := h
      exact .mk _ _ _ hw hmk
    · split at h
      · rename_i x c q hro
        cases hb : okVB s0.own.b.length s0.own.l.length x
        · rw [hb] at h; cases h
        · rw [hb] at h
          simp only [cond_true, Option.some.injEq, Prod.mk.injEq] at h
          obtain ⟨rfl, rfl⟩ := h
          exact .ro _ _ _ _ hw hro hb
      · split at h
        · rename_i x m q hlx
          split at h
          · rename_i e hla
            simp only [Option.some.injEq, Prod.mk.injEq] at h
            obtain ⟨rfl, rfl⟩ := h
            exact .lit _ _ _ _ _ hw hlx hla
          · cases h
        · split at h
          · cases h
          · rename_i f args hca
            split at h
            · rename_i p b hp
              simp only [Option.some.injEq, Prod.mk.injEq] at h
              obtain ⟨rfl, rfl⟩ := h
              exact .eff _ _ _ _ _ hw hca hp
            · split at h
              · rename_i p s2 hp
                simp only [Option.some.injEq, Prod.mk.injEq] at h
                obtain ⟨rfl, rfl⟩ := h
                exact .plain _ _ _ _ _ hw hca hp
              · cases h
              · split at h
                · rename_i l fn hl hf
                  cases hn : (fn.name == "runtime.NumGoroutine" || fn.body.isNone)
                  · rw [hn] at h
                    simp only [cond_false] at h
                    simp only [Bool.or_eq_false_iff] at hn
                    split at h
                    · rename_i v b hc
                      simp only [Option.some.injEq, Prod.mk.injEq] at h
                      obtain ⟨rfl, rfl⟩ := h
                      exact .lplain _ _ _ _ _ _ _ hw hca hl hf hn hc
                    · rename_i e b hc
                      simp only [Option.some.injEq, Prod.mk.injEq] at h
                      obtain ⟨rfl, rfl⟩ := h
                      exact .lst _ _ _ _ _ _ _ hw hca hl hf hn hc
                    · cases h
                  · rw [hn] at h; cases h
                · cases h
theorem StepD.st {E : Env} {n : Nat} {ops : Array Oper} {o : Oper} {pre : List Dn} {s s1 : St} {d : Dn} (h : StepD E n ops o pre s d s1) :
    s1.own = s.own ∧ s1.mem = s.mem ∧ s1.lo = s.lo ∧ s1.llo = s.llo ∧ (∀ p ∈ s.obl, p ∈ s1.obl) ∧ (∀ p ∈ s1.tmps, p ∈ s.tmps ∨ ∃ b, p.2 = .inl ([], .bool b)) ∧
      ((d.e = none ∧ okV s.own.b.length s.own.l.length d.x) ∨ ∃ e, d.e = some e ∧ e.own = true ∧ e.dead = false ∧ d.x = .c (s.own.l.length + (newsL (fun _ => true) 0 pre).length)) := by
  cases h with
  | skip _ h =>
    obtain ⟨k1, k2, k3, _⟩ := wantS_st h
    exact ⟨k2, k3, k1.lo, k1.llo, k1.ext, wantS_tm h, .inl ⟨rfl, trivial⟩⟩
  | ro s1 x c q h h1 h2 =>
    obtain ⟨k1, k2, k3, _⟩ := wantS_st h
    exact ⟨k2, k3, k1.lo, k1.llo, fun p hp => more_ext _ _ p (k1.ext p hp), wantS_tm (s1 := s1) h, .inl ⟨rfl, by rw [← k2]; exact okVB_ok h2⟩⟩
  | plain s1 f args p s2 h h1 h2 =>
    obtain ⟨k1, k2, k3, _⟩ := wantS_st h
    obtain ⟨l, v, b, fn, fl, _, _, _, _, _, _, rfl⟩ := pcallS_some h2
    exact ⟨k2, k3, k1.lo, k1.llo, fun p hp => List.mem_cons_of_mem _ (k1.ext p hp), wantS_tm (s1 := s1) h, .inl ⟨rfl, trivial⟩⟩
  | lplain s1 f args l fn v b h h1 h2 h3 h4 h5 =>
    obtain ⟨k1, k2, k3, _⟩ := wantS_st h
    exact ⟨k2, k3, k1.lo, k1.llo, fun p hp => List.mem_cons_of_mem _ (List.mem_append_right _ (k1.ext p hp)), wantS_tm (s1 := s1) h, .inl ⟨rfl, trivial⟩⟩
  | lst s1 f args l fn e b h h1 h2 h3 h4 h5 =>
    obtain ⟨k1, k2, k3, _⟩ := wantS_st h
    exact ⟨k2, k3, k1.lo, k1.llo, fun p hp => List.mem_cons_of_mem _ (List.mem_append_right _ (k1.ext p hp)), wantS_tm (s1 := s1) h, .inr ⟨_, rfl, rfl, rfl, by rw [k2]⟩⟩
  | lit s1 x m q e h h1 h2 =>
    obtain ⟨k1, k2, k3, _⟩ := wantS_st h
    obtain ⟨t, len, parts, cells, et, i, _, _, _, _, _, _, _, rfl⟩ := lit_last h1 h2
    exact ⟨k2, k3, k1.lo, k1.llo, k1.ext, wantS_tm (s1 := s1) h, .inr ⟨_, rfl, rfl, rfl, by rw [k2]⟩⟩
  | eff s1 f args p b h h1 h2 =>
    obtain ⟨k1, k2, k3, _⟩ := wantS_st h
    exact ⟨k2, k3, k1.lo, k1.llo, fun p hp => List.mem_cons_of_mem _ (k1.ext p hp), wantS_tm (s1 := s1) h, .inl ⟨rfl, trivial⟩⟩
  | mk s1 e q h h1 =>
    obtain ⟨k1, k2, k3, _⟩ := wantS_st h
    obtain ⟨t, l, c, f, f2, kl, kc, n, m, et, i, z, _, _, _, _, _, _, _, _, _, rfl, rfl⟩ := simMK_some h1
    exact ⟨k2, k3, k1.lo, k1.llo, fun p hp => more_ext _ _ p (k1.ext p hp), wantS_tm (s1 := s1) h, .inr ⟨_, rfl, rfl, rfl, by rw [k2]⟩⟩
theorem simD_st {E : Env} {n : Nat} {ops : Array Oper} {s0 : Mem} : ∀ (rest : List Oper) (pre : List Dn) (s : St) (ds : List Dn) (s' : St), simD E n ops rest pre s = some (ds, s') → s.own = s0 → KD s0 pre → (∀ p ∈ s.tmps, okV s0.b.length (s0.l.length + (newsL (fun _ => true) 0 pre).length) p.2) →
    (∃ r, ds = pre ++ r ∧ r.length = rest.length) ∧ s'.own = s0 ∧ s'.mem = s.mem ∧ s'.lo = s.lo ∧ s'.llo = s.llo ∧ (∀ p ∈ s.obl, p ∈ s'.obl) ∧ KD s0 ds ∧ ∀ p ∈ s'.tmps, okV s0.b.length (s0.l.length + (newsL (fun _ => true) 0 ds).length) p.2
  | [], pre, s, ds, s', h, ho, hK, ht => by
    simp only [simD, Option.some.injEq, Prod.mk.injEq] at h
    obtain ⟨rfl, rfl⟩ := h
    exact ⟨⟨[], by simp, rfl⟩, ho, rfl, rfl, rfl, fun p hp => hp, hK, ht⟩
  | o :: rest, pre, s, ds, s', h, ho, hK, ht => by
    unfold simD at h
    split at h
    · rename_i d s1 hs
      split at h
      · rename_i s2 hp
        obtain ⟨h1, h2, h3, h4, h5, h6, h7⟩ := (stepD_is hs).st
        obtain ⟨p1, p2, p3, p4, p5, p6⟩ := putS_keep hp
        have hK' : KD s0 (pre ++ [d]) := fun i di hi => by
          rcases Nat.lt_or_ge i pre.length with hl | hl
          · rw [List.getElem?_append_left hl] at hi
            rw [List.take_append_of_le_length (by omega)]
            exact hK i di hi
          · have hl2 : i = pre.length := by
              have := lt_of_some_list hi
              simp at this; omega
            subst hl2
            simp at hi
            subst hi
            rw [List.take_left]
            rw [ho] at h7; exact h7
        have hlen : (newsL (fun _ => true) 0 pre).length ≤ (newsL (fun _ => true) 0 (pre ++ [d])).length := by rw [newsL_append]; simp
        obtain ⟨⟨r, r1, r2⟩, k2, k3, k4, k5, k6, k7, k8⟩ := simD_st rest (pre ++ [d]) s2 ds s' h (by rw [p2, h1, ho]) hK' (fun p hp' => by
          have done : ∀ p ∈ s1.tmps, okV s0.b.length (s0.l.length + (newsL (fun _ => true) 0 (pre ++ [d])).length) p.2 := fun p hp' => by
            rcases h6 p hp' with h | ⟨b, h⟩
            · exact (ht p h).mono (Nat.le_refl _) (by omega)
            · rw [h]; trivial
          rcases p6 p hp' with h | h
          · exact done p h
          · rw [h]
            rw [ho] at h7
            rcases h7 with ⟨_, hx⟩ | ⟨e, he, _, _, hx⟩
            · exact hx.mono (Nat.le_refl _) (by omega)
            · rw [hx, newsL_append, newsL_some he]
              show _ < _
              simp)
        refine ⟨⟨d :: r, by rw [r1]; simp, by simp [r2]⟩, k2, by rw [k3, p3, h2], by rw [k4, p4, h3], by rw [k5, p5, h4], fun p hp' => k6 p (by rw [p1]; exact h5 p hp'), k7, k8⟩
      · cases h
    · cases h
theorem cnt_lt (F : Nat → Bool) : ∀ (ds : List Dn) (i k o : Nat) {di : Dn} {e : LE}, i < k → ds[i]? = some di → di.e = some e → (newsL F o (ds.take i)).length < (newsL F o (ds.take k)).length
  | [], i, k, o, di, e, _, h, _ => by simp at h
  | d :: r, 0, k + 1, o, di, e, _, h, he => by
    simp at h
    subst h
    rw [List.take_succ_cons, newsL_some he]
    simp [newsL]
  | d :: r, i + 1, k + 1, o, di, e, hik, h, he => by
    have ih := cnt_lt F r i k (o + 1) (by omega) (by simpa using h) he
    rw [List.take_succ_cons, List.take_succ_cons]
    cases hd : d.e with
    | none => rw [newsL_none hd, newsL_none hd]; exact ih
    | some e' => rw [newsL_some hd, newsL_some hd, List.length_cons, List.length_cons]; omega
  | d :: r, i, 0, o, di, e, hik, _, _ => by omega
theorem cntN_lt (F : Nat → Bool) (ds : List Dn) (i o : Nat) {di : Dn} {e : LE} (h : ds[i]? = some di) (he : di.e = some e) : (newsL F o (ds.take i)).length < (newsL F o ds).length := by
  have hlt := lt_of_some_list h
  have hd : ds = ds.take i ++ di :: ds.drop (i + 1) := by
    obtain ⟨h1, h2⟩ := List.getElem?_eq_some_iff.mp h
    rw [← h2, ← List.drop_eq_getElem_cons h1, List.take_append_drop]
  conv => rhs; rw [hd]
  rw [newsL_append, newsL_some he]
  simp
theorem Fresh.of {w0 : Base} {w w' : World} {ν : Nu} {own : Mem} {mem : Bool} (h : WR w0 ν own mem w) {e : LE} {v : Value} (ho : OwnB w.heap.size w' e v) : ∀ g, v.ownBlock = some g → Fresh ν own g := fun g hg => by
  have hge := (ho.2.lt g hg).1
  exact ⟨fun i hi heq => by have := h.lt hi; omega, fun k e' hk hd ho' heq => by have := (h.rowLt hk hd ho' heq).2; omega⟩
theorem StepD.ok {E : Env} (HC : CallOk E) {w0 : Base} (hG : GlobB E w0) {n : Nat} {ops : Array Oper} {o : Oper} {pre : List Dn} {s s1 : St} {d : Dn} (h : StepD E n ops o pre s d s1) (hh : Holds' s1) (hdep : depB ops = true) {s0 : Mem} (hs : s.own = s0) (hok : OkB s0.b.length s0.l.length s0.b)
    {ds rest : List Dn} (hD : ds = pre ++ d :: rest) (hK : KD s0 ds) (ho : ops[pre.length]? = some o) (hn : ∀ t, o.dst = some t → t < n) {L : Nat → Bool} {ν0 : Nu} {a0 : Act} {ν : Nu} {a b : Act} {w : World} (hI : ID n ops w0 ν0 s0 a0 ds L ν a w) (ht : TR n ν s b)
    (hL : L pre.length = false) (hr : ∀ e ∈ o.after, Region.binds .any e = true → L e.on = true) (hlook : ∀ t ∈ o.looksAt ops, b.tmps.getD t undef = a.tmps.getD t undef) {Q : Exit → Act → World → Prop} {K : Act → World → Prop}
    (hQ : ∀ ν' v w', ID n ops w0 ν0 s0 a0 ds (setL L pre.length) ν' (a.put o.dst v) w' → K (a.put o.dst v) w') : wpOp E.P ops Q pre.length K a w := by
  have dep := depB_ok hdep ho
  have hd : ds[pre.length]? = some d := by rw [hD]; simp
  have hexec := exec_same (a := a) (b := b) dep.sel hlook
  have hwant := wanted_same (a := a) (b := b) (hI.size.trans ht.size.symm) hlook
  have hlast := h.st.2.2.2.2.2.2
  have looks : ∀ j, looksB ops o j = true → L j = true := fun j hj => by
    obtain ⟨_, e, he, hb, hon⟩ := dep.looks j hj
    rw [← hon]; exact hr e he hb
  have hset : ∀ j, j ≠ pre.length → setL L pre.length j = L j := fun j hj => by unfold setL; rw [if_neg hj]
  have c1 : newsL (setL L pre.length) 0 pre = newsL L 0 pre := newsL_congr pre 0 fun j _ hj => hset j (by omega)
  have c2 : newsL (setL L pre.length) (0 + pre.length + 1) rest = newsL L (0 + pre.length + 1) rest := newsL_congr rest _ fun j hj _ => hset j (by omega)
  have none_ : d.e = none → newsL (setL L pre.length) 0 ds = newsL L 0 ds := fun he => by
    rw [hD, newsL_append, newsL_append, newsL_none he, newsL_none he, c1, c2]
  have go : ∀ (v : Value) (w' : World), d.e = none → Is ν d.x v → WR w0 ν { s0 with l := s0.l ++ newsL L 0 ds } true w' → K (a.put o.dst v) w' := fun v w' he hv hw =>
    hQ ν _ w' (hI.put hdep hK ho hd hn (Agree.refl _ _ _) (fun _ _ _ _ _ _ => rfl) hv (by rw [none_ he]; exact hw))
  have wrF : ∀ s2 : St, s2.own = s.own → WR w0 ν (focus ops o pre s2).own true w := fun s2 he => by
    refine hI.wr.kill (by show s2.own.b = s0.b; rw [he, hs]) (fun p e hp hde => ?_) ?_
    · have hp : (s2.own.l ++ newsL (looksB ops o) 0 pre)[p]? = some e := hp
      rw [he, hs] at hp
      show (s0.l ++ newsL L 0 ds)[p]? = some e
      rcases Nat.lt_or_ge p s0.l.length with hl | hl
      · rw [List.getElem?_append_left hl] at hp ⊢; exact hp
      · rw [List.getElem?_append_right hl] at hp ⊢
        have := newsL_le looks pre 0 _ e hp hde
        rw [hD, newsL_append, List.getElem?_append_left (lt_of_some_list this)]
        exact this
    · show OkB s2.own.b.length (s2.own.l ++ newsL (looksB ops o) 0 pre).length s2.own.b
      rw [he, hs]
      exact hok.mono (Nat.le_refl _) (by simp)
  have new : ∀ (e : LE) (u : Value) (w' : World), ds = pre ++ ⟨d.x, some { e with own := true, dead := false }⟩ :: rest → d.x = .c (s0.l.length + (newsL (fun _ => true) 0 pre).length) → Below w.heap.size w w' → OwnB w.heap.size w' e u → K (a.put o.dst u) w' := fun e u w' hD hx hbel hou => by
    have hpl : (newsL (fun _ => true) 0 pre).length = (newsL L 0 pre).length := newsL_len _ _ pre 0 0
    have hpos : (newsL L 0 ds) = newsL L 0 pre ++ ({ e with own := true, dead := !L (0 + pre.length) } : LE) :: newsL L (0 + pre.length + 1) rest := by rw [hD, newsL_append, newsL_some rfl]
    have hrow : OwnB w0.heap.size w' { e with own := true, dead := false } u := (show OwnB w.heap.size w' e u from hou).more hI.wr.below.size
    have hfr : ∀ g, u.ownBlock = some g → Fresh ν { s0 with l := s0.l ++ newsL L 0 ds } g := Fresh.of hI.wr hou
    have hlt : s0.l.length + (newsL L 0 pre).length < (s0.l ++ newsL L 0 ds).length := by rw [hpos]; simp
    have hrev := (hI.wr.grown hbel).revive (p := s0.l.length + (newsL L 0 pre).length) hlt (e := { e with own := true, dead := false }) rfl hrow hfr (fun g hg => hI.wr.fr.fresh (hou.2.lt g hg).1) (m := s0.l.length) (by omega) hok
    have hnew : (s0.l ++ newsL L 0 ds).set (s0.l.length + (newsL L 0 pre).length) { e with own := true, dead := false } = s0.l ++ newsL (setL L pre.length) 0 ds := by
      rw [List.set_append_right _ _ (by omega), show s0.l.length + (newsL L 0 pre).length - s0.l.length = (newsL L 0 pre).length by omega, hpos, List.set_append_right _ _ (Nat.le_refl _), Nat.sub_self, List.set_cons_zero]
      rw [hD, newsL_append, newsL_some rfl, c1, c2]
      simp [setL]
    have hdn : ds[pre.length]? = some ⟨d.x, some { e with own := true, dead := false }⟩ := by rw [hD]; simp
    refine hQ _ _ w' (hI.put (d := ⟨d.x, some { e with own := true, dead := false }⟩) hdep hK ho hdn hn ((extV_old ν s0.b.length (s0.l.length + (newsL L 0 pre).length) u).mono (Nat.le_refl _) (by omega)) (fun i di hik hdi e' he' => ?_) (v := u) ?_ (by rw [← hnew]; exact hrev))
    · unfold extV
      simp only
      rw [if_neg]
      intro heq
      have hlen : (newsL (fun _ => true) 0 (ds.take i)).length = (newsL (fun _ => true) 0 (ds.take pre.length)).length := by rw [hD, List.take_left, ← hD, hpl]; omega
      rcases Nat.lt_or_ge i pre.length with hl | hl
      · have := cnt_lt (fun _ => true) ds i pre.length 0 hl hdi he'
        omega
      · have := cnt_lt (fun _ => true) ds pre.length i 0 (by omega) hdn rfl
        omega
    · show Is _ d.x u
      rw [hx]
      show u = (extV ν _ u).v _
      rw [hpl, extV_new]
  unfold wpOp
  simp only [ho]
  cases h with
  | skip _ h =>
    obtain ⟨hwn, _⟩ := wantS_ok h hh ht
    rw [if_neg (by rw [hwant, hwn]; simp)]
    exact go undef w rfl rfl hI.wr
  | ro s1 x c q h h1 h2 =>
    obtain ⟨k1, k2, k3, _⟩ := wantS_st h
    obtain ⟨hq, hh1⟩ := more_q (s := s1) (q := q) hh
    obtain ⟨hwn, ht1⟩ := wantS_ok h hh1 ht
    rw [if_pos (by rw [hwant, hwn])]
    left
    have hV : okV (focus ops o pre s1).own.b.length (focus ops o pre s1).own.l.length x := (okVB_ok h2).mono (Nat.le_refl _) (by show _ ≤ (s1.own.l ++ _).length; simp)
    obtain ⟨v, hv, hdo⟩ := simRO_ok (mem := true) h1 hq (ht1.of rfl) hG hV
    unfold Oper.wp
    rw [hexec]
    rcases hdo with ⟨rfl, hdo⟩ | ⟨rfl, f, args, hf, hdo⟩
    · rw [hdo w (wrF s1 k2), Oper.upon_value]
      exact go v w rfl hv hI.wr
    · rw [hdo w, Oper.upon_enter]
      refine (HC.1 f args _ hf w (hG.below hI.wr.below)).mono fun e w' ⟨he, hb⟩ => ?_
      subst he
      exact go v w' rfl hv (hI.wr.grown hb)
  | plain s1 f args p s2 h h1 h2 =>
    obtain ⟨k1, k2, k3, _⟩ := wantS_st h
    obtain ⟨l, v, bb, fn, fl, hl, hb, hf, hn1, hbody, hx, rfl⟩ := pcallS_some h2
    simp only [SV.inl.injEq] at hx
    subst hx
    have e : bb = true := hh (bb, true) List.mem_cons_self
    subst e
    obtain ⟨hwn, ht1⟩ := wantS_ok h (fun p hp => hh p (List.mem_cons_of_mem _ hp)) ht
    rw [if_pos (by rw [hwant, hwn])]
    left
    obtain ⟨vs, hvs, hrun⟩ := callArgs_run (P := E.P) h1 (ht1.of (s' := focus ops o pre s1) rfl)
    unfold Oper.wp
    rw [hexec, hrun ⟨fn, hf, hn1, hbody⟩ w, Oper.upon_enter, argsV_isL hl hvs]
    refine (HC.2.1 f l v hb w (hG.below hI.wr.below)).mono fun e w' ⟨he, hbel⟩ => ?_
    subst he
    exact go v w' rfl rfl (hI.wr.grown hbel)
  | lplain s1 f args l fn v bb h h1 h2 h3 h4 h5 =>
    obtain ⟨k1, k2, k3, _⟩ := wantS_st h
    have e : bb = true := hh (bb, true) List.mem_cons_self
    subst e
    obtain ⟨hwn, ht1⟩ := wantS_ok h (fun p hp => hh p (List.mem_cons_of_mem _ (List.mem_append_right _ hp))) ht
    rw [if_pos (by rw [hwant, hwn])]
    left
    obtain ⟨vs, hvs, hrun⟩ := callArgs_run (P := E.P) h1 (ht1.of (s' := focus ops o pre s1) rfl)
    unfold Oper.wp
    rw [hexec, hrun ⟨fn, h3, h4.1, h4.2⟩ w, Oper.upon_enter]
    refine (HC.2.2.1 f l false _ h5 w vs (hG.below hI.wr.below) (argsX_ok (wrF s1 k2) h2 (fun p hp => hh p (List.mem_cons_of_mem _ (List.mem_append_left _ hp))) hvs)).mono fun e w' ⟨us, he, hout, hbel⟩ => ?_
    obtain rfl := outOk_v hout
    subst he
    exact go v w' rfl rfl (hI.wr.grown hbel)
  | lst s1 f args l fn e bb h h1 h2 h3 h4 h5 =>
    obtain ⟨k1, k2, k3, _⟩ := wantS_st h
    have eb : bb = true := hh (bb, true) List.mem_cons_self
    subst eb
    obtain ⟨hwn, ht1⟩ := wantS_ok h (fun p hp => hh p (List.mem_cons_of_mem _ (List.mem_append_right _ hp))) ht
    rw [if_pos (by rw [hwant, hwn])]
    left
    obtain ⟨vs, hvs, hrun⟩ := callArgs_run (P := E.P) h1 (ht1.of (s' := focus ops o pre s1) rfl)
    unfold Oper.wp
    rw [hexec, hrun ⟨fn, h3, h4.1, h4.2⟩ w, Oper.upon_enter]
    refine (HC.2.2.1 f l false _ h5 w vs (hG.below hI.wr.below) (argsX_ok (wrF s1 k2) h2 (fun p hp => hh p (List.mem_cons_of_mem _ (List.mem_append_left _ hp))) hvs)).mono fun ee w' ⟨us, he, hout, hbel⟩ => ?_
    obtain ⟨u, rfl, hou⟩ := outOk_l hout
    subst he
    exact new _ u w' hD.symm.symm (by rw [k2, hs]) hbel hou
  | lit s1 x m q e h h1 h2 =>
    obtain ⟨k1, k2, k3, _⟩ := wantS_st h
    obtain ⟨hwn, ht1⟩ := wantS_ok h hh ht
    rw [if_pos (by rw [hwant, hwn])]
    left
    obtain ⟨t, len, parts, cells, et, i, hop, hall, hlit, hsz, hlen, hone, hle, rfl⟩ := lit_last h1 h2
    have htf : TR n ν (focus ops o pre s1) b := ht1.of rfl
    have hp : (parts.map fun (i, x) => (i, b.eval x)) = (parts.toList.map fun p => (p.1, rho (focus ops o pre s1) p.2)).toArray := by
      rw [← Array.toArray_toList (xs := parts.map _), Array.toList_map]
      congr 1
      refine List.map_congr_left fun p hp => ?_
      rw [List.all_eq_true] at hall
      show (p.1, b.eval p.2) = _
      rw [eval_rho htf (hall p hp)]
    have hr' : (execOp b.eval o).run E.P w = .ok (.value (.slice (some ⟨w.heap.size, 0, none⟩) len len)) (w.alloc (.cells cells.toArray et)) := by
      simp only [execOp, hop, hp, Sem.run_bind, run_litB hlit w, Result.andThen_ok, Sem.run_pure]
    unfold Oper.wp
    rw [hexec, hr', Oper.upon_value]
    have hfl := chunks_flat hsz hlen
    have hbel : Below w.heap.size w (w.alloc (.cells cells.toArray et)) := (Below.refl _ w).alloc (Nat.le_refl _) _
    have hou : OwnB w.heap.size (w.alloc (.cells cells.toArray et)) ⟨et, i, len, tabE (chunks i len cells), true, false, true⟩ (.slice (some ⟨w.heap.size, 0, none⟩) len len) := by
      refine ⟨⟨hsz, fun j hj => ?_⟩, ?_⟩
      · have hj : j < len := hj
        have hm : j * i + i ≤ len * i := by
          have := Nat.mul_le_mul_right i (show j + 1 ≤ len from hj)
          rwa [Nat.add_mul, Nat.one_mul] at this
        show (tabE (chunks i len cells) j).length = i ∧ (tabE (chunks i len cells) j).all Value.oneCell' = true
        rw [tabE_chunks i len cells j hj]
        exact ⟨by rw [List.length_take, List.length_drop]; omega, List.all_eq_true.mpr fun x hx => List.all_eq_true.mp hone x (List.mem_of_mem_drop (List.mem_of_mem_take hx))⟩
      · show (World.alloc w _).ownsRow w.heap.size et i _ len ((List.range len).flatMap (tabE (chunks i len cells)))
        rw [hfl]
        exact ⟨hlen, .inr ⟨w.heap.size, len, cells.toArray, rfl, Nat.le_refl _, heap_alloc_new w _, Nat.le_refl _, by unfold maxLen; omega, by rw [List.size_toArray]; exact hlen, List.take_of_length_le (by show cells.length ≤ _; omega)⟩⟩
    exact new _ _ _ hD.symm.symm (by rw [k2, hs]) hbel hou
  | eff s1 f args p bb h h1 h2 =>
    obtain ⟨k1, k2, k3, _⟩ := wantS_st h
    have e : bb = true := hh (bb, true) List.mem_cons_self
    subst e
    obtain ⟨hwn, ht1⟩ := wantS_ok h (fun p hp => hh p (List.mem_cons_of_mem _ hp)) ht
    rw [if_pos (by rw [hwant, hwn])]
    left
    obtain ⟨vs, hvs, hrun⟩ := callArgs_run (P := E.P) h1 (ht1.of (s' := focus ops o pre s1) rfl)
    rw [k2, hs] at h2
    obtain ⟨hfn, hcalls⟩ := effP_ok HC.2.2.2.2.2 hG h2 (ex := newsL L 0 ds) hvs hI.wr
    unfold Oper.wp
    rw [hexec, hrun hfn w, Oper.upon_enter]
    refine hcalls.mono fun e w' ⟨ν', hag, he, hw'⟩ => ?_
    subst he
    refine hQ ν' _ w' (hI.put hdep hK ho hd hn (hag.mono (Nat.le_refl _) (Nat.le_add_right _ _)) (fun i di hik hdi e' he' => ?_) (v := p.2) rfl (by rw [none_ rfl]; exact hw'))
    refine (hag.2 _ ?_).symm
    have := cntN_lt (fun _ => true) ds i 0 hdi he'
    rw [newsL_len L (fun _ => true) ds 0 0]
    omega
  | mk s1 e q h h1 =>
    obtain ⟨k1, k2, k3, _⟩ := wantS_st h
    obtain ⟨hq, hh1⟩ := more_q (s := s1) (q := q) hh
    obtain ⟨hwn, ht1⟩ := wantS_ok h hh1 ht
    rw [if_pos (by rw [hwant, hwn])]
    left
    have htf : TR n ν (focus ops o pre s1) b := ht1.of rfl
    obtain ⟨t, l, c, f, f2, kl, kc, k, m, et, i, z, hop, hln, hcn, hu, hi, hz, hsz, h0, hone, rfl, rfl⟩ := simMK_some h1
    have hpre := hq (Sim.pre (decide (k = m ∧ 0 ≤ k ∧ i.bytes * k.toNat ≤ 281474976710656 ∧ k.toNat ≤ maxLen)), true) (by simp)
    simp only [Sim.pre, decide_eq_true_eq] at hpre
    obtain ⟨rfl, hn0, hby, hmx⟩ := hpre
    have hel := eval_v htf hln
    have hec := eval_v htf hcn
    obtain ⟨w', hrun, r1, r2⟩ := run_make_full (P := E.P) w w.heap.size t et i z i.size hu hi hz rfl kl kc k.toNat hby hmx (Nat.le_refl _)
    rw [Int.toNat_of_nonneg hn0] at hrun
    have hr' : (execOp b.eval o).run E.P w = .ok (.value (.slice (some ⟨w.heap.size, 0, none⟩) k.toNat k.toNat)) w' := by
      simp only [execOp, hop, hel, hec, Sem.run_bind, hrun, Result.andThen_ok, Sem.run_pure]
    unfold Oper.wp
    rw [hexec, hr', Oper.upon_value]
    have hzl : z.cells.toList.length = i.size := by rw [Array.length_toList, hsz]
    have hou : OwnB w.heap.size w' ⟨et, i.size, k.toNat, fun _ => z.cells.toList, true, false, anyF f⟩ (.slice (some ⟨w.heap.size, 0, none⟩) k.toNat k.toNat) := by
      refine ⟨⟨h0, fun j hj => ⟨hzl, hone⟩⟩, ?_⟩
      have hfl := flat_same z.cells.toList z.cells rfl (by rw [hsz]; exact h0) k.toNat
      rw [hsz] at hfl
      show w'.ownsRow w.heap.size et i.size _ k.toNat ((List.range k.toNat).flatMap fun _ => z.cells.toList)
      rw [hfl]; exact r1
    exact new _ _ _ hD.symm.symm (by show SV.c (s1.own.l.length + _) = _; rw [k2, hs]) ⟨r2.os, r2.tape, r2.output, r2.size, fun k hk => r2.block k hk (by simp)⟩ hou
theorem StepD.tr {E : Env} {n : Nat} {ops : Array Oper} {o : Oper} {pre : List Dn} {s s1 : St} {d : Dn} (h : StepD E n ops o pre s d s1) (hh : Holds' s1) {ν : Nu} {b : Act} (ht : TR n ν s b) : TR n ν s1 b := by
  cases h with
  | skip _ h => exact (wantS_ok h hh ht).2
  | ro s1 x c q h h1 h2 => exact ((wantS_ok h (more_q (s := s1) (q := q) hh).2 ht).2).of rfl
  | plain s1 f args p s2 h h1 h2 =>
    obtain ⟨l, v, bb, fn, fl, hl, hb, hf, hn1, hbody, hx, rfl⟩ := pcallS_some h2
    exact ((wantS_ok h (fun p hp => hh p (List.mem_cons_of_mem _ hp)) ht).2).of rfl
  | lplain s1 f args l fn v bb h h1 h2 h3 h4 h5 => exact ((wantS_ok h (fun p hp => hh p (List.mem_cons_of_mem _ (List.mem_append_right _ hp))) ht).2).of rfl
  | lst s1 f args l fn e bb h h1 h2 h3 h4 h5 => exact ((wantS_ok h (fun p hp => hh p (List.mem_cons_of_mem _ (List.mem_append_right _ hp))) ht).2).of rfl
  | lit s1 x m q e h h1 h2 => exact (wantS_ok h hh ht).2
  | eff s1 f args p b h h1 h2 => exact ((wantS_ok h (fun p hp => hh p (List.mem_cons_of_mem _ hp)) ht).2).of rfl
  | mk s1 e q h h1 => exact ((wantS_ok h (more_q (s := s1) (q := q) hh).2 ht).2).of rfl
theorem simD_obl {E : Env} {n : Nat} {ops : Array Oper} : ∀ (rest : List Oper) (pre : List Dn) (s : St) (ds : List Dn) (s' : St), simD E n ops rest pre s = some (ds, s') → (∀ p ∈ s.obl, p ∈ s'.obl) ∧ ∃ r, ds = pre ++ r
  | [], pre, s, ds, s', h => by
    simp only [simD, Option.some.injEq, Prod.mk.injEq] at h
    obtain ⟨rfl, rfl⟩ := h
    exact ⟨fun p hp => hp, [], by simp⟩
  | o :: rest, pre, s, ds, s', h => by
    unfold simD at h
    split at h
    · rename_i d s1 hs
      split at h
      · rename_i s2 hp
        obtain ⟨_, _, _, _, h5, _⟩ := (stepD_is hs).st
        obtain ⟨k1, r, k2⟩ := simD_obl rest _ _ _ _ h
        exact ⟨fun p hp' => k1 p (by rw [(putS_keep hp).1]; exact h5 p hp'), d :: r, by rw [k2]; simp⟩
      · cases h
    · cases h
theorem is_conc' (ν : Nu) (x : SV) : Is ν x (conc ν x) := by
  cases x <;> first | rfl | trivial
theorem putS_lt {n : Nat} {dst : Option Tmp} {x : SV} {s s' : St} (h : putS n dst x s = some s') : ∀ t, dst = some t → t < n := fun t ht => by
  subst ht
  unfold putS at h
  simp only at h
  cases hb : Nat.blt t n
  · rw [hb] at h; cases h
  · simpa [Nat.blt_eq] using hb
theorem simD_ok {E : Env} (HC : CallOk E) {w0 : Base} (hG : GlobB E w0) {n : Nat} {ops : Array Oper} (hdep : depB ops = true) {s0 : Mem} (hok : OkB s0.b.length s0.l.length s0.b) {ν0 : Nu} {a0 : Act} (hz : a0.tmps.size = n) {ds : List Dn} (hK : KD s0 ds) :
    ∀ (rest : List Oper) (pops : List Oper) (pre : List Dn) (s s' : St), simD E n ops rest pre s = some (ds, s') → ops.toList = pops ++ rest → pops.length = pre.length → Holds' s' → s.own = s0 →
      (∀ L ν a w, ID n ops w0 ν0 s0 a0 ds L ν a w → TR n ν s (actD L a ν 0 pops pre a0)) →
      (∀ k, pops.length ≤ k → ∀ o L ν a w, ops[k]? = some o → ID n ops w0 ν0 s0 a0 ds L ν a w → L k = false → (∀ e ∈ o.after, Region.binds .any e = true → L e.on = true) → ∀ (Q : Exit → Act → World → Prop) (K : Act → World → Prop), (∀ ν' a' w', ID n ops w0 ν0 s0 a0 ds (setL L k) ν' a' w' → K a' w') → wpOp E.P ops Q k K a w) ∧
        (∀ L ν a w, ID n ops w0 ν0 s0 a0 ds L ν a w → TR n ν s' (actD L a ν 0 ops.toList ds a0))
  | [], pops, pre, s, s', h, ho, hl, hh, hs, hT => by
    simp only [simD, Option.some.injEq, Prod.mk.injEq] at h
    obtain ⟨rfl, rfl⟩ := h
    rw [List.append_nil] at ho
    refine ⟨fun k hk o L ν a w hko => ?_, fun L ν a w hI => by rw [ho]; exact hT L ν a w hI⟩
    exfalso
    have : k < ops.toList.length := by
      rcases Nat.lt_or_ge k ops.size with h | h
      · simpa using h
      · rw [Array.getElem?_eq_none h] at hko; cases hko
    rw [ho] at this; omega
  | o :: rest, pops, pre, s, s', h, ho, hl, hh, hs, hT => by
    unfold simD at h
    split at h
    · rename_i d s1 hst
      split at h
      · rename_i s2 hp
        have hsd := stepD_is hst
        obtain ⟨p1, p2, _⟩ := putS_keep hp
        obtain ⟨hob, r, hr⟩ := simD_obl rest _ _ _ _ h
        have hh1 : Holds' s1 := fun p hp' => hh p (hob p (by rw [p1]; exact hp'))
        have hD : ds = pre ++ d :: r := by rw [hr]; simp
        have hd : ds[pre.length]? = some d := by rw [hD]; simp
        have get : ∀ (j : Nat), ops[j]? = (pops ++ o :: rest)[j]? := fun j => by rw [← ho]; simp
        have hok' : ops[pre.length]? = some o := by rw [get, ← hl]; simp
        have low : ∀ j, j < pops.length → ops[j]? = pops[j]? := fun j hj => by rw [get, List.getElem?_append_left hj]
        have IH := simD_ok HC hG hdep hok hz hK rest (pops ++ [o]) (pre ++ [d]) s2 s' h (by rw [ho]; simp) (by simp [hl]) hh (by rw [p2, hsd.st.1, hs]) (fun L ν a w hI => by
          rw [actD_snoc L a ν o d pops pre 0 a0 hl, Nat.zero_add, hl]
          have ht1 := hsd.tr hh1 (hT L ν a w hI)
          cases hdst : o.dst with
          | none =>
            rw [hdst] at hp
            simp only [putS, Option.some.injEq] at hp
            subst hp
            exact ht1
          | some t =>
            have hv : Is ν d.x (valD L a ν pre.length o d) := by
              unfold valD
              simp only [hdst]
              by_cases hLk : L pre.length = true
              · rw [if_pos hLk]; exact hI.done pre.length o d t hok' hd hdst hLk
              · rw [if_neg hLk]; exact is_conc' ν d.x
            have := tr_put hp hv ht1
            rw [hdst] at this
            exact this)
        refine ⟨fun k hk o' L ν a w hko hI hL hrdy Q K hQ => ?_, IH.2⟩
        rcases Nat.lt_or_ge pops.length k with hlt | hge
        · exact IH.1 k (by simp; omega) o' L ν a w hko hI hL hrdy Q K hQ
        · obtain rfl : k = pre.length := by omega
          rw [hok'] at hko
          obtain rfl := Option.some.inj hko
          have dep := depB_ok hdep hok'
          refine hsd.ok HC hG hh1 hdep hs hok hD hK hok' (putS_lt hp) hI (hT L ν a w hI) hL hrdy (fun t ht => ?_) fun ν' v w' => hQ ν' _ w'
          have look : ∀ (j : Nat) oj, ops[j]? = some oj → oj.dst = some t → j < pre.length ∧ L j = true := fun j oj hj hjt => by
            have hb : looksB ops o j = true := by
              unfold looksB
              rw [hj]
              exact List.any_eq_true.mpr ⟨t, ht, dstIs_iff.mpr hjt⟩
            obtain ⟨k1, e, he, hbd, hon⟩ := dep.looks j hb
            exact ⟨k1, by rw [← hon]; exact hrdy e he hbd⟩
          refine actD_get L a ν t pops pre 0 a0 hl (by rw [hI.size, hz]) (fun j oj hj hjt => ?_) ?_
          · rw [Nat.zero_add]
            exact (look j oj (by rw [low j (lt_of_some_list hj)]; exact hj) hjt).2
          · by_cases hex : ∃ (j : Nat) (oj : Oper), pops[j]? = some oj ∧ oj.dst = some t
            · exact .inr hex
            · left
              refine (hI.base t fun i oi hoi hti => ?_).symm
              exfalso
              obtain ⟨k1, _⟩ := look i oi hoi hti
              exact hex ⟨i, oi, by rw [← low i (by omega)]; exact hoi, hti⟩
      · cases h
    · cases h
theorem newsL_dead : ∀ (ds : List Dn) (i p : Nat) (e : LE), (newsL (fun _ => false) i ds)[p]? = some e → e.dead = true
  | [], _, _, _, h => by simp [newsL] at h
  | d :: r, i, p, e, h => by
    cases hd : d.e with
    | none => rw [newsL_none hd] at h; exact newsL_dead r _ _ _ h
    | some e' =>
      rw [newsL_some hd] at h
      cases p with
      | zero => simp at h; subst h; rfl
      | succ p => simp at h; exact newsL_dead r _ _ _ h
theorem regionD_st {E : Env} {n : Nat} {ops : Array Oper} {s s' : St} (h : regionD E n ops s = some s') (hg : Good s) : Le s s' ∧ Good s' ∧ s'.mem = s.mem := by
  unfold regionD at h
  cases hd : depB ops
  · rw [hd] at h; cases h
  · rw [hd] at h
    simp only [cond_true] at h
    split at h
    · rename_i ds s1 hs
      simp only [Option.some.injEq] at h
      subst h
      obtain ⟨_, k2, k3, k4, k5, k6, k7, k8⟩ := simD_st (s0 := s.own) _ _ _ _ _ hs rfl (fun i d hi => by simp at hi) (fun p hp => by simpa [newsL] using hg.ok p hp)
      refine ⟨⟨k6, by show _ ≤ s1.own.b.length; rw [k2]; exact Nat.le_refl _, by show _ ≤ (s1.own.l ++ _).length; rw [k2]; simp, k4, k5, fun i hi => by show s1.own.b[i]? = _; rw [k2], fun i hi => by show (s1.own.l ++ _)[i]? = _; rw [k2]; exact List.getElem?_append_left (Nat.lt_of_lt_of_le hi hg.llo)⟩, ⟨?_, ?_, fun p hp => ?_, ?_⟩, k3⟩
      · show s1.lo ≤ s1.own.b.length; rw [k4, k2]; exact hg.lo
      · show s1.llo ≤ (s1.own.l ++ newsL (fun _ => true) 0 ds).length; rw [k5, k2, List.length_append]; exact Nat.le_trans hg.llo (by omega)
      · show okV s1.own.b.length (s1.own.l ++ newsL (fun _ => true) 0 ds).length p.2; rw [k2, List.length_append]; exact k8 p hp
      · show OkB s1.own.b.length (s1.own.l ++ newsL (fun _ => true) 0 ds).length s1.own.b; rw [k2, List.length_append]; exact hg.okb.mono (Nat.le_refl _) (by omega)
    · cases h
theorem lastD_st {E : Env} {n : Nat} {ops : Array Oper} {s s' : St} (h : lastD E n ops s = some s') (hg : Good s) : Le s s' ∧ Good s' ∧ s'.mem = true := by
  unfold lastD at h; cases h
theorem lastD_ok {E : Env} (HC : CallOk E) {w0 : Base} (hG : GlobB E w0) {id n : Nat} {ops : Array Oper} {s s' : St} (hm : E.P.follows .mixedOrders = true) (hsm : s.mem = true) (h : lastD E n ops s = some s') (hg : Good s) (hh : Holds' s') {Q : Exit → Act → World → Prop} {ν0 : Nu} {a0 : Act} {w : World} (ht : TR n ν0 s a0) (hw : WR w0 ν0 s.own true w)
    (hQ : ∀ ν' a' w', Ag s.own ν0 ν' → TR n ν' s' a' → WR w0 ν' s'.own true w' → Q .normal a' w') : (Code.region id ops true).wp E.P Q a0 w := by
  unfold lastD at h; cases h
theorem regionD_ok {E : Env} (HC : CallOk E) {w0 : Base} (hG : GlobB E w0) {id n : Nat} {ops : Array Oper} {s s' : St} (hm : E.P.follows .mixedOrders = true) (h : regionD E n ops s = some s') (hg : Good s) (hh : Holds' s') {Q : Exit → Act → World → Prop} {ν0 : Nu} {a0 : Act} {w : World} (ht : TR n ν0 s a0) (hw : WR w0 ν0 s.own true w)
    (hQ : ∀ ν' a' w', Ag s.own ν0 ν' → TR n ν' s' a' → WR w0 ν' s'.own true w' → Q .normal a' w') : (Code.region id ops true).wp E.P Q a0 w := by
  unfold regionD at h
  cases hd : depB ops
  · rw [hd] at h; cases h
  · rw [hd] at h
    simp only [cond_true] at h
    split at h
    · rename_i ds s1 hs
      simp only [Option.some.injEq] at h
      subst h
      obtain ⟨⟨r0, r1, r2⟩, k2, k3, k4, k5, k6, k7, k8⟩ := simD_st (s0 := s.own) _ _ _ _ _ hs rfl (fun i d hi => by simp at hi) (fun p hp => by simpa [newsL] using hg.ok p hp)
      have hdl : ds.length = ops.size := by rw [r1, List.nil_append, r2]; simp
      obtain ⟨step, fin⟩ := simD_ok HC hG hd hg.okb (ν0 := ν0) (a0 := a0) ht.size k7 ops.toList [] [] s s1 hs rfl rfl hh rfl (fun L ν a w hI => by
        show TR n ν s a0
        exact ht.move hg hI.ag rfl)
      have hrep : lstB (Array.replicate ops.size false) = fun _ => false := by
        funext j
        unfold lstB
        simp only [Array.getD_eq_getD_getElem?, Array.getElem?_replicate]
        split <;> rfl
      refine wp_region_any hm (wpAny_steps (I := fun L a w => ∃ ν, ID n ops w0 ν0 s.own a0 ds L ν a w) (fun L i o a w ho hI hL hr K hK => ?_) (fun L a w hall hI => ?_) (fun i o ho e he hb => (depB_ok hd ho).low e he hb) ops.size (Array.replicate ops.size false) a0 _ (by simp) ?_ ?_)
      · obtain ⟨ν, hI⟩ := hI
        exact step i (Nat.zero_le _) o L ν a w ho hI hL hr Q K fun ν' a' w' hI' => hK a' w' ⟨ν', hI'⟩
      · obtain ⟨ν, hI⟩ := hI
        have hT := fin L ν a w hI
        have same : ∀ t, (actD L a ν 0 ops.toList ds a0).tmps.getD t undef = a.tmps.getD t undef := fun t => by
          refine actD_get L a ν t ops.toList ds 0 a0 (by simp [hdl]) (by rw [hI.size, ht.size]) (fun j oj hj _ => by rw [Nat.zero_add]; exact hall j (by simpa using lt_of_some_list hj)) ?_
          by_cases hex : ∃ (j : Nat) (oj : Oper), ops.toList[j]? = some oj ∧ oj.dst = some t
          · exact .inr hex
          · left
            refine (hI.base t fun i oi hoi hti => ?_).symm
            exact absurd ⟨i, oi, by simpa using hoi, hti⟩ hex
        have hL : newsL L 0 ds = newsL (fun _ => true) 0 ds := newsL_congr ds 0 fun j _ hj => hall j (by omega)
        have hwr := hI.wr
        rw [hL] at hwr
        refine hQ ν a w hI.ag ⟨hI.size, fun t => ?_, hI.df⟩ (by show WR w0 ν { s1.own with l := s1.own.l ++ newsL (fun _ => true) 0 ds } true w; rw [k2]; exact hwr)
        have := hT.tm t
        rw [same t] at this
        exact this
      · have := List.length_filter_le (fun i => !lstB (Array.replicate ops.size false) i) (List.range ops.size)
        simpa using this
      · rw [hrep]
        refine ⟨ν0, ⟨Agree.refl _ _ _, ht.size, ht.df, fun _ _ => rfl, fun i o d t _ _ _ hL => (by cases hL), ?_⟩⟩
        refine hw.drew.kill rfl (fun p e hp hde => ?_) (hg.okb.mono (Nat.le_refl _) (by simp))
        have hp : (s.own.l ++ newsL (fun _ => false) 0 ds)[p]? = some e := hp
        rcases Nat.lt_or_ge p s.own.l.length with hl | hl
        · rw [List.getElem?_append_left hl] at hp; exact hp
        · rw [List.getElem?_append_right hl] at hp
          rw [newsL_dead ds _ _ e hp] at hde; cases hde
    · cases h
end Go.Proofs.YtiajbijbhhpllaaDoor.S2
namespace Go.Proofs.YtiajbijbhhpllaaDoor.S2
open Go Go.RowKit Sim
theorem ID.turn {n : Nat} {ops : Array Oper} {w0 w1 : Base} {ν0 : Nu} {s0 : Mem} {a0 : Act} {ds : List Dn} {L : Nat → Bool} {ν : Nu} {a : Act} {w w' : World} (h : ID n ops w0 ν0 s0 a0 ds L ν a w) (hw : WR w1 ν { s0 with l := s0.l ++ newsL L 0 ds } true w') : ID n ops w1 ν0 s0 a0 ds L ν a w' := ⟨h.ag, h.size, h.df, h.base, h.done, hw⟩
theorem regionJ_st {E : Env} {n : Nat} {ops : Array Oper} {s s' : St} (h : regionJ E n ops s = some s') (hg : Good s) : Le s s' ∧ Good s' ∧ s'.mem = s.mem := by
  unfold regionJ at h; cases h
theorem regionJ_ok {E : Env} (HC : CallOk E) {w0 : Base} (hG : GlobB E w0) {id n : Nat} {ops : Array Oper} {s s' : St} (hm : E.P.follows .mixedOrders = true) (h : regionJ E n ops s = some s') (hg : Good s) (hh : Holds' s') {Q : Exit → Act → World → Prop} {ν0 : Nu} {a0 : Act} {w : World} (ht : TR n ν0 s a0) (hw : WR w0 ν0 s.own true w)
    (hQ : ∀ ν' a' w', Ag s.own ν0 ν' → TR n ν' s' a' → WR w0 ν' s'.own true w' → Q .normal a' w') : (Code.region id ops true).wp E.P Q a0 w := by
  unfold regionJ at h; cases h
end Go.Proofs.YtiajbijbhhpllaaDoor.S2
namespace Go.Proofs.YtiajbijbhhpllaaDoor.S2
open Go Go.RowKit Sim
theorem addN_mem {x : Nat} : ∀ (r l : List Nat), x ∈ addN l r → x ∈ l ∨ x ∈ r
  | [], l, h => .inl h
  | k :: r, l, h => by
    unfold addN at h
    cases hb : l.any (Nat.beq k)
    · rw [hb] at h
      rcases addN_mem r _ h with h | h
      · rcases List.mem_append.mp h with h | h
        · exact .inl h
        · exact .inr (by rw [List.mem_singleton.mp h]; exact List.mem_cons_self)
      · exact .inr (List.mem_cons_of_mem _ h)
    · rw [hb] at h
      rcases addN_mem r _ h with h | h
      · exact .inl h
      · exact .inr (List.mem_cons_of_mem _ h)
def CloL (ops : Array Oper) (L : Nat → Bool) : Prop := ∀ i o, ops[i]? = some o → L i = true → ∀ e ∈ o.after, Region.binds .any e = true → L e.on = true
theorem aftA_ok {L : Nat → Bool} {o : Oper} (h : ∀ e ∈ o.after, Region.binds .any e = true → L e.on = true) : ∀ x ∈ aftA o, L x = true := fun x hx => by
  unfold aftA at hx
  obtain ⟨e, he, rfl⟩ := List.mem_map.mp hx
  obtain ⟨h1, h2⟩ := List.mem_filter.mp he
  exact h e (by simpa using h1) h2
theorem ancA_ok {ops : Array Oper} {L : Nat → Bool} (hc : CloL ops L) : ∀ (k : Nat) (xs : List Nat), (∀ x ∈ xs, L x = true) → ∀ x ∈ ancA ops k xs, L x = true
  | 0, xs, h => h
  | k + 1, xs, h => ancA_ok hc k _ fun x hx => by
    rcases addN_mem _ _ hx with hx | hx
    · exact h x hx
    · obtain ⟨i, hi, hx⟩ := List.mem_flatMap.mp hx
      split at hx
      · rename_i o ho
        exact aftA_ok (hc i o ho (h i hi)) x hx
      · cases hx
theorem CloL.set {ops : Array Oper} {L : Nat → Bool} (hc : CloL ops L) {i : Nat} {o : Oper} (ho : ops[i]? = some o) (hr : ∀ e ∈ o.after, Region.binds .any e = true → L e.on = true) : CloL ops (setL L i) := fun j oj hj hL e he hb => by
  have key : L e.on = true → setL L i e.on = true := fun h => by unfold setL; split <;> first | rfl | exact h
  by_cases hji : j = i
  · subst hji
    rw [ho] at hj
    obtain rfl := Option.some.inj hj
    exact key (hr e he hb)
  · unfold setL at hL
    rw [if_neg hji] at hL
    exact key (hc j oj hj hL e he hb)
theorem any_mem {l : List Nat} {j : Nat} (h : l.any (Nat.beq j) = true) : j ∈ l := by
  obtain ⟨k, hk, hb⟩ := List.any_eq_true.mp h
  rw [Nat.eq_of_beq_eq_true hb]; exact hk
theorem stepT_st {E : Env} {cl : Callee} (hst : ClSt cl) {n : Nat} {o : Oper} {s s' : St} (h : stepT E cl n o s = some s') (hg : Good s) : Le s s' ∧ Good s' ∧ (s.mem = true → s'.mem = true) := by
  unfold stepT at h
  split at h
  · rename_i x own q hfx
    obtain ⟨f1, f2, f3, f4, f5, f6⟩ := simFX_st hfx hg
    have gm : Good { s with own := own, mem := true, obl := more s q } := hg.grow rfl rfl rfl f2 f3 f6
    have lm : Le s { s with own := own, mem := true, obl := more s q } := ⟨more_ext s q, f2, f3, rfl, rfl, f4, f5⟩
    obtain ⟨g3, l3⟩ := putS_good h gm f1
    obtain ⟨_, _, p3, _⟩ := putS_keep h
    exact ⟨lm.trans l3, g3, fun _ => p3⟩
  · split at h
    · rename_i x c q hro
      have gn : Good { s with mem := s.mem || c, obl := more s q } := ⟨hg.lo, hg.llo, hg.ok, hg.okb⟩
      obtain ⟨g4, l4⟩ := putS_good h gn (show okV s.own.b.length s.own.l.length x from simRO_st hro hg)
      obtain ⟨_, _, r3, _⟩ := putS_keep h
      exact ⟨(Le.same (s' := { s with mem := s.mem || c, obl := more s q }) (more_ext s q) rfl rfl rfl).trans l4, g4, fun hm => by rw [r3]; show (s.mem || c) = true; rw [hm]; rfl⟩
    · split at h
      · rename_i f args hca
        have hok1 : ∀ y ∈ args, okV s.own.b.length s.own.l.length y := callArgs_okV hca hg
        split at h
        · rename_i x s2 hc
          obtain ⟨c1, c2, c3⟩ := hst f args s _ s2 hg.lo hg.llo hg.okb hok1 hc
          have gm : Good { s with own := s2.own, mem := true, orc := s2.orc, obl := s2.obl } := hg.grow rfl rfl rfl c1.len c1.llen c3
          obtain ⟨g3, l3⟩ := putS_good h gm c2
          obtain ⟨_, _, p3, _⟩ := putS_keep h
          exact ⟨(show Le s { s with own := s2.own, mem := true, orc := s2.orc, obl := s2.obl } from ⟨c1.ext, c1.len, c1.llen, rfl, rfl, c1.keep, c1.lkeep⟩).trans l3, g3, fun _ => p3⟩
        · cases h
      · cases h
theorem tailS_st {E : Env} {cl : Callee} (hst : ClSt cl) {n : Nat} : ∀ (l : List Oper) (s s' : St), tailS E cl n l s = some s' → Good s → Le s s' ∧ Good s' ∧ (s.mem = true → s'.mem = true)
  | [], s, s', h, hg => by
    simp only [tailS, Option.some.injEq] at h
    subst h; exact ⟨Le.refl _, hg, fun h => h⟩
  | o :: r, s, s', h, hg => by
    unfold tailS at h
    split at h
    · rename_i s1 h1
      obtain ⟨a, b, c⟩ := stepT_st hst h1 hg
      obtain ⟨d, e, f⟩ := tailS_st hst r s1 s' h b
      exact ⟨a.trans d, e, fun hm => f (c hm)⟩
    · cases h
theorem tailS_append {E : Env} {cl : Callee} {n : Nat} : ∀ (l r : List Oper) (s s' : St), tailS E cl n (l ++ r) s = some s' → ∃ s1, tailS E cl n l s = some s1 ∧ tailS E cl n r s1 = some s'
  | [], r, s, s', h => ⟨s, rfl, h⟩
  | o :: l, r, s, s', h => by
    rw [List.cons_append] at h
    unfold tailS at h
    split at h
    · rename_i s1 h1
      obtain ⟨s2, a, b⟩ := tailS_append l r s1 s' h
      exact ⟨s2, by unfold tailS; rw [h1]; exact a, b⟩
    · cases h
theorem tailS_snoc {E : Env} {cl : Callee} {n : Nat} {l : List Oper} {o : Oper} {s s1 s2 : St} (h : tailS E cl n l s = some s1) (h2 : stepT E cl n o s1 = some s2) : tailS E cl n (l ++ [o]) s = some s2 := by
  induction l generalizing s with
  | nil =>
    simp only [tailS, Option.some.injEq] at h
    subst h
    show (match stepT E cl n o s with | some s1 => tailS E cl n [] s1 | none => none) = _
    rw [h2]; rfl
  | cons x r ih =>
    unfold tailS at h
    split at h
    · rename_i s3 h3
      show (match stepT E cl n x s with | some s1 => tailS E cl n (r ++ [o]) s1 | none => none) = _
      rw [h3]; exact ih h
    · cases h
theorem stepT_ok {E : Env} (HC : CallOk E) {cl : Callee} (hst : ClSt cl) {w0 : Base} (hok : ClOk E w0 cl) (hG : GlobB E w0) {n : Nat} {o : Oper} {s s' : St} (h : stepT E cl n o s = some s') (hh : Holds' s') (hg : Good s) (hm : s.mem = true) {ν : Nu} {a : Act} {w : World} {K : Act → World → Prop} {Q : Exit → Act → World → Prop}
    (ht : TR n ν s a) (hw : WR w0 ν s.own true w) (hK : ∀ ν' a' w', Ag s.own ν ν' → TR n ν' s' a' → WR w0 ν' s'.own true w' → K a' w') : o.wp E.P a w K Q := by
  unfold stepT at h
  split at h
  · rename_i x own q hfx
    obtain ⟨u1, u2, _, _, _, _⟩ := putS_keep h
    have hh3' : Holds' { s with own := own, mem := true, obl := more s q } := fun p hp => hh p (by rw [u1]; exact hp)
    obtain ⟨hq, _⟩ := more_q (s := s) (q := q) hh3'
    refine op_fx hG hfx hq hg ht (by rw [hm]; exact hw) fun ν' v w' ha hv hw' => ?_
    exact hK ν' _ w' ha (tr_put h hv (ht.move hg ha rfl)) (by rw [u2]; exact hw')
  · split at h
    · rename_i x c q hro
      obtain ⟨u1, u2, _, _, _, _⟩ := putS_keep h
      have hh3' : Holds' { s with mem := s.mem || c, obl := more s q } := fun p hp => hh p (by rw [u1]; exact hp)
      obtain ⟨hq, _⟩ := more_q (s := s) (q := q) hh3'
      refine op_ro HC hG hro hq hg ht (by rw [hm]; exact hw) fun v w' hv hw' => ?_
      refine hK ν _ w' (Agree.refl _ _ _) (tr_put h hv (ht.of rfl)) ?_
      rw [u2]
      rw [hm, Bool.true_or] at hw'; exact hw'
    · split at h
      · rename_i f args hca
        have hok1 : ∀ y ∈ args, okV s.own.b.length s.own.l.length y := callArgs_okV hca hg
        split at h
        · rename_i x s2 hc
          obtain ⟨u1, u2, _, _, _, _⟩ := putS_keep h
          have hh2 : Holds' s2 := fun p hp => hh p (by rw [u1]; exact hp)
          obtain ⟨vs, hvs, hrun⟩ := callArgs_run (P := E.P) hca ht
          obtain ⟨hf, hcalls⟩ := hok f args s x s2 hg.lo hg.llo hok1 hc hh2 ν w vs hvs (by rw [hm]; exact hw)
          unfold Oper.wp
          rw [hrun hf w, Oper.upon_enter]
          refine hcalls.mono fun e w' ⟨ν', v, ha, he, hv, hw'⟩ => ?_
          subst he
          exact hK ν' _ w' ha (tr_put h hv (ht.move hg ha rfl)) (by rw [u2]; exact hw'.mem)
        · cases h
      · cases h
def setK (L : Nat → Bool) (b : Nat) : Nat → Nat → Bool
  | 0 => L
  | m + 1 => setL (setK L b m) (b + m)
theorem setK_lo {L : Nat → Bool} {b j : Nat} (h : j < b) : ∀ m, setK L b m j = L j
  | 0 => rfl
  | m + 1 => by
    show setL (setK L b m) (b + m) j = _
    unfold setL; rw [if_neg (by omega)]; exact setK_lo h m
theorem setK_in {L : Nat → Bool} {b j : Nat} (h : b ≤ j) : ∀ m, j < b + m → setK L b m j = true
  | 0, h2 => by omega
  | m + 1, h2 => by
    show setL (setK L b m) (b + m) j = _
    unfold setL
    split
    · rfl
    · exact setK_in h m (by omega)
theorem setK_hi {L : Nat → Bool} {b j : Nat} : ∀ m, b + m ≤ j → setK L b m j = L j
  | 0, _ => rfl
  | m + 1, h => by
    show setL (setK L b m) (b + m) j = _
    unfold setL; rw [if_neg (by omega)]; exact setK_hi m (by omega)
structure TailN (E : Env) (cl : Callee) (n k : Nat) (ops : Array Oper) (s s4 : St) (b : Nat) (T : List Oper) (s2 : St) : Prop where
  bk : b + k = ops.size
  k0 : 0 < k
  tl : T.length = k
  at_ : ∀ m, m < k → ops[b + m]? = T[m]?
  grd : ∀ o ∈ ops.toList, o.guard = none
  anc : ∀ m, m < k → ∀ o, T[m]? = some o → ∀ j, j < b + m → j ∈ ancA ops ops.size (aftA o)
  reg : regionD E n (ops.toList.take b ++ T.map noopT).toArray s = some s2
  run : tailS E cl n T s2 = some s4
theorem tailN_some {E : Env} {cl : Callee} {n k : Nat} {ops : Array Oper} {s s4 : St} (h : tailN E cl n k ops s = some s4) : ∃ b T s2, TailN E cl n k ops s s4 b T s2 := by
  unfold tailN at h
  simp only [cond_eq_ite] at h
  split at h
  · rename_i hc
    simp only [Bool.and_eq_true] at hc
    obtain ⟨⟨⟨c1, c2⟩, c3⟩, c4⟩ := hc
    have hk : k ≤ ops.size := Nat.le_of_ble_eq_true c2
    split at h
    · rename_i s2 hr
      have hat : ∀ m, m < k → ops[ops.size - k + m]? = (ops.toList.drop (ops.size - k))[m]? := fun m hm => by
        rw [List.getElem?_drop, Array.getElem?_toList]
      refine ⟨ops.size - k, ops.toList.drop (ops.size - k), s2, by omega, by simpa [Nat.blt_eq] using c3, by rw [List.length_drop, Array.length_toList]; omega, hat, fun o ho => ?_, fun m hm o hT j hj => ?_, hr, h⟩
      · exact Option.isNone_iff_eq_none.mp (List.all_eq_true.mp c1 o ho)
      · have := List.all_eq_true.mp (List.all_eq_true.mp c4 m (List.mem_range.mpr hm)) j (List.mem_range.mpr hj)
        have h2 := any_mem this
        rw [hat m hm, hT] at h2
        exact h2
    · cases h
  · cases h
theorem tailN_st {E : Env} {cl : Callee} (hst : ClSt cl) {n k : Nat} {ops : Array Oper} {s s' : St} (h : tailN E cl n k ops s = some s') (hm : s.mem = true) (hg : Good s) : Le s s' ∧ Good s' ∧ s'.mem = true := by
  obtain ⟨b, T, s2, H⟩ := tailN_some h
  obtain ⟨l1, g2, m2⟩ := regionD_st H.reg hg
  obtain ⟨l2, g3, m3⟩ := tailS_st hst T s2 s' H.run g2
  exact ⟨l1.trans l2, g3, m3 (m2.trans hm)⟩
theorem tailN_ok {E : Env} (HC : CallOk E) {cl : Callee} (hst : ClSt cl) {w0 : Base} (hok : ClOk E w0 cl) (hG : GlobB E w0) {id n k : Nat} {ops : Array Oper} {s s' : St} (hm : E.P.follows .mixedOrders = true) (hsm : s.mem = true) (h : tailN E cl n k ops s = some s') (hg : Good s) (hh : Holds' s') {Q : Exit → Act → World → Prop} {ν0 : Nu} {a0 : Act} {w : World} (ht : TR n ν0 s a0) (hw : WR w0 ν0 s.own true w)
    (hQ : ∀ ν' a' w', Ag s.own ν0 ν' → TR n ν' s' a' → WR w0 ν' s'.own true w' → Q .normal a' w') : (Code.region id ops true).wp E.P Q a0 w := by
  obtain ⟨b, T, s2, H⟩ := tailN_some h
  obtain ⟨le2, g2, mm2⟩ := regionD_st H.reg hg
  have mem2 : s2.mem = true := mm2.trans hsm
  have hk0 := H.k0
  have hbk := H.bk
  have hTl := H.tl
  have pre_ : ∀ m, m ≤ k → ∃ sm, tailS E cl n (T.take m) s2 = some sm ∧ Good sm ∧ sm.mem = true ∧ Holds' sm ∧ Le s2 sm ∧ ∀ o, T[m]? = some o → ∃ sn, stepT E cl n o sm = some sn ∧ tailS E cl n (T.take (m + 1)) s2 = some sn ∧ Holds' sn := fun m hm => by
    have hrun := H.run
    rw [← List.take_append_drop m T] at hrun
    obtain ⟨sm, h1, h2⟩ := tailS_append _ _ _ _ hrun
    obtain ⟨a1, a2, a3⟩ := tailS_st hst _ _ _ h1 g2
    obtain ⟨b1, _, _⟩ := tailS_st hst _ _ _ h2 a2
    refine ⟨sm, h1, a2, a3 mem2, fun p hp => hh p (b1.ext p hp), a1, fun o ho => ?_⟩
    have hd : T.drop m = o :: T.drop (m + 1) := by
      obtain ⟨hlt, he⟩ := List.getElem?_eq_some_iff.mp ho
      rw [List.drop_eq_getElem_cons hlt, he]
    rw [hd] at h2
    unfold tailS at h2
    split at h2
    · rename_i sn h3
      have g4 := (stepT_st hst h3 a2).2.1
      obtain ⟨c1, _, _⟩ := tailS_st hst _ _ _ h2 g4
      refine ⟨sn, h3, ?_, fun p hp => hh p (c1.ext p hp)⟩
      have : T.take (m + 1) = T.take m ++ [o] := by rw [List.take_add_one, ho]; rfl
      rw [this]
      exact tailS_snoc h1 h3
    · cases h2
  have hh2 : Holds' s2 := by
    obtain ⟨sm, _, _, _, h4, h5, _⟩ := pre_ 0 (by omega)
    exact fun p hp => h4 p (h5.ext p hp)
  obtain ⟨ops0, hops0⟩ : ∃ ops0, (ops.toList.take b ++ T.map noopT).toArray = ops0 := ⟨_, rfl⟩
  have hr := H.reg
  rw [hops0] at hr
  have hd : depB ops0 = true := by
    unfold regionD at hr
    cases hd : depB ops0
    · rw [hd] at hr; cases hr
    · rfl
  have hl0 : ops0.toList = ops.toList.take b ++ T.map noopT := by rw [← hops0]
  have htk : (ops.toList.take b).length = b := by rw [List.length_take, Array.length_toList]; omega
  have hsz0 : ops0.size = b + k := by rw [← hops0]; simp only [List.size_toArray, List.length_append, List.length_map]; omega
  have get : ∀ i, i < b → ops[i]? = ops0[i]? := fun i hi => by
    rw [← Array.getElem?_toList, ← Array.getElem?_toList, hl0, List.getElem?_append_left (by omega), List.getElem?_take, if_pos hi]
  have get0 : ∀ m, m < k → ∀ o, T[m]? = some o → ops0[b + m]? = some (noopT o) := fun m hm o ho => by
    rw [← Array.getElem?_toList, hl0, List.getElem?_append_right (by omega), htk, show b + m - b = m by omega, List.getElem?_map, ho]; rfl
  have getn : ∀ i, b + k ≤ i → ops[i]? = none ∧ ops0[i]? = none := fun i hi => ⟨Array.getElem?_eq_none (by omega), Array.getElem?_eq_none (by omega)⟩
  have someT : ∀ m, m < k → ∃ o, T[m]? = some o := fun m hm => ⟨T[m], List.getElem?_eq_getElem (by omega)⟩
  have hgrd : ∀ (i : Nat) o, ops[i]? = some o → o.guard = none := fun i o ho => H.grd o (by
    rw [← Array.getElem?_toList] at ho; exact List.mem_of_getElem? ho)
  have hgrd0 : ∀ (i : Nat) o, ops0[i]? = some o → o.guard = none := fun i o ho => by
    rcases Nat.lt_or_ge i b with hi | hi
    · exact hgrd i o (by rw [get i hi]; exact ho)
    · rcases Nat.lt_or_ge i (b + k) with h2 | h2
      · obtain ⟨m, rfl⟩ : ∃ m, i = b + m := ⟨i - b, by omega⟩
        obtain ⟨o', ho'⟩ := someT m (by omega)
        rw [get0 m (by omega) o' ho'] at ho
        obtain rfl := Option.some.inj ho
        exact hgrd (b + m) o' (by rw [H.at_ m (by omega)]; exact ho')
      · rw [(getn i h2).2] at ho; cases ho
  unfold regionD at hr
  rw [hd] at hr
  simp only [cond_true] at hr
  split at hr
  rotate_left
  · cases hr
  rename_i ds s1 hs
  simp only [Option.some.injEq] at hr
  have hs2 := hr
  have hh1 : Holds' s1 := by rw [← hr] at hh2; exact hh2
  obtain ⟨⟨r0, r1, r2⟩, k2, k3, k4, k5, k6, k7, k8⟩ := simD_st (s0 := s.own) _ _ _ _ _ hs rfl (fun i d hi => by simp at hi) (fun p hp => by simpa [newsL] using hg.ok p hp)
  have hdl : ds.length = ops0.size := by rw [r1, List.nil_append, r2]; simp
  have SD := fun Q' : Exit → Act → World → Prop => simD_ok HC hG hd hg.okb (ν0 := ν0) (a0 := a0) ht.size k7 ops0.toList [] [] s s1 hs rfl rfl hh1 rfl (fun L ν a w hI => by
    show TR n ν s a0
    exact ht.move hg hI.ag rfl)
  obtain ⟨step, fin⟩ := SD Q
  have hrep : lstB (Array.replicate ops.size false) = fun _ => false := by
    funext j
    unfold lstB
    simp only [Array.getD_eq_getD_getElem?, Array.getElem?_replicate]
    split <;> rfl
  have noop : ∀ (k : Nat) (o : Oper) L ν a w, ops0[k]? = some (noopT o) → ID n ops0 w0 ν0 s.own a0 ds L ν a w → L k = false → (∀ e ∈ o.after, Region.binds .any e = true → L e.on = true) → ∃ ν', ID n ops0 w0 ν0 s.own a0 ds (setL L k) ν' a w := fun k o L ν a w hk hI hL hr => by
    have hnoop := (SD fun _ _ _ => False).1 k (Nat.zero_le _) (noopT o) L ν a w hk hI hL hr (fun _ _ _ => False) (fun a' w' => ∃ ν', ID n ops0 w0 ν0 s.own a0 ds (setL L k) ν' a' w') fun ν' a' w' hI' => ⟨ν', hI'⟩
    unfold wpOp at hnoop
    rw [hk] at hnoop
    have hg0 := hgrd0 k _ hk
    have hwt : Region.wanted (noopT o) (yielded ops0 a.tmps) = true := by simp [Region.wanted, hg0]
    simp only [hwt, if_true] at hnoop
    rcases hnoop with hn | ⟨_, _, _, hf⟩
    · unfold Oper.wp at hn
      rw [show (execOp a.eval (noopT o)).run E.P w = .ok (.value undef) w by simp [execOp, noopT, Act.eval], Oper.upon_value] at hn
      have e : a.put (noopT o).dst undef = a := rfl
      rw [e] at hn; exact hn
    · exact hf.elim
  have noops : ∀ L ν a w, (∀ j, j < b → L j = true) → (∀ m, m < k → L (b + m) = false) → ID n ops0 w0 ν0 s.own a0 ds L ν a w → ∀ m, m ≤ k → ∃ ν', ID n ops0 w0 ν0 s.own a0 ds (setK L b m) ν' a w := fun L ν a w hL hF hI m => by
    induction m with
    | zero => exact fun _ => ⟨ν, hI⟩
    | succ m ih =>
      intro hm
      obtain ⟨ν1, hI1⟩ := ih (by omega)
      obtain ⟨o, ho⟩ := someT m (by omega)
      have hk := get0 m (by omega) o ho
      refine noop (b + m) o (setK L b m) ν1 a w hk hI1 (by rw [setK_hi m (Nat.le_refl _)]; exact hF m (by omega)) fun e he hb => ?_
      have hlt := (depB_ok hd hk).low e he hb
      rcases Nat.lt_or_ge e.on b with h1 | h1
      · rw [setK_lo h1]; exact hL _ h1
      · exact setK_in h1 m hlt
  refine wp_region_any hm (wpAny_steps (I := fun L a w => CloL ops L ∧ (((∀ m, m < k → L (b + m) = false) ∧ ∃ ν, ID n ops0 w0 ν0 s.own a0 ds L ν a w) ∨ ∃ m, 0 < m ∧ m ≤ k ∧ (∀ j, j < b + m → L j = true) ∧ (∀ j, b + m ≤ j → j < b + k → L j = false) ∧ ∃ sm ν, tailS E cl n (T.take m) s2 = some sm ∧ Ag s.own ν0 ν ∧ TR n ν sm a ∧ WR w0 ν sm.own true w)) (fun L i o' a w ho hI hL hr K hK => ?_) (fun L a w hall hI => ?_) (fun i o' ho e he hb => ?_) ops.size (Array.replicate ops.size false) a0 _ (by simp) ?_ ?_)
  · obtain ⟨hclo, hI⟩ := hI
    have hclo' := hclo.set ho hr
    have hi : i < b + k := by
      rcases Nat.lt_or_ge i (b + k) with h | h
      · exact h
      · rw [(getn i h).1] at ho; cases ho
    have hwt : ∀ tm, Region.wanted o' (yielded ops tm) = true := fun tm => by simp [Region.wanted, hgrd i o' ho]
    rcases Nat.lt_or_ge i b with hlt | hge
    · rcases hI with ⟨hF, ν, hI⟩ | ⟨m, _, _, hLa, _⟩
      · have ho0 : ops0[i]? = some o' := by rw [← get i hlt]; exact ho
        have := step i (Nat.zero_le _) o' L ν a w ho0 hI hL hr Q K fun ν' a' w' hI' => hK a' w' ⟨hclo', .inl ⟨fun m hm => by unfold setL; rw [if_neg (by omega)]; exact hF m hm, ν', hI'⟩⟩
        have hwt0 : ∀ tm, Region.wanted o' (yielded ops0 tm) = true := fun tm => by simp [Region.wanted, hgrd i o' ho]
        unfold wpOp at this ⊢
        rw [ho0] at this
        rw [ho]
        simp only [hwt, hwt0, if_true] at this ⊢
        exact this
      · have := hLa i (by omega); rw [hL] at this; cases this
    · obtain ⟨m0, rfl⟩ : ∃ m, i = b + m := ⟨i - b, by omega⟩
      have hTm : T[m0]? = some o' := by rw [← H.at_ m0 (by omega)]; exact ho
      have hanc := ancA_ok hclo ops.size (aftA o') (aftA_ok hr)
      have hbel : ∀ j, j < b + m0 → L j = true := fun j hj => hanc j (H.anc m0 (by omega) o' hTm j hj)
      have one : ∀ sm ν, tailS E cl n (T.take m0) s2 = some sm → Ag s.own ν0 ν → TR n ν sm a → WR w0 ν sm.own true w → (∀ j, b + m0 ≤ j → j < b + k → L j = false) → wpOp E.P ops Q (b + m0) K a w := fun sm ν hsm' hag htr hwr hF => by
        obtain ⟨sm', q1, q2, q3, q4, q5, q6⟩ := pre_ m0 (by omega)
        rw [hsm'] at q1
        obtain rfl := Option.some.inj q1
        obtain ⟨sn, t1, t2, t3⟩ := q6 o' hTm
        unfold wpOp
        rw [ho]
        simp only [hwt, if_true]
        left
        refine stepT_ok HC hst hok hG t1 t3 q2 q3 htr hwr fun ν' a' w' ha ht' hw' => hK a' w' ⟨hclo', .inr ⟨m0 + 1, by omega, by omega, fun j hj => ?_, fun j h1 h2 => ?_, sn, ν', t2, ?_, ht', hw'⟩⟩
        · unfold setL
          split
          · rfl
          · exact hbel j (by omega)
        · unfold setL
          rw [if_neg (by omega)]; exact hF j (by omega) h2
        · exact Agree.trans hag ha (Nat.le_trans (le2.len) q5.len) (Nat.le_trans le2.llen q5.llen)
      rcases hI with ⟨hF, ν, hI⟩ | ⟨m, hm1, hm2, hLa, hLb, sm, ν, h1, h2, h3, h4⟩
      · rcases Nat.eq_zero_or_pos m0 with rfl | hpos
        · obtain ⟨ν', hI'⟩ := noops L ν a w (fun j hj => hbel j (by omega)) hF hI k (Nat.le_refl _)
          have hall' : ∀ j, j < ops0.size → setK L b k j = true := fun j hj => by
            rcases Nat.lt_or_ge j b with h1 | h1
            · rw [setK_lo h1]; exact hbel j (by omega)
            · exact setK_in h1 k (by omega)
          have hT := fin (setK L b k) ν' a w hI'
          have same : ∀ t, (actD (setK L b k) a ν' 0 ops0.toList ds a0).tmps.getD t undef = a.tmps.getD t undef := fun t => by
            refine actD_get (setK L b k) a ν' t ops0.toList ds 0 a0 (by simp [hdl]) (by rw [hI'.size, ht.size]) (fun j oj hj _ => by rw [Nat.zero_add]; exact hall' j (by simpa using lt_of_some_list hj)) ?_
            by_cases hex : ∃ (j : Nat) (oj : Oper), ops0.toList[j]? = some oj ∧ oj.dst = some t
            · exact .inr hex
            · left
              refine (hI'.base t fun i oi hoi hti => ?_).symm
              exact absurd ⟨i, oi, by simpa using hoi, hti⟩ hex
          have hLn : newsL (setK L b k) 0 ds = newsL (fun _ => true) 0 ds := newsL_congr ds 0 fun j _ hj => hall' j (by omega)
          have hwr := hI'.wr
          rw [hLn] at hwr
          have tr2 : TR n ν' { s1 with own := { s1.own with l := s1.own.l ++ newsL (fun _ => true) 0 ds } } a := ⟨hI'.size, fun t => by
            have := hT.tm t
            rw [same t] at this
            exact this, hI'.df⟩
          have wr2 : WR w0 ν' { s1.own with l := s1.own.l ++ newsL (fun _ => true) 0 ds } true w := by rw [k2]; exact hwr
          rw [hs2] at tr2
          have wr2 : WR w0 ν' s2.own true w := by rw [← hs2]; exact wr2
          exact one _ ν' rfl hI'.ag tr2 wr2 fun j h1 h2 => by
            obtain ⟨m, rfl⟩ : ∃ m, j = b + m := ⟨j - b, by omega⟩
            exact hF m (by omega)
        · have := hbel b (by omega)
          have hF0 := hF 0 hk0
          rw [Nat.add_zero] at hF0
          rw [this] at hF0; cases hF0
      · have hmm : m = m0 := by
          rcases Nat.lt_trichotomy m m0 with hlt | heq | hgt
          · have := hbel (b + m) (by omega)
            rw [hLb (b + m) (Nat.le_refl _) (by omega)] at this; cases this
          · exact heq
          · have := hLa (b + m0) (by omega)
            rw [hL] at this; cases this
        subst hmm
        exact one sm ν h1 h2 h3 h4 hLb
  · rcases hI.2 with ⟨hF, _⟩ | ⟨m, hm1, hm2, _, hLb, sm, ν, h1, h2, h3, h4⟩
    · have := hF 0 hk0
      rw [hall (b + 0) (by omega)] at this; cases this
    · have hmk : m = k := by
        rcases Nat.lt_or_ge m k with hlt | hge
        · have := hLb (b + m) (Nat.le_refl _) (by omega)
          rw [hall (b + m) (by omega)] at this; cases this
        · omega
      subst hmk
      rw [List.take_of_length_le (by omega)] at h1
      have := H.run.symm.trans h1
      obtain rfl := Option.some.inj this
      exact hQ ν a w h2 h3 h4
  · rcases Nat.lt_or_ge i b with hi | hi
    · exact (depB_ok hd (by rw [← get i hi]; exact ho)).low e he hb
    · rcases Nat.lt_or_ge i (b + k) with h2 | h2
      · obtain ⟨m, rfl⟩ : ∃ m, i = b + m := ⟨i - b, by omega⟩
        rw [H.at_ m (by omega)] at ho
        exact (depB_ok hd (get0 m (by omega) o' ho)).low e he hb
      · rw [(getn i h2).1] at ho; cases ho
  · have := List.length_filter_le (fun i => !lstB (Array.replicate ops.size false) i) (List.range ops.size)
    simpa using this
  · rw [hrep]
    refine ⟨fun i o ho hL => (by cases hL), .inl ⟨fun _ _ => rfl, ν0, ⟨Agree.refl _ _ _, ht.size, ht.df, fun _ _ => rfl, fun i o d t _ _ _ hL => (by cases hL), ?_⟩⟩⟩
    refine hw.drew.kill rfl (fun p e hp hde => ?_) (hg.okb.mono (Nat.le_refl _) (by simp))
    have hp : (s.own.l ++ newsL (fun _ => false) 0 ds)[p]? = some e := hp
    rcases Nat.lt_or_ge p s.own.l.length with hl | hl
    · rw [List.getElem?_append_left hl] at hp; exact hp
    · rw [List.getElem?_append_right hl] at hp
      rw [newsL_dead ds _ _ e hp] at hde; cases hde
theorem regionD_runs {E : Env} (HC : CallOk E) {n : Nat} {ops : Array Oper} {s s2 : St} (h : regionD E n ops s = some s2) (hg : Good s) (hh : Holds' s2) : ∃ ds, depB ops = true ∧ ds.length = ops.size ∧ ∀ w0, GlobB E w0 → ∀ ν0 a0, TR n ν0 s a0 →
    (∀ (Q : Exit → Act → World → Prop) (k : Nat) o L ν a w, ops[k]? = some o → ID n ops w0 ν0 s.own a0 ds L ν a w → L k = false → (∀ e ∈ o.after, Region.binds .any e = true → L e.on = true) → ∀ (K : Act → World → Prop), (∀ ν' a' w', ID n ops w0 ν0 s.own a0 ds (setL L k) ν' a' w' → K a' w') → wpOp E.P ops Q k K a w) ∧
    (∀ L ν a w, ID n ops w0 ν0 s.own a0 ds L ν a w → (∀ j, j < ops.size → L j = true) → TR n ν s2 a ∧ WR w0 ν s2.own true w) ∧
    (∀ w, WR w0 ν0 s.own true w → ID n ops w0 ν0 s.own a0 ds (fun _ => false) ν0 a0 w) ∧
    (∀ L ν a w t, ID n ops w0 ν0 s.own a0 ds L ν a w → (∀ (j : Nat) o, ops[j]? = some o → o.dst = some t → L j = true) → Is ν (look s2.tmps t) (a.tmps.getD t undef) ∧ WR w0 ν s.own true w) := by
  have hr := h
  have hd : depB ops = true := by
    unfold regionD at hr
    cases hd : depB ops
    · rw [hd] at hr; cases hr
    · rfl
  unfold regionD at hr
  rw [hd] at hr
  simp only [cond_true] at hr
  split at hr
  rotate_left
  · cases hr
  rename_i ds s1 hs
  simp only [Option.some.injEq] at hr
  have hs2 := hr
  have hh1 : Holds' s1 := by rw [← hr] at hh; exact hh
  obtain ⟨⟨r0, r1, r2⟩, k2, k3, k4, k5, k6, k7, k8⟩ := simD_st (s0 := s.own) _ _ _ _ _ hs rfl (fun i d hi => by simp at hi) (fun p hp => by simpa [newsL] using hg.ok p hp)
  have hdl : ds.length = ops.size := by rw [r1, List.nil_append, r2]; simp
  refine ⟨ds, hd, hdl, fun w0 hG ν0 a0 ht => ?_⟩
  obtain ⟨step, fin⟩ := simD_ok HC hG hd hg.okb (ν0 := ν0) (a0 := a0) ht.size k7 ops.toList [] [] s s1 hs rfl rfl hh1 rfl (fun L ν a w hI => by
    show TR n ν s a0
    exact ht.move hg hI.ag rfl)
  refine ⟨fun Q k o L ν a w hk hI hL hr K hK => step k (Nat.zero_le _) o L ν a w hk hI hL hr Q K hK, fun L ν a w hI hall => ?_, fun w hw => ?_, fun L ν a w t hI hall => ?_⟩
  · have hT := fin L ν a w hI
    have same : ∀ t, (actD L a ν 0 ops.toList ds a0).tmps.getD t undef = a.tmps.getD t undef := fun t => by
      refine actD_get L a ν t ops.toList ds 0 a0 (by simp [hdl]) (by rw [hI.size, ht.size]) (fun j oj hj _ => by rw [Nat.zero_add]; exact hall j (by simpa using lt_of_some_list hj)) ?_
      by_cases hex : ∃ (j : Nat) (oj : Oper), ops.toList[j]? = some oj ∧ oj.dst = some t
      · exact .inr hex
      · left
        refine (hI.base t fun i oi hoi hti => ?_).symm
        exact absurd ⟨i, oi, by simpa using hoi, hti⟩ hex
    have hLn : newsL L 0 ds = newsL (fun _ => true) 0 ds := newsL_congr ds 0 fun j _ hj => hall j (by omega)
    have hwr := hI.wr
    rw [hLn] at hwr
    have tr2 : TR n ν { s1 with own := { s1.own with l := s1.own.l ++ newsL (fun _ => true) 0 ds } } a := ⟨hI.size, fun t => by
      have := hT.tm t
      rw [same t] at this
      exact this, hI.df⟩
    have wr2 : WR w0 ν { s1.own with l := s1.own.l ++ newsL (fun _ => true) 0 ds } true w := by rw [k2]; exact hwr
    rw [hs2] at tr2
    exact ⟨tr2, by rw [← hs2]; exact wr2⟩
  · refine ⟨Agree.refl _ _ _, ht.size, ht.df, fun _ _ => rfl, fun i o d t _ _ _ hL => (by cases hL), ?_⟩
    refine hw.kill rfl (fun p e hp hde => ?_) (hg.okb.mono (Nat.le_refl _) (by simp))
    have hp : (s.own.l ++ newsL (fun _ => false) 0 ds)[p]? = some e := hp
    rcases Nat.lt_or_ge p s.own.l.length with hl | hl
    · rw [List.getElem?_append_left hl] at hp; exact hp
    · rw [List.getElem?_append_right hl] at hp
      rw [newsL_dead ds _ _ e hp] at hde; cases hde
  · have hT := fin L ν a w hI
    have same : (actD L a ν 0 ops.toList ds a0).tmps.getD t undef = a.tmps.getD t undef := by
      refine actD_get L a ν t ops.toList ds 0 a0 (by simp [hdl]) (by rw [hI.size, ht.size]) (fun j oj hj hjt => by rw [Nat.zero_add]; exact hall j oj (by simpa using hj) hjt) ?_
      by_cases hex : ∃ (j : Nat) (oj : Oper), ops.toList[j]? = some oj ∧ oj.dst = some t
      · exact .inr hex
      · left
        refine (hI.base t fun i oi hoi hti => ?_).symm
        exact absurd ⟨i, oi, by simpa using hoi, hti⟩ hex
    refine ⟨?_, hI.wr.kill rfl (fun p e hp hde => ?_) hg.okb⟩
    · rw [← hs2]
      have := hT.tm t
      rw [same] at this
      exact this
    · show (s.own.l ++ newsL L 0 ds)[p]? = some e
      rw [List.getElem?_append_left (lt_of_some_list hp)]; exact hp
theorem ID.congrL {n : Nat} {ops : Array Oper} {w0 : Base} {ν0 : Nu} {s0 : Mem} {a0 : Act} {ds : List Dn} {L L' : Nat → Bool} {ν : Nu} {a : Act} {w : World} (h : ID n ops w0 ν0 s0 a0 ds L ν a w) (hl : ds.length = ops.size) (he : ∀ j, j < ops.size → L j = L' j) : ID n ops w0 ν0 s0 a0 ds L' ν a w := by
  have lt : ∀ {j : Nat} {oj : Oper}, ops[j]? = some oj → j < ops.size := fun {j oj} hj => by
    rcases Nat.lt_or_ge j ops.size with h | h
    · exact h
    · rw [Array.getElem?_eq_none h] at hj; cases hj
  refine ⟨h.ag, h.size, h.df, fun t ht => h.base t fun i o ho hd => by rw [he i (lt ho)]; exact ht i o ho hd, fun i o d t ho hd hdt hL => h.done i o d t ho hd hdt (by rw [he i (lt ho)]; exact hL), ?_⟩
  rw [← newsL_congr (L := L) (L' := L') ds 0 fun j _ hj => he j (by omega)]
  exact h.wr
theorem noopAll {E : Env} {n : Nat} {ops : Array Oper} {w0 : Base} {ν0 : Nu} {s0 : Mem} {a0 : Act} {ds : List Dn} (hd : depB ops = true) (hdl : ds.length = ops.size)
    (step : ∀ (Q : Exit → Act → World → Prop) (k : Nat) o L ν a w, ops[k]? = some o → ID n ops w0 ν0 s0 a0 ds L ν a w → L k = false → (∀ e ∈ o.after, Region.binds .any e = true → L e.on = true) → ∀ (K : Act → World → Prop), (∀ ν' a' w', ID n ops w0 ν0 s0 a0 ds (setL L k) ν' a' w' → K a' w') → wpOp E.P ops Q k K a w)
    {L F : Nat → Bool} (hF : ∀ (j : Nat) o, ops[j]? = some o → F j = true → L j = false → (∃ o', o'.guard = none ∧ o = noopT o') ∧ ∀ e ∈ o.after, Region.binds .any e = true → F e.on = true) {ν : Nu} {a : Act} {w : World} (hI : ID n ops w0 ν0 s0 a0 ds L ν a w) : ∀ m, ∃ ν', ID n ops w0 ν0 s0 a0 ds (fun j => L j || (F j && decide (j < m))) ν' a w
  | 0 => ⟨ν, hI.congrL hdl fun j _ => by simp⟩
  | m + 1 => by
    obtain ⟨ν1, hI1⟩ := noopAll hd hdl step hF hI m
    have stay : (∀ j, j < ops.size → (L j || (F j && decide (j < m))) = (L j || (F j && decide (j < m + 1)))) → ∃ ν', ID n ops w0 ν0 s0 a0 ds (fun j => L j || (F j && decide (j < m + 1))) ν' a w := fun h => ⟨ν1, hI1.congrL hdl h⟩
    have other : ∀ j, j ≠ m → decide (j < m) = decide (j < m + 1) := fun j hj => by
      rw [Bool.eq_iff_iff, decide_eq_true_iff, decide_eq_true_iff]; omega
    cases hL : L m
    case true =>
      refine stay fun j _ => ?_
      by_cases hj : j = m
      · rw [hj, hL]; rfl
      · rw [other j hj]
    cases hFm : F m
    case false =>
      refine stay fun j _ => ?_
      by_cases hj : j = m
      · rw [hj, hFm]; rfl
      · rw [other j hj]
    cases ho : ops[m]? with
    | none =>
      refine stay fun j hj => ?_
      have : j ≠ m := fun e => by
        subst e
        rw [Array.getElem?_eq_getElem hj] at ho; cases ho
      rw [other j this]
    | some o =>
      obtain ⟨⟨o', hg0, rfl⟩, hdep⟩ := hF m o ho hFm hL
      have hnoop := step (fun _ _ _ => False) m (noopT o') (fun j => L j || (F j && decide (j < m))) ν1 a w ho hI1 (by rw [hL]; simp) (fun e he hb => by
        have hlt := (depB_ok hd ho).low e he hb
        show (L e.on || (F e.on && decide (e.on < m))) = true
        rw [hdep e he hb, decide_eq_true hlt]; simp) (fun a' w' => ∃ ν', ID n ops w0 ν0 s0 a0 ds (fun j => L j || (F j && decide (j < m + 1))) ν' a' w') fun ν' a' w' hI' => ⟨ν', hI'.congrL hdl fun j _ => by
          unfold setL
          by_cases hj : j = m
          · rw [if_pos hj, hj, hFm, decide_eq_true (Nat.lt_succ_self m)]; simp
          · rw [if_neg hj]
            show (L j || (F j && decide (j < m))) = _
            rw [other j hj]⟩
      unfold wpOp at hnoop
      rw [ho] at hnoop
      have hwt : Region.wanted (noopT o') (yielded ops a.tmps) = true := by simp [Region.wanted, noopT, hg0]
      simp only [hwt, if_true] at hnoop
      rcases hnoop with hn | ⟨_, _, _, hf⟩
      · unfold Oper.wp at hn
        rw [show (execOp a.eval (noopT o')).run E.P w = .ok (.value undef) w by simp [execOp, noopT, Act.eval], Oper.upon_value] at hn
        have e : a.put (noopT o').dst undef = a := rfl
        rw [e] at hn; exact hn
      · exact hf.elim
structure PivR (E : Env) (cl : Callee) (n c : Nat) (fr : List Nat) (ops : Array Oper) (s s3 s4 : St) (o : Oper) (s2 : St) : Prop where
  at_ : ops[c]? = some o
  grd : ∀ o ∈ ops.toList, o.guard = none
  lo : ∀ j, j < c → j ∈ ancA ops ops.size (aftA o)
  hi : ∀ i o', c < i → i ∉ fr → ops[i]? = some o' → c ∈ ancA ops ops.size (aftA o')
  frc : ∀ i ∈ fr, c < i
  reg : regionD E n (ops.toList.take c ++ (ops.toList.drop c).map noopT).toArray s = some s2
  run : stepT E cl n o s2 = some s3
  reg2 : regionD E n ((ops.toList.take (c + 1)).map noopT ++ ops.toList.drop (c + 1)).toArray s3 = some s4
theorem pivR_some {E : Env} {cl : Callee} {n c : Nat} {fr : List Nat} {ops : Array Oper} {s s3 s4 : St} (h : pivR E cl n c fr ops s = some (s3, s4)) : ∃ o s2, PivR E cl n c fr ops s s3 s4 o s2 := by
  unfold pivR at h
  split at h
  · cases h
  · rename_i o ho
    simp only [cond_eq_ite] at h
    split at h
    · rename_i hc
      simp only [Bool.and_eq_true] at hc
      obtain ⟨⟨⟨c1, c2⟩, c3⟩, c4⟩ := hc
      split at h
      · rename_i s2 hr
        split at h
        · rename_i s3' hst
          split at h
          · rename_i s4' hr2
            simp only [Option.some.injEq, Prod.mk.injEq] at h
            obtain ⟨rfl, rfl⟩ := h
            refine ⟨o, s2, ho, fun o ho => Option.isNone_iff_eq_none.mp (List.all_eq_true.mp c1 o ho), fun j hj => any_mem (List.all_eq_true.mp c2 j (List.mem_range.mpr hj)), fun i o' hi hf ho' => ?_, fun i hi => by simpa [Nat.blt_eq] using List.all_eq_true.mp c4 i hi, hr, hst, hr2⟩
            have hlt : i < ops.size := by
              rcases Nat.lt_or_ge i ops.size with h | h
              · exact h
              · rw [Array.getElem?_eq_none h] at ho'; cases ho'
            have := List.all_eq_true.mp c3 i (List.mem_range.mpr hlt)
            rw [ho'] at this
            simp only [Bool.or_eq_true] at this
            rcases this with (h | h) | h
            · have := Nat.le_of_ble_eq_true h; omega
            · exact absurd (any_mem h) hf
            · exact any_mem h
          · cases h
        · cases h
      · cases h
    · cases h
def InvP (n c : Nat) (fr : List Nat) (N : Nat) (ops0 ops2 : Array Oper) (ds ds2 : List Dn) (s s3 : St) (ν0 : Nu) (a0 : Act) (w1 : Base) (L : Nat → Bool) (a : Act) (w : World) : Prop :=
  ((∀ j, c ≤ j → j < N → L j = true → j ∈ fr) ∧ ∃ ν, ID n ops0 w1 ν0 s.own a0 ds L ν a w) ∨ ((∀ j, j ≤ c → L j = true) ∧ ∃ ν3 a3 ν, Ag s.own ν0 ν3 ∧ TR n ν3 s3 a3 ∧ ID n ops2 w1 ν3 s3.own a3 ds2 L ν a w)
theorem pivR_st {E : Env} {cl : Callee} (hst : ClSt cl) {n c : Nat} {fr : List Nat} {ops : Array Oper} {s s3 s4 : St} (h : pivR E cl n c fr ops s = some (s3, s4)) (hm : s.mem = true) (hg : Good s) : Le s s3 ∧ Good s3 ∧ Le s3 s4 ∧ Good s4 ∧ s4.mem = true := by
  obtain ⟨o, s2, H⟩ := pivR_some h
  obtain ⟨l1, g2, m2⟩ := regionD_st H.reg hg
  obtain ⟨l2, g3, m3⟩ := stepT_st hst H.run g2
  obtain ⟨l3, g4, m4⟩ := regionD_st H.reg2 g3
  exact ⟨l1.trans l2, g3, l3, g4, m4.trans (m3 (m2.trans hm))⟩
theorem pivR_inv {E : Env} (HC : CallOk E) {cl : Callee} (hst : ClSt cl) {n c : Nat} {fr : List Nat} {ops : Array Oper} {s s3 s' : St} (hsm : s.mem = true) (h : pivR E cl n c fr ops s = some (s3, s')) (hg : Good s) (hh : Holds' s') (hfr : ∀ i ∈ fr, ∀ o, ops[i]? = some o → ∃ o', o'.guard = none ∧ o = noopT o') :
    ∃ ops0 ops2 ds ds2, (∀ i o, ops[i]? = some o → ∀ e ∈ o.after, Region.binds .any e = true → e.on < i) ∧ ∀ ν0 a0, TR n ν0 s a0 → ∀ w1, GlobB E w1 → ClOk E w1 cl →
      (∀ L i o' a w (Q : Exit → Act → World → Prop) (K : Act → World → Prop), ops[i]? = some o' → CloL ops L → InvP n c fr ops.size ops0 ops2 ds ds2 s s3 ν0 a0 w1 L a w → L i = false → (∀ e ∈ o'.after, Region.binds .any e = true → L e.on = true) → (∀ a' w', InvP n c fr ops.size ops0 ops2 ds ds2 s s3 ν0 a0 w1 (setL L i) a' w' → K a' w') → wpOp E.P ops Q i K a w) ∧
      (∀ L a w, (∀ i, i < ops.size → L i = true) → InvP n c fr ops.size ops0 ops2 ds ds2 s s3 ν0 a0 w1 L a w → ∃ ν, Ag s.own ν0 ν ∧ TR n ν s' a ∧ WR w1 ν s'.own true w) ∧
      (∀ w, WR w1 ν0 s.own true w → InvP n c fr ops.size ops0 ops2 ds ds2 s s3 ν0 a0 w1 (fun _ => false) a0 w) ∧
      (∀ L a w t, InvP n c fr ops.size ops0 ops2 ds ds2 s s3 ν0 a0 w1 L a w → L c = true → (∀ (j : Nat) o, ops[j]? = some o → o.dst = some t → L j = true) → ∃ ν, Is ν (look s'.tmps t) (a.tmps.getD t undef) ∧ WR w1 ν s3.own true w) := by
  obtain ⟨o, s2, H⟩ := pivR_some h
  obtain ⟨le1, g2, mm2⟩ := regionD_st H.reg hg
  have mem2 : s2.mem = true := mm2.trans hsm
  obtain ⟨le2, g3, mm3⟩ := stepT_st hst H.run g2
  obtain ⟨le3, g4, mm4⟩ := regionD_st H.reg2 g3
  have hh3 : Holds' s3 := fun p hp => hh p (le3.ext p hp)
  have hh2 : Holds' s2 := fun p hp => hh3 p (le2.ext p hp)
  have hcz : c < ops.size := by
    rcases Nat.lt_or_ge c ops.size with h | h
    · exact h
    · have := H.at_; rw [Array.getElem?_eq_none h] at this; cases this
  obtain ⟨ops0, hops0⟩ : ∃ ops0, (ops.toList.take c ++ (ops.toList.drop c).map noopT).toArray = ops0 := ⟨_, rfl⟩
  obtain ⟨ops2, hops2⟩ : ∃ ops2, ((ops.toList.take (c + 1)).map noopT ++ ops.toList.drop (c + 1)).toArray = ops2 := ⟨_, rfl⟩
  have hr1 := H.reg
  have hr2 := H.reg2
  rw [hops0] at hr1
  rw [hops2] at hr2
  have hl0 : ops0.toList = ops.toList.take c ++ (ops.toList.drop c).map noopT := by rw [← hops0]
  have hl2 : ops2.toList = (ops.toList.take (c + 1)).map noopT ++ ops.toList.drop (c + 1) := by rw [← hops2]
  have tk0 : (ops.toList.take c).length = c := by rw [List.length_take, Array.length_toList]; omega
  have tk2 : ((ops.toList.take (c + 1)).map noopT).length = c + 1 := by rw [List.length_map, List.length_take, Array.length_toList]; omega
  have sz0 : ops0.size = ops.size := by rw [← Array.length_toList, hl0, List.length_append, tk0, List.length_map, List.length_drop, Array.length_toList]; omega
  have sz2 : ops2.size = ops.size := by rw [← Array.length_toList, hl2, List.length_append, tk2, List.length_drop, Array.length_toList]; omega
  have get0 : ∀ i, i < c → ops0[i]? = ops[i]? := fun i hi => by
    rw [← Array.getElem?_toList, ← Array.getElem?_toList, hl0, List.getElem?_append_left (by omega), List.getElem?_take, if_pos hi]
  have get0n : ∀ i o', c ≤ i → ops[i]? = some o' → ops0[i]? = some (noopT o') := fun i o' hi ho => by
    rw [← Array.getElem?_toList] at ho
    rw [← Array.getElem?_toList, hl0, List.getElem?_append_right (by omega), tk0, List.getElem?_map, List.getElem?_drop, show c + (i - c) = i by omega, ho]; rfl
  have get2 : ∀ i, c < i → ops2[i]? = ops[i]? := fun i hi => by
    rw [← Array.getElem?_toList, ← Array.getElem?_toList, hl2, List.getElem?_append_right (by omega), tk2, List.getElem?_drop, show c + 1 + (i - (c + 1)) = i by omega]
  have get2n : ∀ i o', i ≤ c → ops[i]? = some o' → ops2[i]? = some (noopT o') := fun i o' hi ho => by
    rw [← Array.getElem?_toList] at ho
    rw [← Array.getElem?_toList, hl2, List.getElem?_append_left (by omega), List.getElem?_map, List.getElem?_take, if_pos (by omega), ho]; rfl
  have some_ : ∀ i, i < ops.size → ∃ o', ops[i]? = some o' := fun i hi => ⟨ops[i], Array.getElem?_eq_getElem hi⟩
  have lt : ∀ {j : Nat} {oj : Oper}, ops[j]? = some oj → j < ops.size := fun {j oj} hj => by
    rcases Nat.lt_or_ge j ops.size with h | h
    · exact h
    · rw [Array.getElem?_eq_none h] at hj; cases hj
  have hgrd : ∀ (i : Nat) o, ops[i]? = some o → o.guard = none := fun i o ho => H.grd o (by
    rw [← Array.getElem?_toList] at ho; exact List.mem_of_getElem? ho)
  obtain ⟨ds, hd0, hdl0, R1⟩ := regionD_runs HC hr1 hg hh2
  obtain ⟨ds2, hd2, hdl2, R2⟩ := regionD_runs HC hr2 g3 hh
  have clo0 : ∀ i o', ops[i]? = some o' → ∀ e ∈ o'.after, Region.binds .any e = true → e.on < i := fun i o' ho e he hb => by
    rcases Nat.lt_or_ge i c with hi | hi
    · exact (depB_ok hd0 (by rw [get0 i hi]; exact ho)).low e he hb
    · exact (depB_ok hd0 (get0n i o' hi ho)).low e he hb
  refine ⟨ops0, ops2, ds, ds2, clo0, fun ν0 a0 ht w1 hG hok => ?_⟩
  obtain ⟨step1, fin1, start1, mid1⟩ := R1 w1 hG ν0 a0 ht
  have turn : ∀ {ops' : Array Oper} {i : Nat} {o' : Oper} {Q : Exit → Act → World → Prop} {K : Act → World → Prop} {a : Act} {w : World}, ops[i]? = some o' → ops'[i]? = some o' → wpOp E.P ops' Q i K a w → wpOp E.P ops Q i K a w := fun {ops' i o' Q K a w} ho ho' hwp => by
    have hwt : ∀ tm, Region.wanted o' (yielded ops tm) = true := fun tm => by simp [Region.wanted, hgrd i o' ho]
    have hwt0 : ∀ tm, Region.wanted o' (yielded ops' tm) = true := fun tm => by simp [Region.wanted, hgrd i o' ho]
    unfold wpOp at hwp ⊢
    rw [ho'] at hwp
    rw [ho]
    simp only [hwt, hwt0, if_true] at hwp ⊢
    exact hwp
  refine ⟨fun L i o' a w Q K ho hclo hI hL hr hK => ?_, fun L a w hall hI => ?_, fun w hw => .inl ⟨fun j _ _ h => (by cases h), ν0, start1 w hw⟩, fun L a w t hI hLc hall => ?_⟩
  · have hi := lt ho
    have hanc := ancA_ok hclo ops.size (aftA o') (aftA_ok hr)
    have low1 : ∀ ν, (∀ j, c ≤ j → j < ops.size → L j = true → j ∈ fr) → ID n ops0 w1 ν0 s.own a0 ds L ν a w → ops0[i]? = some o' → (c ≤ i → i ∈ fr) → wpOp E.P ops Q i K a w := fun ν hF hI ho0 hif => by
      refine turn ho ho0 (step1 Q i o' L ν a w ho0 hI hL hr K fun ν' a' w' hI' => hK a' w' (.inl ⟨fun j h1 h2 h3 => ?_, ν', hI'⟩))
      unfold setL at h3
      by_cases hj : j = i
      · rw [hj]; exact hif (by omega)
      · rw [if_neg hj] at h3; exact hF j h1 h2 h3
    rcases Nat.lt_trichotomy i c with hlt | heq | hgt
    · rcases hI with ⟨hF, ν, hI⟩ | ⟨hLa, _⟩
      · exact low1 ν hF hI (by rw [get0 i hlt]; exact ho) fun h => by omega
      · have := hLa i (by omega); rw [hL] at this; cases this
    · subst heq
      rcases hI with ⟨hF, ν, hI⟩ | ⟨hLa, _⟩
      · have ho1 : o' = o := by have := H.at_; rw [ho] at this; exact Option.some.inj this
        subst ho1
        have hbel : ∀ j, j < i → L j = true := fun j hj => hanc j (H.lo j hj)
        obtain ⟨ν1, hI1⟩ := noopAll hd0 hdl0 step1 (L := L) (F := fun _ => true) (fun j oj hoj _ hLj => by
          have hj : i ≤ j := by
            rcases Nat.lt_or_ge j i with h | h
            · rw [hbel j h] at hLj; cases hLj
            · exact h
          obtain ⟨oj', hoj'⟩ := some_ j (by rw [← sz0]; rcases Nat.lt_or_ge j ops0.size with h | h; exact h; rw [Array.getElem?_eq_none h] at hoj; cases hoj)
          rw [get0n j oj' hj hoj'] at hoj
          exact ⟨⟨oj', hgrd _ _ hoj', (Option.some.inj hoj).symm⟩, fun _ _ _ => rfl⟩) hI ops.size
        obtain ⟨tr1, wr1⟩ := fin1 _ ν1 a w hI1 (fun j hj => by
          show (L j || (true && decide (j < ops.size))) = true
          rw [decide_eq_true (show j < ops.size by omega)]; simp)
        unfold wpOp
        rw [ho]
        have hwt : ∀ tm, Region.wanted o' (yielded ops tm) = true := fun tm => by simp [Region.wanted, hgrd i o' ho]
        simp only [hwt, if_true]
        left
        refine stepT_ok HC hst hok hG H.run hh3 g2 mem2 tr1 wr1 fun ν3 a3 w3 ha ht3 hw3 => hK a3 w3 (.inr ⟨fun j hj => ?_, ν3, a3, ?_⟩)
        · unfold setL
          split
          · rfl
          · exact hbel j (by omega)
        · obtain ⟨step2, fin2, start2, mid2⟩ := R2 w1 hG ν3 a3 ht3
          obtain ⟨ν4, hI4⟩ := noopAll hd2 hdl2 step2 (L := fun _ => false) (F := setL L i) (fun j oj hoj hFj _ => by
            have hjs : j < ops.size := by rw [← sz2]; rcases Nat.lt_or_ge j ops2.size with h | h; exact h; rw [Array.getElem?_eq_none h] at hoj; cases hoj
            obtain ⟨oj', hoj'⟩ := some_ j hjs
            have hdn : ∀ e ∈ oj'.after, Region.binds .any e = true → setL L i e.on = true := fun e he hb => by
              unfold setL at hFj ⊢
              by_cases hji : j = i
              · subst hji
                rw [hoj'] at ho
                obtain rfl := Option.some.inj ho
                split
                · rfl
                · exact hr e he hb
              · rw [if_neg hji] at hFj
                split
                · rfl
                · exact hclo j oj' hoj' hFj e he hb
            rcases Nat.lt_or_ge i j with h1 | h1
            · have hFj' : L j = true := by unfold setL at hFj; rw [if_neg (by omega)] at hFj; exact hFj
              obtain ⟨o2, h2, h3⟩ := hfr j (hF j (by omega) hjs hFj') oj' hoj'
              rw [get2 j h1, hoj'] at hoj
              obtain rfl := Option.some.inj hoj
              exact ⟨⟨o2, h2, h3⟩, hdn⟩
            · rw [get2n j oj' h1 hoj'] at hoj
              obtain rfl := Option.some.inj hoj
              exact ⟨⟨oj', hgrd _ _ hoj', rfl⟩, hdn⟩) (start2 w3 hw3) ops.size
          refine ⟨ν4, Agree.trans hI1.ag ha le1.len le1.llen, ht3, hI4.congrL hdl2 fun j hj => ?_⟩
          rw [decide_eq_true (show j < ops.size by omega)]
          simp
      · have := hLa i (Nat.le_refl _); rw [hL] at this; cases this
    · by_cases hif : i ∈ fr
      · obtain ⟨o2, h2, h3⟩ := hfr i hif o' ho
        rcases hI with ⟨hF, ν, hI⟩ | ⟨hLa, ν3, a3, ν, hag, ht3, hI⟩
        · exact low1 ν hF hI (by rw [get0n i o' (by omega) ho, h3]; rfl) fun _ => hif
        · obtain ⟨step2, fin2, start2, mid2⟩ := R2 w1 hG ν3 a3 ht3
          have ho2 : ops2[i]? = some o' := by rw [get2 i hgt]; exact ho
          exact turn ho ho2 (step2 Q i o' L ν a w ho2 hI hL hr K fun ν' a' w' hI' => hK a' w' (.inr ⟨fun j hj => by unfold setL; rw [if_neg (by omega)]; exact hLa j hj, ν3, a3, ν', hag, ht3, hI'⟩))
      · have hLc : L c = true := hanc c (H.hi i o' hgt hif ho)
        rcases hI with ⟨hF, _⟩ | ⟨hLa, ν3, a3, ν, hag, ht3, hI⟩
        · have := H.frc c (hF c (Nat.le_refl _) hcz hLc); omega
        · obtain ⟨step2, fin2, start2, mid2⟩ := R2 w1 hG ν3 a3 ht3
          have ho2 : ops2[i]? = some o' := by rw [get2 i hgt]; exact ho
          exact turn ho ho2 (step2 Q i o' L ν a w ho2 hI hL hr K fun ν' a' w' hI' => hK a' w' (.inr ⟨fun j hj => by unfold setL; rw [if_neg (by omega)]; exact hLa j hj, ν3, a3, ν', hag, ht3, hI'⟩))
  · rcases hI with ⟨hF, _⟩ | ⟨_, ν3, a3, ν, hag, ht3, hI⟩
    · have := H.frc c (hF c (Nat.le_refl _) hcz (hall c hcz)); omega
    · obtain ⟨step2, fin2, start2, mid2⟩ := R2 w1 hG ν3 a3 ht3
      obtain ⟨tr4, wr4⟩ := fin2 L ν a w hI fun j hj => hall j (by omega)
      exact ⟨ν, Agree.trans hag hI.ag (Nat.le_trans le1.len le2.len) (Nat.le_trans le1.llen le2.llen), tr4, wr4⟩
  · rcases hI with ⟨hF, _⟩ | ⟨hLa, ν3, a3, ν, hag, ht3, hI⟩
    · have := H.frc c (hF c (Nat.le_refl _) hcz hLc); omega
    · obtain ⟨step2, fin2, start2, mid2⟩ := R2 w1 hG ν3 a3 ht3
      refine ⟨ν, mid2 L ν a w t hI fun j oj hoj hjt => ?_⟩
      have hjs : j < ops.size := by rw [← sz2]; rcases Nat.lt_or_ge j ops2.size with h | h; exact h; rw [Array.getElem?_eq_none h] at hoj; cases hoj
      rcases Nat.lt_or_ge c j with h1 | h1
      · exact hall j oj (by rw [← get2 j h1]; exact hoj) hjt
      · exact hLa j h1
theorem pivE_some {E : Env} {cl : Callee} {n c : Nat} {ops : Array Oper} {s s4 : St} (h : pivE E cl n c ops s = some s4) : ∃ s3, pivR E cl n c [] ops s = some (s3, s4) := by
  unfold pivE at h
  split at h
  · rename_i s3 s4' hr
    obtain rfl := Option.some.inj h
    exact ⟨s3, hr⟩
  · cases h
theorem pivE_st {E : Env} {cl : Callee} (hst : ClSt cl) {n c : Nat} {ops : Array Oper} {s s' : St} (h : pivE E cl n c ops s = some s') (hm : s.mem = true) (hg : Good s) : Le s s' ∧ Good s' ∧ s'.mem = true := by
  obtain ⟨s3, h⟩ := pivE_some h
  obtain ⟨l1, _, l2, g4, m4⟩ := pivR_st hst h hm hg
  exact ⟨l1.trans l2, g4, m4⟩
theorem rep_false (N : Nat) : lstB (Array.replicate N false) = fun _ => false := by
  funext j
  unfold lstB
  simp only [Array.getD_eq_getD_getElem?, Array.getElem?_replicate]
  split <;> rfl
theorem pivE_ok {E : Env} (HC : CallOk E) {cl : Callee} (hst : ClSt cl) {w0 : Base} (hok : ClOk E w0 cl) (hG : GlobB E w0) {id n c : Nat} {ops : Array Oper} {s s' : St} (hm : E.P.follows .mixedOrders = true) (hsm : s.mem = true) (h : pivE E cl n c ops s = some s') (hg : Good s) (hh : Holds' s') {Q : Exit → Act → World → Prop} {ν0 : Nu} {a0 : Act} {w : World} (ht : TR n ν0 s a0) (hw : WR w0 ν0 s.own true w)
    (hQ : ∀ ν' a' w', Ag s.own ν0 ν' → TR n ν' s' a' → WR w0 ν' s'.own true w' → Q .normal a' w') : (Code.region id ops true).wp E.P Q a0 w := by
  obtain ⟨s3, h⟩ := pivE_some h
  obtain ⟨ops0, ops2, ds, ds2, dep, R⟩ := pivR_inv HC hst hsm h hg hh (fun i hi => by cases hi)
  obtain ⟨step, last, start, _⟩ := R ν0 a0 ht w0 hG hok
  refine wp_region_any hm (wpAny_steps (I := fun L a w => CloL ops L ∧ InvP n c [] ops.size ops0 ops2 ds ds2 s s3 ν0 a0 w0 L a w) (fun L i o' a w ho hI hL hr K hK => ?_) (fun L a w hall hI => ?_) dep ops.size (Array.replicate ops.size false) a0 _ (by simp) ?_ ?_)
  · exact step L i o' a w Q K ho hI.1 hI.2 hL hr fun a' w' hI' => hK a' w' ⟨hI.1.set ho hr, hI'⟩
  · obtain ⟨ν, k1, k2, k3⟩ := last L a w hall hI.2
    exact hQ ν a w k1 k2 k3
  · have := List.length_filter_le (fun i => !lstB (Array.replicate ops.size false) i) (List.range ops.size)
    simpa using this
  · rw [rep_false]
    exact ⟨fun i o ho hL => (by cases hL), start _ hw.drew⟩
theorem InvP.turn {n c : Nat} {fr : List Nat} {N : Nat} {ops0 ops2 : Array Oper} {ds ds2 : List Dn} {s s3 : St} {ν0 : Nu} {a0 : Act} {w0 w1 : Base} {L : Nat → Bool} {a : Act} {w w' : World} (h : InvP n c fr N ops0 ops2 ds ds2 s s3 ν0 a0 w0 L a w)
    (hT : ∀ ν own, (own.b = s.own.b ∨ own.b = s3.own.b) → WR w0 ν own true w → WR w1 ν own true w') : InvP n c fr N ops0 ops2 ds ds2 s s3 ν0 a0 w1 L a w' := by
  rcases h with ⟨hF, ν, hI⟩ | ⟨hLa, ν3, a3, ν, hag, ht3, hI⟩
  · exact .inl ⟨hF, ν, hI.turn (hT ν { s.own with l := s.own.l ++ newsL L 0 ds } (.inl rfl) hI.wr)⟩
  · exact .inr ⟨hLa, ν3, a3, ν, hag, ht3, hI.turn (hT ν { s3.own with l := s3.own.l ++ newsL L 0 ds2 } (.inr rfl) hI.wr)⟩
theorem InvP.wr {n c : Nat} {fr : List Nat} {N : Nat} {ops0 ops2 : Array Oper} {ds ds2 : List Dn} {s s3 : St} {ν0 : Nu} {a0 : Act} {w0 : Base} {L : Nat → Bool} {a : Act} {w : World} (h : InvP n c fr N ops0 ops2 ds ds2 s s3 ν0 a0 w0 L a w) : (∃ ν own, WR w0 ν own true w) ∧ a.defers = [] ∧ a.tmps.size = n := by
  rcases h with ⟨hF, ν, hI⟩ | ⟨hLa, ν3, a3, ν, hag, ht3, hI⟩
  · exact ⟨⟨ν, _, hI.wr⟩, hI.df, hI.size⟩
  · exact ⟨⟨ν, _, hI.wr⟩, hI.df, hI.size⟩
theorem pivJ_st {E : Env} {n : Nat} {ops : Array Oper} {s s' : St} (h : pivJ E n ops s = some s') (hm : s.mem = true) (hg : Good s) : Le s s' ∧ Good s' ∧ s'.mem = true := by
  unfold pivJ at h; cases h
theorem pivJ_ok {E : Env} (HC : CallOk E) {w0 : Base} (hG : GlobB E w0) {id n : Nat} {ops : Array Oper} {s s' : St} (hm : E.P.follows .mixedOrders = true) (hsm : s.mem = true) (h : pivJ E n ops s = some s') (hg : Good s) (hh : Holds' s') {Q : Exit → Act → World → Prop} {ν0 : Nu} {a0 : Act} {w : World} (ht : TR n ν0 s a0) (hw : WR w0 ν0 s.own true w)
    (hQ : ∀ ν' a' w', Ag s.own ν0 ν' → TR n ν' s' a' → WR w0 ν' s'.own true w' → Q .normal a' w') : (Code.region id ops true).wp E.P Q a0 w := by
  unfold pivJ at h; cases h
theorem tailD_some {E : Env} {cl : Callee} {n : Nat} {ops : Array Oper} {s s' : St} (h : tailD E cl n ops s = some s') : (∃ k, tailN E cl n k ops s = some s') ∨ (∃ c, pivE E cl n c ops s = some s') ∨ pivJ E n ops s = some s' := by
  unfold tailD at h
  split at h
  · rename_i r hr
    exact .inl ⟨2, hr.trans h⟩
  · split at h
    · rename_i r hr
      exact .inl ⟨3, hr.trans h⟩
    · split at h
      · rename_i r hr
        have h := hr.trans h
        unfold pivD at h
        split at h
        · rename_i c _; exact .inr (.inl ⟨c, h⟩)
        · cases h
      · exact .inr (.inr h)
theorem tailD_st {E : Env} {cl : Callee} (hst : ClSt cl) {n : Nat} {ops : Array Oper} {s s' : St} (h : tailD E cl n ops s = some s') (hm : s.mem = true) (hg : Good s) : Le s s' ∧ Good s' ∧ s'.mem = true := by
  rcases tailD_some h with ⟨k, h⟩ | ⟨c, h⟩ | h
  · exact tailN_st hst h hm hg
  · exact pivE_st hst h hm hg
  · exact pivJ_st h hm hg
theorem tailD_ok {E : Env} (HC : CallOk E) {cl : Callee} (hst : ClSt cl) {w0 : Base} (hok : ClOk E w0 cl) (hG : GlobB E w0) {id n : Nat} {ops : Array Oper} {s s' : St} (hm : E.P.follows .mixedOrders = true) (hsm : s.mem = true) (h : tailD E cl n ops s = some s') (hg : Good s) (hh : Holds' s') {Q : Exit → Act → World → Prop} {ν0 : Nu} {a0 : Act} {w : World} (ht : TR n ν0 s a0) (hw : WR w0 ν0 s.own true w)
    (hQ : ∀ ν' a' w', Ag s.own ν0 ν' → TR n ν' s' a' → WR w0 ν' s'.own true w' → Q .normal a' w') : (Code.region id ops true).wp E.P Q a0 w := by
  rcases tailD_some h with ⟨k, h⟩ | ⟨c, h⟩ | h
  · exact tailN_ok HC hst hok hG hm hsm h hg hh ht hw hQ
  · exact pivE_ok HC hst hok hG hm hsm h hg hh ht hw hQ
  · exact pivJ_ok HC hG hm hsm h hg hh ht hw hQ
end Go.Proofs.YtiajbijbhhpllaaDoor.S2
namespace Go.Proofs.YtiajbijbhhpllaaDoor.S2
open Go Go.RowKit Sim
theorem simC_zero (E : Env) : simC E 0 = fun _ _ _ => none := rfl
theorem simC_succ (E : Env) (k n : Nat) (c : Code) (s : St) : simC E (k + 1) n c s = stepC E (simC E k) n c s := rfl
theorem simC_st (E : Env) : ∀ (fuel : Nat), RunSt (simC E fuel)
  | 0 => fun n c s x s' _ h => by rw [simC_zero] at h; cases h
  | k + 1 => fun n c s x s' hg h => by
    have ih := simC_st E k
    have hcl := enterS_st (E := E) ih
    rw [simC_succ] at h
    unfold stepC at h
    split at h
    · simp only [Option.some.injEq, Prod.mk.injEq] at h
      obtain ⟨_, rfl⟩ := h; exact ⟨Le.refl _, hg⟩
    · simp only [Option.some.injEq, Prod.mk.injEq] at h
      obtain ⟨_, rfl⟩ := h; exact ⟨Le.refl _, hg⟩
    · exact ih _ _ _ _ _ hg h
    · split at h
      · rename_i s1 hs
        simp only [Option.some.injEq, Prod.mk.injEq] at h
        obtain ⟨_, rfl⟩ := h
        obtain ⟨a, b, _⟩ := simOps_st hcl _ _ _ hg hs
        exact ⟨a, b⟩
      · cases h
    · rename_i id ops
      cases hb : (E.P.follows .mixedOrders && Region.lexB .any ops)
      · rw [hb] at h; cases h
      · rw [hb] at h
        simp only [cond_true] at h
        split at h
        · rename_i s1 hs
          simp only [Option.some.injEq, Prod.mk.injEq] at h
          obtain ⟨_, rfl⟩ := h
          obtain ⟨a, b, _⟩ := simOps_st hcl _ { s with mem := true } _ ⟨hg.lo, hg.llo, hg.ok, hg.okb⟩ hs
          exact ⟨⟨a.ext, a.len, a.llen, a.lo, a.llo, a.keep, a.lkeep⟩, b⟩
        · split at h
          · rename_i s1 hs
            simp only [Option.some.injEq, Prod.mk.injEq] at h
            obtain ⟨_, rfl⟩ := h
            obtain ⟨a, b, _⟩ := regionD_st hs ⟨hg.lo, hg.llo, hg.ok, hg.okb⟩
            exact ⟨⟨a.ext, a.len, a.llen, a.lo, a.llo, a.keep, a.lkeep⟩, b⟩
          · split at h
            · rename_i s1 hs
              simp only [Option.some.injEq, Prod.mk.injEq] at h
              obtain ⟨rfl, rfl⟩ := h
              obtain ⟨a, b, _⟩ := lastD_st hs ⟨hg.lo, hg.llo, hg.ok, hg.okb⟩
              exact ⟨⟨a.ext, a.len, a.llen, a.lo, a.llo, a.keep, a.lkeep⟩, b⟩
            · split at h
              · rename_i s1 hs
                simp only [Option.some.injEq, Prod.mk.injEq] at h
                obtain ⟨rfl, rfl⟩ := h
                obtain ⟨a, b, _⟩ := regionJ_st hs ⟨hg.lo, hg.llo, hg.ok, hg.okb⟩
                exact ⟨⟨a.ext, a.len, a.llen, a.lo, a.llo, a.keep, a.lkeep⟩, b⟩
              · split at h
                · rename_i s1 hs
                  simp only [Option.some.injEq, Prod.mk.injEq] at h
                  obtain ⟨rfl, rfl⟩ := h
                  obtain ⟨a, b, _⟩ := tailD_st hcl hs rfl ⟨hg.lo, hg.llo, hg.ok, hg.okb⟩
                  exact ⟨⟨a.ext, a.len, a.llen, a.lo, a.llo, a.keep, a.lkeep⟩, b⟩
                · cases h
    · split at h
      · rename_i s1 h1
        obtain ⟨l1, g1⟩ := ih _ _ _ _ _ hg h1
        obtain ⟨l2, g2⟩ := ih _ _ _ _ _ g1 h
        exact ⟨l1.trans l2, g2⟩
      · exact ih _ _ _ _ _ hg h
    · rename_i c c1 c2
      split at h
      · rename_i fl b hev
        split at h
        · rename_i s1 hask
          obtain ⟨b1, _, _, b4, _⟩ := askC_ok (n := n) hev hask
          obtain ⟨l1, g1⟩ := ih _ _ _ _ _ (b4 hg) h
          exact ⟨b1.trans l1, g1⟩
        · rename_i s1 hask
          obtain ⟨b1, _, _, b4, _⟩ := askC_ok (n := n) hev hask
          obtain ⟨l1, g1⟩ := ih _ _ _ _ _ (b4 hg) h
          exact ⟨b1.trans l1, g1⟩
      · cases h
    · split at h
      · rename_i i s1 h1
        obtain ⟨l1, g1⟩ := ih _ _ _ _ _ hg h1
        revert h
        cases Nat.beq i _ <;> intro h <;> simp only [cond_true, cond_false, Option.some.injEq, Prod.mk.injEq] at h <;> (obtain ⟨_, rfl⟩ := h; exact ⟨l1, g1⟩)
      · exact ih _ _ _ _ _ hg h
    · split at h
      · rename_i s1 h1
        obtain ⟨l1, g1⟩ := ih _ _ _ _ _ hg h1
        obtain ⟨l2, g2⟩ := ih _ _ _ _ _ g1 h
        exact ⟨l1.trans l2, g2⟩
      · exact ih _ _ _ _ _ hg h
    · simp only [Option.some.injEq, Prod.mk.injEq] at h
      obtain ⟨_, rfl⟩ := h; exact ⟨Le.refl _, hg⟩
    · simp only [Option.some.injEq, Prod.mk.injEq] at h
      obtain ⟨_, rfl⟩ := h; exact ⟨Le.refl _, hg⟩
    · cases h
theorem simC_ok {E : Env} (HC : CallOk E) {w0 : Base} (hG : GlobB E w0) : ∀ (fuel : Nat), RunOk E w0 fuel (simC E fuel)
  | 0 => fun n c s x s' _ h => by rw [simC_zero] at h; cases h
  | k + 1 => fun n c s x s' hg h hh Q ν a w ht hw hQ => by
    have st := simC_st E k
    have ih := simC_ok HC hG k
    have hst := enterS_st (E := E) st
    have hok := enterS_ok (E := E) HC hG st ih
    rw [simC_succ] at h
    unfold stepC at h
    split at h
    · simp only [Option.some.injEq, Prod.mk.injEq] at h
      obtain ⟨rfl, rfl⟩ := h
      exact wp_skip (hQ _ _ _ (Agree.refl _ _ _) ht hw)
    · simp only [Option.some.injEq, Prod.mk.injEq] at h
      obtain ⟨rfl, rfl⟩ := h
      exact wp_label (hQ _ _ _ (Agree.refl _ _ _) ht hw)
    · refine wp_scope_straight (ih _ _ _ _ _ hg h hh _ ν a w ht hw fun ν' a' w' ha ht' hw' => ?_).wp
      rcases x with _ | _ | i
      · exact hQ _ _ _ ha ht' hw'
      · exact hQ _ _ _ ha ht' hw'
      · exact hQ _ _ _ ha ht' hw'
    · rename_i id ops
      split at h
      · rename_i s1 hs
        simp only [Option.some.injEq, Prod.mk.injEq] at h
        obtain ⟨rfl, rfl⟩ := h
        exact wp_region_list (simOps_wp HC hst hok hG _ _ _ hs hg hh ν a w ht hw hQ)
      · cases h
    · rename_i id ops
      cases hb : (E.P.follows .mixedOrders && Region.lexB .any ops)
      · rw [hb] at h; cases h
      · rw [hb] at h
        simp only [cond_true] at h
        simp only [Bool.and_eq_true] at hb
        split at h
        · rename_i s1 hs
          simp only [Option.some.injEq, Prod.mk.injEq] at h
          obtain ⟨rfl, rfl⟩ := h
          have hown := (simOps_st hst _ { s with mem := true } _ ⟨hg.lo, hg.llo, hg.ok, hg.okb⟩ hs).2.2 rfl
          refine wp_region_quiet (C := fun w => WR w0 ν s.own true w) hb.1 hb.2 hw.drew ?_
          exact simOps_quiet HC hst hok hG _ _ _ hs ⟨hg.lo, hg.llo, hg.ok, hg.okb⟩ hh rfl rfl a (ht.of rfl) fun e2 a' ht' w' hw' => hQ ν a' w' (Agree.refl _ _ _) ht' (by rw [hown, e2]; exact hw')
        · split at h
          · rename_i s1 hs
            simp only [Option.some.injEq, Prod.mk.injEq] at h
            obtain ⟨rfl, rfl⟩ := h
            have hmem := (regionD_st hs ⟨hg.lo, hg.llo, hg.ok, hg.okb⟩).2.2
            exact regionD_ok (ν0 := ν) HC hG hb.1 hs ⟨hg.lo, hg.llo, hg.ok, hg.okb⟩ hh (ht.of rfl) (hw.mem) fun ν' a' w' ha ht' hw' => hQ ν' a' w' ha ht' (by rw [hmem]; exact hw')
          · split at h
            · rename_i s1 hs
              simp only [Option.some.injEq, Prod.mk.injEq] at h
              obtain ⟨rfl, rfl⟩ := h
              have hmem := (lastD_st hs ⟨hg.lo, hg.llo, hg.ok, hg.okb⟩).2.2
              exact lastD_ok (ν0 := ν) HC hG hb.1 rfl hs ⟨hg.lo, hg.llo, hg.ok, hg.okb⟩ hh (ht.of rfl) (hw.mem) fun ν' a' w' ha ht' hw' => hQ ν' a' w' ha ht' (by rw [hmem]; exact hw')
            · split at h
              · rename_i s1 hs
                simp only [Option.some.injEq, Prod.mk.injEq] at h
                obtain ⟨rfl, rfl⟩ := h
                have hmem := (regionJ_st hs ⟨hg.lo, hg.llo, hg.ok, hg.okb⟩).2.2
                exact regionJ_ok (ν0 := ν) HC hG hb.1 hs ⟨hg.lo, hg.llo, hg.ok, hg.okb⟩ hh (ht.of rfl) (hw.mem) fun ν' a' w' ha ht' hw' => hQ ν' a' w' ha ht' (by rw [hmem]; exact hw')
              · split at h
                · rename_i s1 hs
                  simp only [Option.some.injEq, Prod.mk.injEq] at h
                  obtain ⟨rfl, rfl⟩ := h
                  have hmem := (tailD_st hst hs rfl ⟨hg.lo, hg.llo, hg.ok, hg.okb⟩).2.2
                  exact tailD_ok (ν0 := ν) HC hst hok hG hb.1 rfl hs ⟨hg.lo, hg.llo, hg.ok, hg.okb⟩ hh (ht.of rfl) (hw.mem) fun ν' a' w' ha ht' hw' => hQ ν' a' w' ha ht' (by rw [hmem]; exact hw')
                · cases h
    · rename_i c1 c2
      split at h
      · rename_i s1 h1
        obtain ⟨l1, g1⟩ := st _ _ _ _ _ hg h1
        obtain ⟨l2, g2⟩ := st _ _ _ _ _ g1 h
        exact wp_seq (ih _ _ _ _ _ hg h1 (l2.holds hh) _ ν a w ht hw fun ν' a' w' ha ht' hw' =>
          (ih _ _ _ _ _ g1 h hh Q ν' a' w' ht' hw' fun ν'' a'' w'' ha' => hQ ν'' a'' w'' (Agree.trans ha ha' l1.len l1.llen)).wp).wp
      · rename_i hne
        refine wp_seq (ih _ _ _ _ _ hg h hh _ ν a w ht hw fun ν' a' w' ha ht' hw' => ?_).wp
        rcases x with _ | _ | i
        · exact absurd h (hne _)
        · exact hQ _ _ _ ha ht' hw'
        · exact hQ _ _ _ ha ht' hw'
    · rename_i c c1 c2
      split at h
      · rename_i fl b hev
        split at h
        · rename_i s1 hask
          obtain ⟨b1, b2, b3, b4, b5⟩ := askC_ok (n := n) hev hask
          have g1 := b4 hg
          obtain ⟨l1, _⟩ := st _ _ _ _ _ g1 h
          obtain ⟨hb, ht1⟩ := b5 (l1.holds hh)
          exact wp_cond_true (by rw [eval_v ht hev, hb]) (ih _ _ _ _ _ g1 h hh Q ν a w (ht1 ν a ht) (by rw [b2, b3]; exact hw) fun ν' a' w' ha => hQ ν' a' w' (by rw [← b2]; exact ha)).wp
        · rename_i s1 hask
          obtain ⟨b1, b2, b3, b4, b5⟩ := askC_ok (n := n) hev hask
          have g1 := b4 hg
          obtain ⟨l1, _⟩ := st _ _ _ _ _ g1 h
          obtain ⟨hb, ht1⟩ := b5 (l1.holds hh)
          exact wp_cond_false (by rw [eval_v ht hev, hb]) (ih _ _ _ _ _ g1 h hh Q ν a w (ht1 ν a ht) (by rw [b2, b3]; exact hw) fun ν' a' w' ha => hQ ν' a' w' (by rw [← b2]; exact ha)).wp
      · cases h
    · rename_i id c1
      split at h
      · rename_i i s1 h1
        cases hb : Nat.beq i id
        · rw [hb] at h
          simp only [cond_false, Option.some.injEq, Prod.mk.injEq] at h
          obtain ⟨rfl, rfl⟩ := h
          have hne : i ≠ id := fun e => by rw [e] at hb; simp at hb
          refine wp_block (ih _ _ _ _ _ hg h1 hh _ ν a w ht hw fun ν' a' w' ha ht' hw' => ?_).wp
          simp only [X.toExit, Exit.inBlock, if_neg hne]
          exact hQ _ _ _ ha ht' hw'
        · rw [hb] at h
          simp only [cond_true, Option.some.injEq, Prod.mk.injEq] at h
          obtain ⟨rfl, rfl⟩ := h
          have heq : i = id := Nat.eq_of_beq_eq_true hb
          refine wp_block (ih _ _ _ _ _ hg h1 hh _ ν a w ht hw fun ν' a' w' ha ht' hw' => ?_).wp
          simp only [X.toExit, Exit.inBlock, if_pos heq]
          exact hQ _ _ _ ha ht' hw'
      · rename_i hne
        refine wp_block (ih _ _ _ _ _ hg h hh _ ν a w ht hw fun ν' a' w' ha ht' hw' => ?_).wp
        rcases x with _ | _ | i
        · exact hQ _ _ _ ha ht' hw'
        · exact hQ _ _ _ ha ht' hw'
        · exact absurd h (hne _ _)
    · rename_i c1
      split at h
      · rename_i s1 h1
        obtain ⟨l1, g1⟩ := st _ _ _ _ _ hg h1
        obtain ⟨l2, g2⟩ := st _ _ _ _ _ g1 h
        show Code.rounds _ _ _ (k + 1) _ _
        rw [rounds_succ]
        exact (ih _ _ _ _ _ hg h1 (l2.holds hh) _ ν a w ht hw fun ν' a' w' ha ht' hw' => ih _ _ _ _ _ g1 h hh Q ν' a' w' ht' hw' fun ν'' a'' w'' ha' => hQ ν'' a'' w'' (Agree.trans ha ha' l1.len l1.llen)).wp
      · rename_i hne
        show Code.rounds _ _ _ (k + 1) _ _
        rw [rounds_succ]
        refine (ih _ _ _ _ _ hg h hh _ ν a w ht hw fun ν' a' w' ha ht' hw' => ?_).wp
        rcases x with _ | _ | i
        · exact absurd h (hne _)
        · exact hQ _ _ _ ha ht' hw'
        · exact hQ _ _ _ ha ht' hw'
    · simp only [Option.some.injEq, Prod.mk.injEq] at h
      obtain ⟨rfl, rfl⟩ := h
      exact wp_exit (hQ _ _ _ (Agree.refl _ _ _) ht hw)
    · simp only [Option.some.injEq, Prod.mk.injEq] at h
      obtain ⟨rfl, rfl⟩ := h
      exact wp_ret (hQ _ _ _ (Agree.refl _ _ _) ht hw)
    · cases h
end Go.Proofs.YtiajbijbhhpllaaDoor.S2
namespace Go.Proofs.YtiajbijbhhpllaaDoor.S2
open Go Go.RowKit Sim
def SemA (E : Env) (w0 : Base) (nb nl n : Nat) (c : Code) (s : St) (x : X) (s' : St) : Prop :=
  ∀ Q ν a w, TR n ν s a → WR w0 ν s.own s.mem w → (∀ ν' a' w', Agree nb nl ν ν' → TR n ν' s' a' → WR w0 ν' s'.own s'.mem w' → Q x.toExit a' w') → c.wp E.P Q a w
abbrev Sem (E : Env) (w0 : Base) (n : Nat) (c : Code) (s : St) (x : X) (s' : St) : Prop := SemA E w0 0 0 n c s x s'
structure Deep (nb nl : Nat) (s : St) : Prop where
  b : nb ≤ s.own.b.length
  l : nl ≤ s.own.l.length
theorem Deep.zero (s : St) : Deep 0 0 s := ⟨Nat.zero_le _, Nat.zero_le _⟩
theorem sem_runA {E : Env} (HC : CallOk E) {w0 : Base} (hG : GlobB E w0) {nb nl fuel n : Nat} {c : Code} {s s' : St} {x : X} (hD : Deep nb nl s) (hg : Good s) (h : simC E fuel n c s = some (x, s')) (hh : Holds' s') : SemA E w0 nb nl n c s x s' :=
  fun Q ν a w ht hw hQ => (simC_ok HC hG fuel n c s x s' hg h hh Q ν a w ht hw fun ν' a' w' ha => hQ ν' a' w' (ha.mono hD.b hD.l)).wp
def nilS (t : Nat) (e : TypeId) (size : Nat) (el : Nat → List Value) (s : St) : Option St := match look s.tmps t with
  | .inl (_, .slice none 0 0) => bif Nat.blt 0 size then some { s with tmps := (t, .c s.own.l.length) :: s.tmps, own := { s.own with l := s.own.l ++ [⟨e, size, 0, el, true, false, true⟩] }, mem := true } else none
  | _ => none
def nilL : List (Nat × TypeId × Nat × (Nat → List Value)) → St → Option St
  | [], s => some s
  | (t, e, size, el) :: r, s => match nilS t e size el s with
    | some s1 => nilL r s1
    | none => none
def pickS0 (p : Pick) (s : St) : Option St := match pickM p s.own with
  | some m => some { tmps := p.ts.map fun t => (t, openV (p.opn.any fun y => Nat.beq y t) (pickV p (look s.tmps t))), own := m, lo := 0, llo := 0, mem := true, orc := [], obl := [] }
  | none => none
def mvS (t : Nat) (s : St) : Option St := match look s.tmps t with
  | .c k => match getL s k with
    | some e => bif e.own && bldFree s e.elT then some { s with tmps := (t, .c s.own.l.length) :: s.tmps, own := { s.own with l := killL s.own.l (some k) ++ [e] }, mem := true } else none
    | none => none
  | _ => none
def mvL : List Nat → St → Option St
  | [], s => some s
  | t :: r, s => match mvS t s with
    | some s1 => mvL r s1
    | none => none
def cpN (k n i : Nat) : Nat := bif Nat.beq i k then n else i
def cpS (k : Nat) (s : St) : Option St := match getL s k with
  | some e => bif e.own then none else some { s with tmps := s.tmps.map fun p => (p.1, renV (fun i => i) (cpN k s.own.l.length) p.2), own := ⟨s.own.b.map (renB (fun i => i) (cpN k s.own.l.length)), s.own.l ++ [e]⟩, mem := true }
  | none => none
def cpL : List Nat → St → Option St
  | [], s => some s
  | k :: r, s => match cpS k s with
    | some s1 => cpL r s1
    | none => none
def nibS (i off : Nat) (e : TypeId) (size : Nat) (el : Nat → List Value) (s : St) : Option St := match s.own.b[i]? with
  | some b => match b.kd, b.cells[off]? with
    | .cells, some (.inl (_, .slice none 0 0)) => bif Nat.blt 0 size then some { s with own := ⟨s.own.b.set i ⟨b.cells.set off (.c s.own.l.length), b.elem, .cells⟩, s.own.l ++ [⟨e, size, 0, el, true, false, true⟩]⟩, mem := true } else none
    | _, _ => none
  | none => none
def nibL : List (Nat × Nat × TypeId × Nat × (Nat → List Value)) → St → Option St
  | [], s => some s
  | (i, off, e, size, el) :: r, s => match nibS i off e size el s with
    | some s1 => nibL r s1
    | none => none
def cpnL (p : Pick) (s : St) : Option St := match cpL p.cp s with
  | some s1 => nibL p.nib s1
  | none => none
def pickS (p : Pick) (s : St) : Option St := match cpnL p s with
  | some sc => match mvL p.mv sc with
    | some s0 => match nilL p.nil s0 with
      | some s1 => pickS0 p s1
      | none => none
    | none => none
  | none => none
def prefB (n : Nat) (l : List Nat) : Bool := (List.range n).all fun i => match l[i]? with
  | some j => Nat.beq i j
  | none => false
theorem prefB_ok {n : Nat} {l : List Nat} (h : prefB n l = true) (i : Nat) (hi : i < n) : l[i]? = some i := by
  have := List.all_eq_true.mp h i (List.mem_range.mpr hi)
  split at this
  · rename_i j hj
    rw [hj, Nat.eq_of_beq_eq_true this]
  · cases this
theorem pick0_ok {p : Pick} {s s' : St} (h : pickS0 p s = some s') {n : Nat} {w0 : Base} {w : World} {ν : Nu} {a : Act} (ht : TR n ν s a) (hw : WR w0 ν s.own s.mem w) : TR n (pickNu p ν) s' a ∧ WR w0 (pickNu p ν) s'.own s'.mem w := by
  unfold pickS0 at h
  split at h
  · rename_i m hm
    simp only [Option.some.injEq] at h
    subst h
    refine ⟨⟨ht.size, fun t => ?_, ht.df⟩, pickM_ok hm hw⟩
    show Is (pickNu p ν) (look (p.ts.map fun t => (t, openV (p.opn.any fun y => Nat.beq y t) (pickV p (look s.tmps t)))) t) _
    have hlook := look_map (fun t => openV (p.opn.any fun y => Nat.beq y t) (pickV p (look s.tmps t))) t
    rcases hlook p.ts with h | h
    · rw [h]; trivial
    · rw [h]
      exact openV_is (pickV_is p (ht.tm t))
  · cases h
theorem nil_ok {t : Nat} {e : TypeId} {size : Nat} {el : Nat → List Value} {s s' : St} (h : nilS t e size el s = some s') {n : Nat} {w0 : Base} {w : World} {ν : Nu} {a : Act} (ht : TR n ν s a) (hg : ∀ p ∈ s.tmps, okV s.own.b.length s.own.l.length p.2) (hw : WR w0 ν s.own s.mem w) :
    ∃ ν', Agree s.own.b.length s.own.l.length ν ν' ∧ s.own.l.length ≤ s'.own.l.length ∧ s'.own.b = s.own.b ∧ TR n ν' s' a ∧ (∀ p ∈ s'.tmps, okV s'.own.b.length s'.own.l.length p.2) ∧ WR w0 ν' s'.own s'.mem w := by
  unfold nilS at h
  split at h
  · rename_i fl hl
    cases hb : Nat.blt 0 size
    · rw [hb] at h; cases h
    · rw [hb] at h
      simp only [cond_true, Option.some.injEq] at h
      subst h
      have hsz : 0 < size := by simpa [Nat.blt_eq] using hb
      have h0 : a.tmps.getD t undef = .slice none 0 0 := by have := ht.tm t; rw [hl] at this; exact this
      refine ⟨extV ν s.own.l.length (.slice none 0 0), extV_old _ _ _ _, by simp, rfl, ⟨ht.size, fun t' => ?_, ht.df⟩, fun p hp => ?_, hw.addRow (e := ⟨e, size, 0, el, true, false, true⟩) rfl ⟨⟨hsz, fun j hj => absurd hj (by simp)⟩, by simp [LE.flat], .inl ⟨rfl, rfl⟩⟩ (fun g hg => by cases hg) (fun g hg => by cases hg)⟩
      · show Is _ (look ((t, .c s.own.l.length) :: s.tmps) t') _
        unfold look
        cases hb : Nat.beq t t'
        · exact Is_congr (look_ok hg) (extV_old ν _ _ _) (ht.tm t')
        · rw [← Nat.eq_of_beq_eq_true hb]
          show a.tmps.getD t undef = (extV ν s.own.l.length (.slice none 0 0)).v s.own.l.length
          rw [extV_new]; exact h0
      · have hlen : (s.own.l ++ [(⟨e, size, 0, el, true, false, true⟩ : LE)]).length = s.own.l.length + 1 := by simp
        show okV s.own.b.length (s.own.l ++ [(⟨e, size, 0, el, true, false, true⟩ : LE)]).length p.2
        rw [hlen]
        rcases List.mem_cons.mp hp with rfl | hp
        · show s.own.l.length < _; omega
        · exact (hg p hp).mono (Nat.le_refl _) (by omega)
  · cases h
theorem nilL_ok : ∀ (l : List (Nat × TypeId × Nat × (Nat → List Value))) {s s' : St}, nilL l s = some s' → ∀ {n : Nat} {w0 : Base} {w : World} {ν : Nu} {a : Act}, TR n ν s a → (∀ p ∈ s.tmps, okV s.own.b.length s.own.l.length p.2) → WR w0 ν s.own s.mem w → ∃ ν', Agree s.own.b.length s.own.l.length ν ν' ∧ TR n ν' s' a ∧ WR w0 ν' s'.own s'.mem w
  | [], s, s', h, n, w0, w, ν, a, ht, _, hw => by simp only [nilL, Option.some.injEq] at h; subst h; exact ⟨ν, .refl _ _ _, ht, hw⟩
  | (t, e, size, el) :: r, s, s', h, n, w0, w, ν, a, ht, hg, hw => by
    unfold nilL at h
    split at h
    · rename_i s1 h1
      obtain ⟨ν1, a1, l1, b1, t1, g1, w1⟩ := nil_ok h1 ht hg hw
      obtain ⟨ν2, a2, t2, w2⟩ := nilL_ok r h t1 g1 w1
      exact ⟨ν2, Agree.trans a1 a2 (by rw [b1]; exact Nat.le_refl _) l1, t2, w2⟩
    · cases h
theorem OwnB.elTy {B : Nat} {w : World} {e : LE} {v : Value} (h : OwnB B w e v) {g : Nat} {cs : Array Value} {ty : TypeId} {fz : Nat × Nat} (hg : v.ownBlock = some g) (hc : w.heap[g]? = some (.cells cs ty fz)) : ty = e.elT := by
  rcases h.2.2 with ⟨rfl, _⟩ | ⟨g', cap, cur, rfl, _, hb, _⟩
  · cases hg
  · cases hg
    rw [hb] at hc
    simp only [Option.some.injEq, Obj.cells.injEq] at hc
    exact hc.2.1.symm
theorem mv_ok {t : Nat} {s s' : St} (h : mvS t s = some s') {n : Nat} {w0 : Base} {w : World} {ν : Nu} {a : Act} (ht : TR n ν s a) (hg : ∀ p ∈ s.tmps, okV s.own.b.length s.own.l.length p.2) (hw : WR w0 ν s.own s.mem w) :
    ∃ ν', Agree s.own.b.length s.own.l.length ν ν' ∧ s.own.l.length ≤ s'.own.l.length ∧ s'.own.b = s.own.b ∧ TR n ν' s' a ∧ (∀ p ∈ s'.tmps, okV s'.own.b.length s'.own.l.length p.2) ∧ WR w0 ν' s'.own s'.mem w := by
  unfold mvS at h
  split at h
  · rename_i k hl
    split at h
    · rename_i e he
      cases hb : (e.own && bldFree s e.elT)
      · rw [hb] at h; cases h
      · rw [hb] at h
        simp only [cond_true, Option.some.injEq] at h
        subst h
        simp only [Bool.and_eq_true] at hb
        obtain ⟨hk, hd⟩ := getL_some he
        have h0 : a.tmps.getD t undef = ν.v k := by have := ht.tm t; rw [hl] at this; exact this
        have hlen : (killL s.own.l (some k) ++ [e]).length = s.own.l.length + 1 := by rw [List.length_append, killL_len]; rfl
        have hrow := hw.row hk hd hb.1
        refine ⟨extV ν s.own.l.length (ν.v k), extV_old _ _ _ _, by show _ ≤ (killL s.own.l (some k) ++ [e]).length; omega, rfl, ⟨ht.size, fun t' => ?_, ht.df⟩, fun p hp => ?_, ?_⟩
        · show Is _ (look ((t, .c s.own.l.length) :: s.tmps) t') _
          unfold look
          cases hb : Nat.beq t t'
          · exact Is_congr (look_ok hg) (extV_old ν _ _ _) (ht.tm t')
          · rw [← Nat.eq_of_beq_eq_true hb]
            show a.tmps.getD t undef = (extV ν s.own.l.length (ν.v k)).v s.own.l.length
            rw [extV_new]; exact h0
        · show okV s.own.b.length (killL s.own.l (some k) ++ [e]).length p.2
          rw [hlen]
          rcases List.mem_cons.mp hp with rfl | hp
          · show s.own.l.length < _; omega
          · exact (hg p hp).mono (Nat.le_refl _) (by omega)
        · refine hw.append (k? := some k) (v := ν.v k) (v' := ν.v k) (ne := e) hrow hb.1 (fun g hg => ⟨k, e, rfl, hk, hd, hb.1, hg⟩) ⟨rfl, rfl, rfl, Nat.le_refl _, fun _ _ _ => rfl⟩ (.inl rfl) fun j c fl T e2 acc hj hkd g cs fz hg heq => ?_
          exact bldFree_ok hb.2 j c fl T e2 acc hj hkd (OwnB.elTy hrow hg heq)
    · cases h
  · cases h
theorem mvL_ok : ∀ (l : List Nat) {s s' : St}, mvL l s = some s' → ∀ {n : Nat} {w0 : Base} {w : World} {ν : Nu} {a : Act}, TR n ν s a → (∀ p ∈ s.tmps, okV s.own.b.length s.own.l.length p.2) → WR w0 ν s.own s.mem w → ∃ ν', Agree s.own.b.length s.own.l.length ν ν' ∧ s.own.l.length ≤ s'.own.l.length ∧ s'.own.b = s.own.b ∧ TR n ν' s' a ∧ (∀ p ∈ s'.tmps, okV s'.own.b.length s'.own.l.length p.2) ∧ WR w0 ν' s'.own s'.mem w
  | [], s, s', h, n, w0, w, ν, a, ht, hg, hw => by simp only [mvL, Option.some.injEq] at h; subst h; exact ⟨ν, .refl _ _ _, Nat.le_refl _, rfl, ht, hg, hw⟩
  | t :: r, s, s', h, n, w0, w, ν, a, ht, hg, hw => by
    unfold mvL at h
    split at h
    · rename_i s1 h1
      obtain ⟨ν1, a1, l1, b1, t1, g1, w1⟩ := mv_ok h1 ht hg hw
      obtain ⟨ν2, a2, l2, b2, t2, g2, w2⟩ := mvL_ok r h t1 g1 w1
      exact ⟨ν2, Agree.trans a1 a2 (by rw [b1]; exact Nat.le_refl _) l1, Nat.le_trans l1 l2, b2.trans b1, t2, g2, w2⟩
    · cases h
theorem look_ren (f : SV → SV) (hf : f .any = .any) (t : Nat) : ∀ (l : List (Nat × SV)), look (l.map fun p => (p.1, f p.2)) t = f (look l t)
  | [] => hf.symm
  | (d, x) :: r => by
    show look ((d, f x) :: r.map fun p => (p.1, f p.2)) t = f (look ((d, x) :: r) t)
    unfold look
    cases Nat.beq d t
    · exact look_ren f hf t r
    · rfl
theorem WR.reblk {w0 : Base} {ν : Nu} {own own' : Mem} {mem : Bool} {w : World} (h : WR w0 ν own mem w) (hl : own'.l = own.l) (hn : own'.b.length = own.b.length) (hb : ∀ (i : Nat) b', own'.b[i]? = some b' → ∃ b, own.b[i]? = some b ∧ concB ν b'.cells = concB ν b.cells ∧ b'.elem = b.elem ∧ b'.kd = b.kd)
    (hok : OkB own'.b.length own'.l.length own'.b) : WR w0 ν own' mem w :=
  ⟨h.below, fun i b' hi => by
    obtain ⟨b, h1, h2, h3, h4⟩ := hb i b' hi
    obtain ⟨k1, k2⟩ := h.blk i b h1
    exact ⟨BOk.rel k1 h2 h3 h4, k2⟩, hok, fun i j hi hj => h.inj i j (by rw [← hn]; exact hi) (by rw [← hn]; exact hj), fun k e hk => h.lst k e (by rw [← hl]; exact hk), fun k e hk hd ho g hg => by
    obtain ⟨s1, s2⟩ := h.sep k e (by rw [← hl]; exact hk) hd ho g hg
    exact ⟨fun i hi => s1 i (by rw [← hn]; exact hi), fun k' e' hk' => s2 k' e' (by rw [← hl]; exact hk')⟩, h.same, ⟨h.fr.here, fun i hi => h.fr.offb i (by rw [← hn]; exact hi), fun k e hk => h.fr.offl k e (by rw [← hl]; exact hk)⟩⟩
theorem cp_ok {k : Nat} {s s' : St} (h : cpS k s = some s') {n : Nat} {w0 : Base} {w : World} {ν : Nu} {a : Act} (ht : TR n ν s a) (hg : ∀ p ∈ s.tmps, okV s.own.b.length s.own.l.length p.2) (hw : WR w0 ν s.own s.mem w) :
    ∃ ν', Agree s.own.b.length s.own.l.length ν ν' ∧ s.own.l.length ≤ s'.own.l.length ∧ s'.own.b.length = s.own.b.length ∧ TR n ν' s' a ∧ (∀ p ∈ s'.tmps, okV s'.own.b.length s'.own.l.length p.2) ∧ WR w0 ν' s'.own s'.mem w := by
  unfold cpS at h
  split at h
  · rename_i e he
    cases ho : e.own
    · rw [ho] at h
      simp only [cond_false, Option.some.injEq] at h
      subst h
      obtain ⟨hk, hd⟩ := getL_some he
      have hkl := lt_of_some_list hk
      have hin := hw.lst k e hk hd
      unfold LOk at hin
      rw [ho] at hin
      have hadd := hw.addIn (e := e) (v := ν.v k) ho hin
      have hv : ∀ i, i < s.own.l.length → (extV ν s.own.l.length (ν.v k)).v (cpN k s.own.l.length i) = ν.v i := fun i hi => by
        unfold cpN
        cases hb : Nat.beq i k
        · exact ((extV_old ν 0 s.own.l.length (ν.v k)).2 i hi).symm
        · rw [Nat.eq_of_beq_eq_true hb]
          exact extV_new _ _ _
      have key : ∀ x : SV, okV s.own.b.length s.own.l.length x → conc (extV ν s.own.l.length (ν.v k)) (renV (fun i => i) (cpN k s.own.l.length) x) = conc ν x ∧ okV s.own.b.length (s.own.l.length + 1) (renV (fun i => i) (cpN k s.own.l.length) x) := fun x hx => by
        refine ⟨?_, renV_ok (fun i hi => hi) (fun i hi => ?_) hx⟩
        · let ν2 : Nu := ⟨ν.l, fun i => (extV ν s.own.l.length (ν.v k)).v (cpN k s.own.l.length i)⟩
          rw [renV_conc (ν3 := extV ν s.own.l.length (ν.v k)) (ν2 := ν2) (fb := fun i => i) (fl := cpN k s.own.l.length) (fun i => rfl) (fun i => rfl) x]
          exact conc_congr hx ⟨fun i _ => rfl, fun i hi => hv i hi⟩
        · unfold cpN
          cases Nat.beq i k
          · show i < _; omega
          · show s.own.l.length < _; omega
      refine ⟨extV ν s.own.l.length (ν.v k), extV_old _ _ _ _, by simp, by simp, ⟨ht.size, fun t => ?_, ht.df⟩, fun p hp => ?_, hadd.reblk rfl (by simp) (fun i b' hi => ?_) fun i b' hi c hc => ?_⟩
      · show Is _ (look (s.tmps.map fun p => (p.1, renV (fun i => i) (cpN k s.own.l.length) p.2)) t) _
        rw [look_ren _ rfl]
        have h0 := ht.tm t
        have hx := look_ok (t := t) hg
        cases hy : look s.tmps t with
        | any => trivial
        | _ =>
          rw [hy] at h0 hx
          exact (show _ = conc ν _ from h0).trans (key _ hx).1.symm
      · obtain ⟨p0, hp0, rfl⟩ := List.mem_map.mp hp
        have := (key p0.2 (hg p0 hp0)).2
        simpa using this
      · rw [List.getElem?_map] at hi
        obtain ⟨b, hb, rfl⟩ := Option.map_eq_some_iff.mp hi
        refine ⟨b, hb, ?_, rfl, rfl⟩
        show concB _ (b.cells.map _) = concB _ b.cells
        unfold concB
        rw [List.map_map]
        refine List.map_congr_left fun c hc => ?_
        exact ((key c (hw.okb i b hb c hc)).1).trans (conc_congr (hw.okb i b hb c hc) (extV_old _ _ _ _))
      · rw [List.getElem?_map] at hi
        obtain ⟨b, hb, rfl⟩ := Option.map_eq_some_iff.mp hi
        obtain ⟨c0, hc0, rfl⟩ := List.mem_map.mp hc
        have := (key c0 (hw.okb i b hb c0 hc0)).2
        simpa using this
    · rw [ho] at h; cases h
  · cases h
theorem cpL_ok : ∀ (l : List Nat) {s s' : St}, cpL l s = some s' → ∀ {n : Nat} {w0 : Base} {w : World} {ν : Nu} {a : Act}, TR n ν s a → (∀ p ∈ s.tmps, okV s.own.b.length s.own.l.length p.2) → WR w0 ν s.own s.mem w → ∃ ν', Agree s.own.b.length s.own.l.length ν ν' ∧ s.own.l.length ≤ s'.own.l.length ∧ s'.own.b.length = s.own.b.length ∧ TR n ν' s' a ∧ (∀ p ∈ s'.tmps, okV s'.own.b.length s'.own.l.length p.2) ∧ WR w0 ν' s'.own s'.mem w
  | [], s, s', h, n, w0, w, ν, a, ht, hg, hw => by simp only [cpL, Option.some.injEq] at h; subst h; exact ⟨ν, .refl _ _ _, Nat.le_refl _, rfl, ht, hg, hw⟩
  | t :: r, s, s', h, n, w0, w, ν, a, ht, hg, hw => by
    unfold cpL at h
    split at h
    · rename_i s1 h1
      obtain ⟨ν1, a1, l1, b1, t1, g1, w1⟩ := cp_ok h1 ht hg hw
      obtain ⟨ν2, a2, l2, b2, t2, g2, w2⟩ := cpL_ok r h t1 g1 w1
      exact ⟨ν2, Agree.trans a1 a2 (by rw [b1]; exact Nat.le_refl _) l1, Nat.le_trans l1 l2, b2.trans b1, t2, g2, w2⟩
    · cases h
theorem nib_ok {i off : Nat} {e : TypeId} {size : Nat} {el : Nat → List Value} {s s' : St} (h : nibS i off e size el s = some s') {n : Nat} {w0 : Base} {w : World} {ν : Nu} {a : Act} (ht : TR n ν s a) (hg : ∀ p ∈ s.tmps, okV s.own.b.length s.own.l.length p.2) (hw : WR w0 ν s.own s.mem w) :
    ∃ ν', Agree s.own.b.length s.own.l.length ν ν' ∧ s.own.l.length ≤ s'.own.l.length ∧ s'.own.b.length = s.own.b.length ∧ TR n ν' s' a ∧ (∀ p ∈ s'.tmps, okV s'.own.b.length s'.own.l.length p.2) ∧ WR w0 ν' s'.own s'.mem w := by
  unfold nibS at h
  split at h
  · rename_i b hbi
    split at h
    · rename_i fl hk hc
      cases hb : Nat.blt 0 size
      · rw [hb] at h; cases h
      · rw [hb] at h
        simp only [cond_true, Option.some.injEq] at h
        subst h
        have hsz : 0 < size := by simpa [Nat.blt_eq] using hb
        have hadd := hw.addRow (v := .slice none 0 0) (e := ⟨e, size, 0, el, true, false, true⟩) rfl ⟨⟨hsz, fun j hj => absurd hj (by simp)⟩, by simp [LE.flat], .inl ⟨rfl, rfl⟩⟩ (fun g hg => by cases hg) (fun g hg => by cases hg)
        have hag : Agree s.own.b.length s.own.l.length ν (extV ν s.own.l.length (.slice none 0 0)) := extV_old _ _ _ _
        have hlen : (s.own.l ++ [(⟨e, size, 0, el, true, false, true⟩ : LE)]).length = s.own.l.length + 1 := by simp
        refine ⟨extV ν s.own.l.length (.slice none 0 0), hag, by show _ ≤ (s.own.l ++ [_]).length; omega, by simp, ⟨ht.size, fun t => Is_congr (look_ok hg) hag (ht.tm t), ht.df⟩, fun p hp => ?_, hadd.reblk rfl (by simp) (fun j b' hj => ?_) fun j b' hj c hcm => ?_⟩
        · show okV (s.own.b.set i _).length (s.own.l ++ [_]).length p.2
          rw [hlen, List.length_set]
          exact (hg p hp).mono (Nat.le_refl _) (by omega)
        · by_cases hij : i = j
          · subst hij
            have hi' : i < s.own.b.length := lt_of_some_list hbi
            have hj : (s.own.b.set i ⟨b.cells.set off (.c s.own.l.length), b.elem, .cells⟩)[i]? = some b' := hj
            rw [List.getElem?_set_self hi'] at hj
            simp only [Option.some.injEq] at hj
            subst hj
            refine ⟨b, hbi, ?_, rfl, hk.symm⟩
            show concB _ (b.cells.set off _) = concB _ b.cells
            unfold concB
            rw [List.map_set]
            refine List.ext_getElem? fun m => ?_
            by_cases hm : off = m
            · subst hm
              rw [List.getElem?_set_self (by rw [List.length_map]; exact lt_of_some_list hc), List.getElem?_map, hc]
              show some ((extV ν s.own.l.length (.slice none 0 0)).v s.own.l.length) = _
              rw [extV_new]; rfl
            · rw [List.getElem?_set_ne hm]
          · have hj : (s.own.b.set i ⟨b.cells.set off (.c s.own.l.length), b.elem, .cells⟩)[j]? = some b' := hj
            rw [List.getElem?_set_ne hij] at hj
            exact ⟨b', hj, rfl, rfl, rfl⟩
        · show okV (s.own.b.set i _).length (s.own.l ++ [_]).length c
          rw [hlen, List.length_set]
          by_cases hij : i = j
          · subst hij
            have hi' : i < s.own.b.length := lt_of_some_list hbi
            have hj : (s.own.b.set i ⟨b.cells.set off (.c s.own.l.length), b.elem, .cells⟩)[i]? = some b' := hj
            rw [List.getElem?_set_self hi'] at hj
            simp only [Option.some.injEq] at hj
            subst hj
            rcases List.mem_or_eq_of_mem_set hcm with hcm | rfl
            · exact (hw.okb i b hbi c hcm).mono (Nat.le_refl _) (by omega)
            · show s.own.l.length < _; omega
          · have hj : (s.own.b.set i ⟨b.cells.set off (.c s.own.l.length), b.elem, .cells⟩)[j]? = some b' := hj
            rw [List.getElem?_set_ne hij] at hj
            exact (hw.okb j b' hj c hcm).mono (Nat.le_refl _) (by omega)
    · cases h
  · cases h
theorem nibL_ok : ∀ (l : List (Nat × Nat × TypeId × Nat × (Nat → List Value))) {s s' : St}, nibL l s = some s' → ∀ {n : Nat} {w0 : Base} {w : World} {ν : Nu} {a : Act}, TR n ν s a → (∀ p ∈ s.tmps, okV s.own.b.length s.own.l.length p.2) → WR w0 ν s.own s.mem w → ∃ ν', Agree s.own.b.length s.own.l.length ν ν' ∧ s.own.l.length ≤ s'.own.l.length ∧ s'.own.b.length = s.own.b.length ∧ TR n ν' s' a ∧ (∀ p ∈ s'.tmps, okV s'.own.b.length s'.own.l.length p.2) ∧ WR w0 ν' s'.own s'.mem w
  | [], s, s', h, n, w0, w, ν, a, ht, hg, hw => by simp only [nibL, Option.some.injEq] at h; subst h; exact ⟨ν, .refl _ _ _, Nat.le_refl _, rfl, ht, hg, hw⟩
  | (i, off, e, size, el) :: r, s, s', h, n, w0, w, ν, a, ht, hg, hw => by
    unfold nibL at h
    split at h
    · rename_i s1 h1
      obtain ⟨ν1, a1, l1, b1, t1, g1, w1⟩ := nib_ok h1 ht hg hw
      obtain ⟨ν2, a2, l2, b2, t2, g2, w2⟩ := nibL_ok r h t1 g1 w1
      exact ⟨ν2, Agree.trans a1 a2 (by rw [b1]; exact Nat.le_refl _) l1, Nat.le_trans l1 l2, b2.trans b1, t2, g2, w2⟩
    · cases h
theorem cpnL_ok (p : Pick) {s s' : St} (h : cpnL p s = some s') {n : Nat} {w0 : Base} {w : World} {ν : Nu} {a : Act} (ht : TR n ν s a) (hg : ∀ p ∈ s.tmps, okV s.own.b.length s.own.l.length p.2) (hw : WR w0 ν s.own s.mem w) :
    ∃ ν', Agree s.own.b.length s.own.l.length ν ν' ∧ s.own.l.length ≤ s'.own.l.length ∧ s'.own.b.length = s.own.b.length ∧ TR n ν' s' a ∧ (∀ p ∈ s'.tmps, okV s'.own.b.length s'.own.l.length p.2) ∧ WR w0 ν' s'.own s'.mem w := by
  unfold cpnL at h
  split at h
  · rename_i s1 h1
    obtain ⟨ν1, a1, l1, b1, t1, g1, w1⟩ := cpL_ok p.cp h1 ht hg hw
    obtain ⟨ν2, a2, l2, b2, t2, g2, w2⟩ := nibL_ok p.nib h t1 g1 w1
    exact ⟨ν2, Agree.trans a1 a2 (by rw [b1]; exact Nat.le_refl _) l1, Nat.le_trans l1 l2, b2.trans b1, t2, g2, w2⟩
  · cases h
theorem pickNu_agree {p : Pick} {nb nl : Nat} (hb : prefB nb p.bs = true) (hl : prefB nl p.ls = true) (ν : Nu) : Agree nb nl ν (pickNu p ν) := ⟨fun i hi => by
    show ν.l i = ν.l ((p.bs[i]?).getD 0); rw [prefB_ok hb i hi]; rfl, fun k hk => by
    show ν.v k = ν.v ((p.ls[k]?).getD 0); rw [prefB_ok hl k hk]; rfl⟩
theorem pick_okA {p : Pick} {s s' : St} {nb nl : Nat} (hD : Deep nb nl s) (hb : prefB nb p.bs = true) (hl : prefB nl p.ls = true) (h : pickS p s = some s') (hg : Good s) {n : Nat} {w0 : Base} {w : World} {ν : Nu} {a : Act} (ht : TR n ν s a) (hw : WR w0 ν s.own s.mem w) : ∃ ν', Agree nb nl ν ν' ∧ TR n ν' s' a ∧ WR w0 ν' s'.own s'.mem w := by
  unfold pickS at h
  split at h
  · rename_i sc hc
    split at h
    · rename_i s0 h0
      split at h
      · rename_i s1 h1
        obtain ⟨νc, ac, lc, bc, tc, gc, wc⟩ := cpnL_ok p hc ht hg.ok hw
        obtain ⟨ν0, a0, l0, b0, t0, g0, w0'⟩ := mvL_ok p.mv h0 tc gc wc
        obtain ⟨ν1, a1, t1, w1⟩ := nilL_ok p.nil h1 t0 g0 w0'
        obtain ⟨t2, w2⟩ := pick0_ok h t1 w1
        have a2 := pickNu_agree hb hl ν1
        have c1 := ac.mono hD.b hD.l
        have c2 := a0.mono (show nb ≤ _ by rw [bc]; exact hD.b) (Nat.le_trans hD.l lc)
        have c3 := a1.mono (show nb ≤ _ by rw [b0, bc]; exact hD.b) (Nat.le_trans (Nat.le_trans hD.l lc) l0)
        exact ⟨_, Agree.trans (Agree.trans (Agree.trans c1 c2 (Nat.le_refl _) (Nat.le_refl _)) c3 (Nat.le_refl _) (Nat.le_refl _)) a2 (Nat.le_refl _) (Nat.le_refl _), t2, w2⟩
      · cases h
    · cases h
  · cases h
theorem SemA.pre {E : Env} {w0 : Base} {nb nl n : Nat} {c : Code} {s s1 s' : St} {x : X} {p : Pick} (hD : Deep nb nl s) (hb : prefB nb p.bs = true) (hl : prefB nl p.ls = true) (hp : pickS p s = some s1) (hg : Good s) (h : SemA E w0 nb nl n c s1 x s') : SemA E w0 nb nl n c s x s' := fun Q ν a w ht hw hQ => by
  obtain ⟨ν', ha, ht', hw'⟩ := pick_okA hD hb hl hp hg ht hw
  exact h Q ν' a w ht' hw' fun ν2 a2 w2 ha2 => hQ ν2 a2 w2 (Agree.trans ha ha2 (Nat.le_refl _) (Nat.le_refl _))
theorem SemA.post {E : Env} {w0 : Base} {nb nl n : Nat} {c : Code} {s s1 s' : St} {x : X} {p : Pick} (hD : Deep nb nl s1) (hb : prefB nb p.bs = true) (hl : prefB nl p.ls = true) (hp : pickS p s1 = some s') (hg : Good s1) (h : SemA E w0 nb nl n c s x s1) : SemA E w0 nb nl n c s x s' := fun Q ν a w ht hw hQ =>
  h Q ν a w ht hw fun ν' a' w' ha ht' hw' => by
    obtain ⟨ν'', ha2, ht'', hw''⟩ := pick_okA hD hb hl hp hg ht' hw'
    exact hQ ν'' a' w' (Agree.trans ha ha2 (Nat.le_refl _) (Nat.le_refl _)) ht'' hw''
theorem SemA.of {E : Env} {w0 : Base} {nb nl n : Nat} {c : Code} {s t s' t' : St} {x : X} (h : SemA E w0 nb nl n c s x s') (h1 : t.tmps = s.tmps) (h2 : t.own = s.own) (h3 : t.mem = s.mem) (k1 : s'.tmps = t'.tmps) (k2 : s'.own = t'.own) (k3 : s'.mem = t'.mem) : SemA E w0 nb nl n c t x t' := fun Q ν a w ht hw hQ =>
  h Q ν a w (ht.of h1.symm) (by rw [← h2, ← h3]; exact hw) fun ν' a' w' ha ht' hw' => hQ ν' a' w' ha (ht'.of k1.symm) (by rw [← k2, ← k3]; exact hw')
def sameE (e e' : LE) : Prop := e.elT = e'.elT ∧ e.size = e'.size ∧ e.n = e'.n ∧ e.own = e'.own ∧ e.dead = e'.dead ∧ ∀ i, i < e.n → e.el i = e'.el i
def sameL : List LE → List LE → Prop
  | [], [] => True
  | e :: r, e' :: r' => sameE e e' ∧ sameL r r'
  | _, _ => False
theorem sameE.refl (e : LE) : sameE e e := ⟨rfl, rfl, rfl, rfl, rfl, fun _ _ => rfl⟩
theorem sameL.refl : ∀ (l : List LE), sameL l l
  | [] => trivial
  | e :: r => ⟨.refl e, sameL.refl r⟩
theorem sameL_len : ∀ {l l' : List LE}, sameL l l' → l.length = l'.length
  | [], [], _ => rfl
  | e :: r, e2 :: r', h => by simp [sameL_len h.2]
  | [], _ :: _, h => h.elim
  | _ :: _, [], h => h.elim
theorem sameL_get : ∀ {l l' : List LE}, sameL l l' → ∀ (k : Nat) (e' : LE), l'[k]? = some e' → ∃ e, l[k]? = some e ∧ sameE e e'
  | [], [], _, k, e', h => by simp at h
  | e :: r, e2 :: r', h, k, e', hk => by
    cases k with
    | zero => simp at hk; subst hk; exact ⟨e, by simp, h.1⟩
    | succ k => simp at hk ⊢; exact sameL_get h.2 k e' hk
  | [], _ :: _, h, _, _, _ => h.elim
  | _ :: _, [], h, _, _, _ => h.elim
theorem InB.same {B : Nat} {w : World} {e e' : LE} {v : Value} (h : InB B w e v) (hs : sameE e e') : InB B w e' v := by
  obtain ⟨_, h2, h3, _, _, h6⟩ := hs
  obtain ⟨⟨hw1, hw2⟩, a, cap, hv, hle, hc⟩ := h
  refine ⟨⟨by rw [← h2]; exact hw1, fun j hj => by rw [← h6 j (by rw [h3]; exact hj), ← h2]; exact hw2 j (by rw [h3]; exact hj)⟩, a, cap, by rw [← h3]; exact hv, by rw [← h3]; exact hle, fun hn => ?_⟩
  obtain ⟨b, off, ha, hb, hcell⟩ := hc (by rw [h3]; exact hn)
  exact ⟨b, off, ha, hb, fun j hj o c hoc => by rw [← h2]; exact hcell j (by rw [h3]; exact hj) o c (by rw [h6 j (by rw [h3]; exact hj)]; exact hoc)⟩
theorem OwnB.same {B : Nat} {w : World} {e e' : LE} {v : Value} (h : OwnB B w e v) (hs : sameE e e') : OwnB B w e' v := by
  obtain ⟨h1, h2, h3, _, _, h6⟩ := hs
  obtain ⟨⟨hw1, hw2⟩, hrow⟩ := h
  refine ⟨⟨by rw [← h2]; exact hw1, fun j hj => by rw [← h6 j (by rw [h3]; exact hj), ← h2]; exact hw2 j (by rw [h3]; exact hj)⟩, ?_⟩
  have hf : e.flat = e'.flat := by
    unfold LE.flat
    rw [h3]
    unfold List.flatMap
    congr 1
    exact List.map_congr_left fun i hi => h6 i (by rw [h3]; exact List.mem_range.mp hi)
  rw [← hf, ← h1, ← h2, ← h3]; exact hrow
theorem WR.alike {w0 : Base} {ν : Nu} {own own' : Mem} {mem : Bool} {w : World} (h : WR w0 ν own mem w) (hb : own.b = own'.b) (hl : sameL own.l own'.l) : WR w0 ν own' mem w := by
  refine ⟨h.below, fun i b hi => h.blk i b (by rw [hb]; exact hi), by rw [← hb, ← sameL_len hl]; exact h.okb, fun i j hi hj => h.inj i j (by rw [hb]; exact hi) (by rw [hb]; exact hj), fun k e' hk hd => ?_, fun k e' hk hd ho g hg => ?_, h.same, ⟨h.fr.here, fun i hi => h.fr.offb i (by rw [hb]; exact hi), fun k e' hk hd ho g hg => by
    obtain ⟨e, he, hs⟩ := sameL_get hl k e' hk
    exact h.fr.offl k e he (by rw [hs.2.2.2.2.1]; exact hd) (by rw [hs.2.2.2.1]; exact ho) g hg⟩⟩
  · obtain ⟨e, he, hs⟩ := sameL_get hl k e' hk
    have hd0 : e.dead = false := by rw [hs.2.2.2.2.1]; exact hd
    have := h.lst k e he hd0
    unfold LOk at *
    rw [← hs.2.2.2.1]
    cases ho : e.own
    · rw [ho] at this; exact InB.same this hs
    · rw [ho] at this; exact OwnB.same this hs
  · obtain ⟨e, he, hs⟩ := sameL_get hl k e' hk
    obtain ⟨s1, s2⟩ := h.sep k e he (by rw [hs.2.2.2.2.1]; exact hd) (by rw [hs.2.2.2.1]; exact ho) g hg
    refine ⟨fun i hi => s1 i (by rw [hb]; exact hi), fun k' e2 hk' hd' ho' hne => ?_⟩
    obtain ⟨e3, he3, hs3⟩ := sameL_get hl k' e2 hk'
    exact s2 k' e3 he3 (by rw [hs3.2.2.2.2.1]; exact hd') (by rw [hs3.2.2.2.1]; exact ho') hne
theorem SemA.same {E : Env} {w0 : Base} {nb nl n : Nat} {c : Code} {s s1 s2 : St} {x : X} (h : SemA E w0 nb nl n c s x s1) (h1 : s1.tmps = s2.tmps) (h2 : s1.own.b = s2.own.b) (h3 : sameL s1.own.l s2.own.l) (h4 : s2.mem = s1.mem) : SemA E w0 nb nl n c s x s2 := fun Q ν a w ht hw hQ =>
  h Q ν a w ht hw fun ν' a' w' ha ht' hw' => hQ ν' a' w' ha (ht'.of h1.symm) (by rw [h4]; exact hw'.alike h2 h3)
theorem SemA.alike {E : Env} {w0 : Base} {nb nl n : Nat} {c : Code} {s1 s2 s' : St} {x : X} (h : SemA E w0 nb nl n c s1 x s') (h1 : s1.tmps = s2.tmps) (h2 : s2.own.b = s1.own.b) (h3 : sameL s2.own.l s1.own.l) (h4 : s1.mem = s2.mem) : SemA E w0 nb nl n c s2 x s' := fun Q ν a w ht hw hQ =>
  h Q ν a w (ht.of h1) (by rw [h4]; exact hw.alike h2 h3) hQ
noncomputable def iter (E : Env) (fuel n : Nat) (c : Code) (p : Pick) (orc : List Bool) (s : St) : Option (X × St × List (Bool × Bool)) := match simC E fuel n c { s with orc := orc, obl := [] } with
  | some (x, s') => match pickS p s' with
    | some s2 => some (x, s2, s'.obl)
    | none => none
  | none => none
def goodB (s : St) : Bool := Nat.ble s.lo s.own.b.length && Nat.ble s.llo s.own.l.length && (s.tmps.all fun p => okVB s.own.b.length s.own.l.length p.2) && s.own.b.all fun b => b.cells.all (okVB s.own.b.length s.own.l.length)
theorem goodB_ok {s : St} (h : goodB s = true) : Good s := by
  unfold goodB at h
  simp only [Bool.and_eq_true, List.all_eq_true] at h
  exact ⟨Nat.le_of_ble_eq_true h.1.1.1, Nat.le_of_ble_eq_true h.1.1.2, fun p hp => okVB_ok (h.1.2 p hp), fun i b hi c hc => okVB_ok (h.2 b (List.mem_of_getElem? hi) c hc)⟩
structure Stop where
  path : List Nat
  pick : Pick
  x : X
  s : St
structure Told where
  c : Code
  s : St
  x : X
  s' : St
def pathB : List Nat → List Nat → Bool
  | [], [] => true
  | x :: r, y :: t => Nat.beq x y && pathB r t
  | _, _ => false
def opens (p q : List Nat) : Bool := pathB p (q.drop (q.length - p.length)) && Nat.ble p.length q.length
abbrev Out := X × St × List Stop × List Told
noncomputable def simP (E : Env) (fuel n : Nat) : Nat → List Stop → List Nat → Code → St → Option Out
  | 0, _, _, _, _ => none
  | d + 1, plan, path, c, s =>
    match plan with
    | [] => match simC E fuel n c s with
      | some (x, s') => some (x, s', [], [])
      | none => none
    | st :: rest => bif pathB path st.path then
        (match pickS st.pick s with
        | some s1 => bif goodB st.s then some (st.x, { st.s with obl := s.obl, orc := s.orc, lo := 0, llo := 0 }, rest, [⟨c, s1, st.x, st.s⟩]) else none
        | none => none)
      else bif opens path st.path then
        (match c with
        | .seq x y => match simP E fuel n d plan (0 :: path) x s with
          | some (none, s', plan', tr) => match simP E fuel n d plan' (1 :: path) y s' with
            | some (e, s2, plan2, tr2) => some (e, s2, plan2, tr ++ tr2)
            | none => none
          | r => r
        | .cond b x y => match ev s b with
          | .inl (fl, (.bool v)) => match askC s b fl v with
            | (true, s') => simP E fuel n d plan (0 :: path) x s'
            | (false, s') => simP E fuel n d plan (1 :: path) y s'
          | _ => none
        | .block id x => match simP E fuel n d plan (0 :: path) x s with
          | some (some (some i), s', plan', tr) => bif Nat.beq i id then some (none, s', plan', tr) else some (some (some i), s', plan', tr)
          | r => r
        | .scope x => simP E fuel n d plan (0 :: path) x s
        | _ => none)
      else (match simC E fuel n c s with
        | some (x, s') => some (x, s', plan, [])
        | none => none)
def okStop (nb nl : Nat) (st : Stop) : Bool := prefB nb st.pick.bs && prefB nl st.pick.ls && Nat.ble nb st.s.own.b.length && Nat.ble nl st.s.own.l.length
theorem okStop_zero (plan : List Stop) : ∀ st ∈ plan, okStop 0 0 st = true := fun st _ => rfl
theorem simP_okA {E : Env} (HC : CallOk E) {w0 : Base} (hG : GlobB E w0) {nb nl fuel n : Nat} : ∀ (d : Nat) (plan : List Stop) (path : List Nat) (c : Code) (s : St) (x : X) (s' : St) (plan' : List Stop) (tr : List Told),
    Good s → Deep nb nl s → (∀ st ∈ plan, okStop nb nl st = true) → simP E fuel n d plan path c s = some (x, s', plan', tr) → (∀ p ∈ s.obl, p ∈ s'.obl) ∧ Good s' ∧ (Deep nb nl s' ∧ ∀ st ∈ plan', okStop nb nl st = true) ∧ (Holds' s' → (∀ t ∈ tr, SemA E w0 nb nl n t.c t.s t.x t.s') → SemA E w0 nb nl n c s x s')
  | 0, _, _, _, _, _, _, _, _, _, _, _, h => by simp [simP] at h
  | d + 1, plan, path, c, s, x, s', plan', tr, hg, hD, hP, h => by
    have run : ∀ {x s'} (plan' : List Stop), (∀ st ∈ plan', okStop nb nl st = true) → simC E fuel n c s = some (x, s') → (∀ p ∈ s.obl, p ∈ s'.obl) ∧ Good s' ∧ (Deep nb nl s' ∧ ∀ st ∈ plan', okStop nb nl st = true) ∧ (Holds' s' → (∀ t ∈ tr, SemA E w0 nb nl n t.c t.s t.x t.s') → SemA E w0 nb nl n c s x s') := fun {x s'} plan' hP' h1 => by
      obtain ⟨l1, g1⟩ := simC_st E fuel n c s x s' hg h1
      exact ⟨l1.ext, g1, ⟨⟨Nat.le_trans hD.b l1.len, Nat.le_trans hD.l l1.llen⟩, hP'⟩, fun hh _ => sem_runA HC hG hD hg h1 hh⟩
    unfold simP at h
    split at h
    · split at h
      · rename_i x1 s1 h1
        simp only [Option.some.injEq, Prod.mk.injEq] at h
        obtain ⟨rfl, rfl, rfl, rfl⟩ := h
        exact run [] (fun st hst => by cases hst) h1
      · cases h
    · rename_i st rest
      cases hpb : pathB path st.path
      · rw [hpb] at h
        simp only [cond_false] at h
        cases hop : opens path st.path
        · rw [hop] at h
          simp only [cond_false] at h
          split at h
          · rename_i x1 s1 h1
            simp only [Option.some.injEq, Prod.mk.injEq] at h
            obtain ⟨rfl, rfl, rfl, rfl⟩ := h
            exact run _ hP h1
          · cases h
        · rw [hop] at h
          simp only [cond_true] at h
          split at h
          · rename_i c1 c2
            split at h
            · rename_i s1 plan1 tr1 h1
              obtain ⟨e1, g1, D1, k1⟩ := simP_okA HC hG d _ _ _ _ _ _ _ _ hg hD hP h1
              split at h
              · rename_i e s2 plan2 tr2 h2
                simp only [Option.some.injEq, Prod.mk.injEq] at h
                obtain ⟨rfl, rfl, rfl, rfl⟩ := h
                obtain ⟨e2, g2, D2, k2⟩ := simP_okA HC hG d _ _ _ _ _ _ _ _ g1 D1.1 D1.2 h2
                refine ⟨fun p hp => e2 p (e1 p hp), g2, D2, fun hh htr => ?_⟩
                have m1 := k1 (fun p hp => hh p (e2 p hp)) (fun t ht => htr t (List.mem_append_left _ ht))
                have m2 := k2 hh (fun t ht => htr t (List.mem_append_right _ ht))
                exact fun Q ν a w ht hw hQ => wp_seq (m1 _ ν a w ht hw fun ν' a' w' ha ht' hw' => m2 Q ν' a' w' ht' hw' fun ν2 a2 w2 ha2 => hQ ν2 a2 w2 (Agree.trans ha ha2 (Nat.le_refl _) (Nat.le_refl _)))
              · cases h
            · rename_i hne
              obtain ⟨e1, g1, D1, k1⟩ := simP_okA HC hG d _ _ _ _ _ _ _ _ hg hD hP h
              refine ⟨e1, g1, D1, fun hh htr => ?_⟩
              have m1 := k1 hh htr
              refine fun Q ν a w ht hw hQ => wp_seq (m1 _ ν a w ht hw fun ν' a' w' ha ht' hw' => ?_)
              rcases x with _ | _ | i
              · exact absurd h (hne _ _ _)
              · exact hQ _ _ _ ha ht' hw'
              · exact hQ _ _ _ ha ht' hw'
          · rename_i b c1 c2
            split at h
            · rename_i fl v hev
              split at h
              · rename_i s1 hask
                obtain ⟨b1, b2, b3, b4, b5⟩ := askC_ok (n := n) hev hask
                obtain ⟨e1, g1, D1, k1⟩ := simP_okA HC hG d _ _ _ _ _ _ _ _ (b4 hg) ⟨by rw [b2]; exact hD.b, by rw [b2]; exact hD.l⟩ hP h
                refine ⟨fun p hp => e1 p (b1.ext p hp), g1, D1, fun hh htr => ?_⟩
                obtain ⟨hb, ht1⟩ := b5 (fun p hp => hh p (e1 p hp))
                exact fun Q ν a w ht hw hQ => wp_cond_true (by rw [eval_v ht hev, hb]) (k1 hh htr Q ν a w (ht1 ν a ht) (by rw [b2, b3]; exact hw) hQ)
              · rename_i s1 hask
                obtain ⟨b1, b2, b3, b4, b5⟩ := askC_ok (n := n) hev hask
                obtain ⟨e1, g1, D1, k1⟩ := simP_okA HC hG d _ _ _ _ _ _ _ _ (b4 hg) ⟨by rw [b2]; exact hD.b, by rw [b2]; exact hD.l⟩ hP h
                refine ⟨fun p hp => e1 p (b1.ext p hp), g1, D1, fun hh htr => ?_⟩
                obtain ⟨hb, ht1⟩ := b5 (fun p hp => hh p (e1 p hp))
                exact fun Q ν a w ht hw hQ => wp_cond_false (by rw [eval_v ht hev, hb]) (k1 hh htr Q ν a w (ht1 ν a ht) (by rw [b2, b3]; exact hw) hQ)
            · cases h
          · rename_i id c1
            split at h
            · rename_i i s1 plan1 tr1 h1
              obtain ⟨e1, g1, D1, k1⟩ := simP_okA HC hG d _ _ _ _ _ _ _ _ hg hD hP h1
              cases hb : Nat.beq i id
              · rw [hb] at h
                simp only [cond_false, Option.some.injEq, Prod.mk.injEq] at h
                obtain ⟨rfl, rfl, rfl, rfl⟩ := h
                have hne : i ≠ id := fun e => by rw [e] at hb; simp at hb
                refine ⟨e1, g1, D1, fun hh htr Q ν a w ht hw hQ => wp_block (k1 hh htr _ ν a w ht hw fun ν' a' w' ha ht' hw' => ?_)⟩
                simp only [X.toExit, Exit.inBlock, if_neg hne]
                exact hQ _ _ _ ha ht' hw'
              · rw [hb] at h
                simp only [cond_true, Option.some.injEq, Prod.mk.injEq] at h
                obtain ⟨rfl, rfl, rfl, rfl⟩ := h
                have heq : i = id := Nat.eq_of_beq_eq_true hb
                refine ⟨e1, g1, D1, fun hh htr Q ν a w ht hw hQ => wp_block (k1 hh htr _ ν a w ht hw fun ν' a' w' ha ht' hw' => ?_)⟩
                simp only [X.toExit, Exit.inBlock, if_pos heq]
                exact hQ _ _ _ ha ht' hw'
            · rename_i hne
              obtain ⟨e1, g1, D1, k1⟩ := simP_okA HC hG d _ _ _ _ _ _ _ _ hg hD hP h
              refine ⟨e1, g1, D1, fun hh htr Q ν a w ht hw hQ => wp_block (k1 hh htr _ ν a w ht hw fun ν' a' w' ha ht' hw' => ?_)⟩
              rcases x with _ | _ | i
              · exact hQ _ _ _ ha ht' hw'
              · exact hQ _ _ _ ha ht' hw'
              · exact absurd h (hne _ _ _ _)
          · obtain ⟨e1, g1, D1, k1⟩ := simP_okA HC hG d _ _ _ _ _ _ _ _ hg hD hP h
            refine ⟨e1, g1, D1, fun hh htr Q ν a w ht hw hQ => wp_scope_straight (k1 hh htr _ ν a w ht hw fun ν' a' w' ha ht' hw' => ?_)⟩
            rcases x with _ | _ | i
            · exact hQ _ _ _ ha ht' hw'
            · exact hQ _ _ _ ha ht' hw'
            · exact hQ _ _ _ ha ht' hw'
          · cases h
      · rw [hpb] at h
        simp only [cond_true] at h
        split at h
        · rename_i s1 hp
          cases hgb : goodB st.s
          · rw [hgb] at h; cases h
          · rw [hgb] at h
            simp only [cond_true, Option.some.injEq, Prod.mk.injEq] at h
            obtain ⟨rfl, rfl, rfl, rfl⟩ := h
            have g := goodB_ok hgb
            have ho := hP st List.mem_cons_self
            unfold okStop at ho
            simp only [Bool.and_eq_true] at ho
            refine ⟨fun p hp => hp, ⟨Nat.zero_le _, Nat.zero_le _, g.ok, g.okb⟩, ⟨⟨Nat.le_of_ble_eq_true ho.1.2, Nat.le_of_ble_eq_true ho.2⟩, fun st' hst' => hP st' (List.mem_cons_of_mem _ hst')⟩, fun hh htr => ?_⟩
            have := htr ⟨c, s1, st.x, st.s⟩ (by simp)
            exact (this.pre hD ho.1.1.1 ho.1.1.2 hp hg).of rfl rfl rfl rfl rfl rfl
        · cases h
end Go.Proofs.YtiajbijbhhpllaaDoor.S2
namespace Go.Proofs.YtiajbijbhhpllaaDoor.S2
open Go Go.RowKit Sim
def initC (fl : List Bool) : Nat → Nat → List (Sum Value LE) → List CV × List LE
  | _, _, [] => ([], [])
  | k, m, .inl v :: r => (.v [(fl[k]?).getD false] v :: (initC fl (k + 1) m r).1, (initC fl (k + 1) m r).2)
  | k, m, .inr e :: r => (.l m :: (initC fl (k + 1) (m + 1) r).1, { e with own := false, dead := false } :: (initC fl (k + 1) (m + 1) r).2)
def initX (fls : List (List Bool)) : Nat → Nat → List XV → List SV × List LE
  | _, _, [] => ([], [])
  | i, m, .inl v :: r => (.inl ((fls[i]?).getD [], v) :: (initX fls (i + 1) m r).1, (initX fls (i + 1) m r).2)
  | i, m, .inr e :: r => (.c m :: (initX fls (i + 1) (m + 1) r).1, { e with own := false, dead := false } :: (initX fls (i + 1) (m + 1) r).2)
  | i, m, .st cs :: r => (.st (initC ((fls[i]?).getD []) 0 m cs).1 :: (initX fls (i + 1) (m + (initC ((fls[i]?).getD []) 0 m cs).2.length) r).1, (initC ((fls[i]?).getD []) 0 m cs).2 ++ (initX fls (i + 1) (m + (initC ((fls[i]?).getD []) 0 m cs).2.length) r).2)
def notSl : Value → Bool
  | .slice _ _ _ => false
  | _ => true
def outK (s : St) (ks0 : List Nat) : List CV → Option (List (Sum Value LE) × List Nat)
  | [] => some ([], ks0)
  | .v _ v :: r => bif notSl v then (match outK s ks0 r with
    | some (l, ks) => some (.inl v :: l, ks)
    | none => none) else none
  | .l k :: r => match getL s k, outK s ks0 r with
    | some e, some (l, ks) => bif e.own && !(ks.any fun y => Nat.beq k y) then some (.inr e :: l, k :: ks) else none
    | _, _ => none
  | .a _ _ :: _ => none
def cvT : TV → List CV
  | .inl (fl, v) => [.v fl v]
  | .inr k => [.l k]
  | .st cs => cs
def mkX : TV → List (Sum Value LE) → Option XV
  | .inl _, [.inl v] => some (.inl v)
  | .inr _, [.inr e] => some (.inr e)
  | .st _, l => some (.st l)
  | _, _ => none
def outT (s : St) : List TV → Option (List XV × List Nat)
  | [] => some ([], [])
  | x :: r => match outT s r with
    | some (l, ks) => match outK s ks (cvT x) with
      | some (c, ks') => match mkX x c with
        | some y => some (y :: l, ks')
        | none => none
      | none => none
    | none => none
def outS (s : St) : SV → Option (Bool × List XV)
  | .inl (_, v) => some (false, [.inl v])
  | .c k => match outT s [.inr k] with
    | some (l, _) => some (false, l)
    | none => none
  | .tp l => match outT s l with
    | some (l, _) => some (true, l)
    | none => none
  | .st cs => match outT s [.st cs] with
    | some (l, _) => some (false, l)
    | none => none
  | _ => none
abbrev Res := Bool × List XV × List (Bool × Bool) × List Told
noncomputable def simF (E : Env) (fuel d : Nat) (plan : List Stop) (orc : List Bool) (f : FuncId) (fls : List (List Bool)) (args : List XV) : Option Res :=
  match E.P.funcs[f]? with
  | some fn => match fn.body with
    | some c => match simP E fuel (args.length + (fn.ntmps - args.length)) d plan [] c { tmps := initS 0 (initX fls 0 0 args).1, own := ⟨[], (initX fls 0 0 args).2⟩, lo := 0, llo := (initX fls 0 0 args).2.length, mem := false, orc := orc, obl := [] } with
      | some (x, s', [], tr) => bif (match x with | some (some _) => false | _ => true) then (match simRes E.P fn s' with
        | some r => match outS s' r with
          | some (tup, res) => some (tup, res, s'.obl, tr)
          | none => none
        | none => none) else none
      | _ => none
    | none => none
  | none => none
def listValsC : List (Sum Value LE) → List Value → List Value
  | .inl _ :: r, _ :: vs => listValsC r vs
  | .inr _ :: r, v :: vs => v :: listValsC r vs
  | _, _ => []
def listVals : List XV → List Value → List Value
  | .inl _ :: r, _ :: vs => listVals r vs
  | .inr _ :: r, v :: vs => v :: listVals r vs
  | .st cs :: r, v :: vs => listValsC cs v.cells.toList ++ listVals r vs
  | _, _ => []
theorem initC_ok {fl : List Bool} {w : World} {ν : Nu} : ∀ (cs : List (Sum Value LE)) (us : List Value) (k m : Nat), CellsOk w cs us → (∀ (j : Nat) v, (listValsC cs us)[j]? = some v → ν.v (m + j) = v) →
    (initC fl k m cs).1.map (concC ν) = us ∧ (∀ (j : Nat) e, (initC fl k m cs).2[j]? = some e → e.own = false ∧ InB w.heap.size w e (ν.v (m + j))) ∧ (∀ y ∈ (initC fl k m cs).1, okC 0 (m + (initC fl k m cs).2.length) y) ∧ (initC fl k m cs).2.length = (listValsC cs us).length
  | [], [], k, m, _, _ => ⟨rfl, fun j e h => by simp [initC] at h, fun y hy => by simp [initC] at hy, rfl⟩
  | [], _ :: _, _, _, h, _ => h.elim
  | .inl x :: r, [], _, _, h, _ => h.elim
  | .inr e :: r, [], _, _, h, _ => h.elim
  | .inl x :: r, v :: vs, k, m, h, hν => by
    obtain ⟨h1, h2, h3, h4⟩ := initC_ok (fl := fl) r vs (k + 1) m h.2 hν
    refine ⟨?_, h2, fun y hy => ?_, h4⟩
    · show x :: (initC fl (k + 1) m r).1.map (concC ν) = _
      rw [h1, show v = x from h.1]
    · rcases List.mem_cons.mp (show y ∈ .v [(fl[k]?).getD false] x :: (initC fl (k + 1) m r).1 from hy) with rfl | hy
      · trivial
      · exact h3 y hy
  | .inr e :: r, v :: vs, k, m, h, hν => by
    obtain ⟨h1, h2, h3, h4⟩ := initC_ok (fl := fl) (ν := ν) r vs (k + 1) (m + 1) h.2 (fun j u hj => by
      have := hν (j + 1) u (by simpa [listValsC] using hj)
      rw [← this]; congr 1; omega)
    have hv : ν.v m = v := hν 0 v rfl
    refine ⟨?_, fun j e' hj => ?_, fun y hy => ?_, ?_⟩
    · show ν.v m :: (initC fl (k + 1) (m + 1) r).1.map (concC ν) = _
      rw [h1, hv]
    · cases j with
      | zero =>
        have : e' = { e with own := false, dead := false } := by
          have : some ({ e with own := false, dead := false } : LE) = some e' := hj
          simpa using this.symm
        subst this
        refine ⟨rfl, ?_⟩
        rw [Nat.add_zero, hv]; exact h.1
      | succ j =>
        obtain ⟨k1, k2⟩ := h2 j e' hj
        exact ⟨k1, by rw [show m + (j + 1) = m + 1 + j by omega]; exact k2⟩
    · rcases List.mem_cons.mp (show y ∈ .l m :: (initC fl (k + 1) (m + 1) r).1 from hy) with rfl | hy
      · show m < m + ((initC fl (k + 1) (m + 1) r).2.length + 1); omega
      · exact (h3 y hy).mono (Nat.le_refl _) (by show m + 1 + _ ≤ m + ((initC fl (k + 1) (m + 1) r).2.length + 1); omega)
    · show (initC fl (k + 1) (m + 1) r).2.length + 1 = (listValsC r vs).length + 1
      rw [h4]
theorem initX_ok {fls : List (List Bool)} {w : World} {ν : Nu} : ∀ (args : List XV) (vals : List Value) (i m : Nat), ArgsOk w args vals → (∀ (j : Nat) v, (listVals args vals)[j]? = some v → ν.v (m + j) = v) →
    IsL ν (initX fls i m args).1 vals ∧ (∀ (j : Nat) e, (initX fls i m args).2[j]? = some e → e.own = false ∧ InB w.heap.size w e (ν.v (m + j))) ∧ (∀ y ∈ (initX fls i m args).1, okV 0 (m + (initX fls i m args).2.length) y) ∧ (initX fls i m args).1.length = args.length
  | [], [], i, m, _, _ => ⟨trivial, fun j e h => by simp [initX] at h, fun y hy => by simp [initX] at hy, rfl⟩
  | [], _ :: _, _, _, h, _ => h.elim
  | .inl x :: r, [], _, _, h, _ => h.elim
  | .inr e :: r, [], _, _, h, _ => h.elim
  | .st cs :: r, [], _, _, h, _ => h.elim
  | .st cs :: r, v :: vs, i, m, h, hν => by
    obtain ⟨⟨us, rfl, hc⟩, hr⟩ := h
    have hcells : (Value.agg us.toArray).cells.toList = us := rfl
    obtain ⟨c1, c2, c3, c4⟩ := initC_ok (fl := (fls[i]?).getD []) (ν := ν) cs us 0 m hc (fun j u hj => hν j u (by
      show (listValsC cs us ++ listVals r vs)[j]? = some u
      rw [List.getElem?_append_left (lt_of_some_list hj)]; exact hj))
    obtain ⟨h1, h2, h3, h4⟩ := initX_ok (fls := fls) (ν := ν) r vs (i + 1) (m + (initC ((fls[i]?).getD []) 0 m cs).2.length) hr (fun j u hj => by
      have := hν ((listValsC cs us).length + j) u (by
        show (listValsC cs us ++ listVals r vs)[_]? = some u
        rw [List.getElem?_append_right (by omega), Nat.add_sub_cancel_left]; exact hj)
      rw [← this, c4]; congr 1; omega)
    refine ⟨⟨?_, h1⟩, fun j e' hj => ?_, fun y hy => ?_, ?_⟩
    · show Value.agg us.toArray = .agg ((initC ((fls[i]?).getD []) 0 m cs).1.map (concC ν)).toArray
      rw [c1]
    · have hj : ((initC ((fls[i]?).getD []) 0 m cs).2 ++ (initX fls (i + 1) (m + (initC ((fls[i]?).getD []) 0 m cs).2.length) r).2)[j]? = some e' := hj
      rcases Nat.lt_or_ge j (initC ((fls[i]?).getD []) 0 m cs).2.length with hl | hl
      · rw [List.getElem?_append_left hl] at hj; exact c2 j e' hj
      · rw [List.getElem?_append_right hl] at hj
        obtain ⟨k1, k2⟩ := h2 _ e' hj
        exact ⟨k1, by rw [show m + j = m + (initC ((fls[i]?).getD []) 0 m cs).2.length + (j - (initC ((fls[i]?).getD []) 0 m cs).2.length) by omega]; exact k2⟩
    · have hle : m + ((initC ((fls[i]?).getD []) 0 m cs).2 ++ (initX fls (i + 1) (m + (initC ((fls[i]?).getD []) 0 m cs).2.length) r).2).length = m + (initC ((fls[i]?).getD []) 0 m cs).2.length + (initX fls (i + 1) (m + (initC ((fls[i]?).getD []) 0 m cs).2.length) r).2.length := by rw [List.length_append]; omega
      show okV 0 (m + ((initC ((fls[i]?).getD []) 0 m cs).2 ++ (initX fls (i + 1) (m + (initC ((fls[i]?).getD []) 0 m cs).2.length) r).2).length) y
      rw [hle]
      rcases List.mem_cons.mp (show y ∈ .st (initC ((fls[i]?).getD []) 0 m cs).1 :: (initX fls (i + 1) (m + (initC ((fls[i]?).getD []) 0 m cs).2.length) r).1 from hy) with rfl | hy
      · exact fun c hc => (c3 c hc).mono (Nat.le_refl _) (by omega)
      · exact h3 y hy
    · show ((initX fls (i + 1) (m + (initC ((fls[i]?).getD []) 0 m cs).2.length) r).1.length + 1) = _
      rw [h4]; rfl
  | .inl x :: r, v :: vs, i, m, h, hν => by
    obtain ⟨h1, h2, h3, h4⟩ := initX_ok (fls := fls) r vs (i + 1) m h.2 hν
    refine ⟨⟨h.1, h1⟩, h2, fun y hy => ?_, ?_⟩
    · rcases List.mem_cons.mp (show y ∈ .inl ((fls[i]?).getD [], x) :: (initX fls (i + 1) m r).1 from hy) with rfl | hy
      · trivial
      · exact h3 y hy
    · show ((initX fls (i + 1) m r).1.length + 1) = _
      rw [h4]; rfl
  | .inr e :: r, v :: vs, i, m, h, hν => by
    obtain ⟨h1, h2, h3, h4⟩ := initX_ok (fls := fls) (ν := ν) r vs (i + 1) (m + 1) h.2 (fun j u hj => by
      have := hν (j + 1) u (by simpa [listVals] using hj)
      rw [← this]; congr 1; omega)
    have hv : ν.v m = v := hν 0 v rfl
    refine ⟨⟨hv.symm, h1⟩, fun j e' hj => ?_, fun y hy => ?_, ?_⟩
    · cases j with
      | zero =>
        have : e' = { e with own := false, dead := false } := by
          have : some ({ e with own := false, dead := false } : LE) = some e' := hj
          simpa using this.symm
        subst this
        refine ⟨rfl, ?_⟩
        rw [Nat.add_zero, hv]; exact h.1
      | succ j =>
        obtain ⟨k1, k2⟩ := h2 j e' hj
        exact ⟨k1, by rw [show m + (j + 1) = m + 1 + j by omega]; exact k2⟩
    · rcases List.mem_cons.mp (show y ∈ .c m :: (initX fls (i + 1) (m + 1) r).1 from hy) with rfl | hy
      · show m < m + ((initX fls (i + 1) (m + 1) r).2.length + 1); omega
      · exact (h3 y hy).mono (Nat.le_refl _) (by show m + 1 + _ ≤ m + ((initX fls (i + 1) (m + 1) r).2.length + 1); omega)
    · show ((initX fls (i + 1) (m + 1) r).1.length + 1) = _
      rw [h4]; rfl
def Given (s : St) (ν : Nu) (us : List Value) (ks : List Nat) : Prop := ∀ u ∈ us, ∀ g, u.ownBlock = some g → ∃ k ∈ ks, ν.v k = u ∧ ∃ e, s.own.l[k]? = some e ∧ e.dead = false ∧ e.own = true
theorem outK_ok {s : St} {w0 : Base} {w : World} {ν : Nu} {mem : Bool} (hw : WR w0 ν s.own mem w) {ks0 : List Nat} {c0 : List (Sum Value LE)} {us0 : List Value} (h0 : CellsOut w0.heap.size w c0 us0) (g0 : Given s ν us0 ks0) :
    ∀ (l : List CV) (c : List (Sum Value LE)) (ks : List Nat), outK s ks0 l = some (c, ks) → CellsOut w0.heap.size w (c ++ c0) (l.map (concC ν) ++ us0) ∧ Given s ν (l.map (concC ν) ++ us0) ks ∧ c.length = l.length
  | [], c, ks, h => by simp only [outK, Option.some.injEq, Prod.mk.injEq] at h; obtain ⟨rfl, rfl⟩ := h; exact ⟨h0, g0, rfl⟩
  | .v fl v :: r, c, ks, h => by
    unfold outK at h
    cases hn : notSl v
    · rw [hn] at h; cases h
    · rw [hn] at h
      simp only [cond_true] at h
      split at h
      · rename_i l ks' hr
        simp only [Option.some.injEq, Prod.mk.injEq] at h
        obtain ⟨rfl, rfl⟩ := h
        obtain ⟨h1, h2, h3⟩ := outK_ok hw h0 g0 r l ks' hr
        refine ⟨⟨rfl, h1⟩, fun u hu g hg => ?_, by simp [h3]⟩
        rcases List.mem_cons.mp (show u ∈ v :: (r.map (concC ν) ++ us0) from hu) with rfl | hu
        · exfalso
          cases u <;> first | (cases hg; done) | (cases hn; done)
        · exact h2 u hu g hg
      · cases h
  | .l k :: r, c, ks, h => by
    unfold outK at h
    split at h
    · rename_i e l ks' he hr
      cases hb : (e.own && !(ks'.any fun y => Nat.beq k y))
      · rw [hb] at h; cases h
      · rw [hb] at h
        simp only [cond_true, Option.some.injEq, Prod.mk.injEq] at h
        obtain ⟨rfl, rfl⟩ := h
        simp only [Bool.and_eq_true, Bool.not_eq_true', List.any_eq_false] at hb
        obtain ⟨hk, hd⟩ := getL_some he
        obtain ⟨h1, h2, h3⟩ := outK_ok hw h0 g0 r l ks' hr
        refine ⟨⟨⟨hw.row hk hd hb.1, fun g hg u hu hug => ?_⟩, h1⟩, fun u hu g hg => ?_, by simp [h3]⟩
        · obtain ⟨k', hk', hv', e', he', hd', ho'⟩ := h2 u hu g hug
          have hne : k' ≠ k := fun e => hb.2 k' hk' (by rw [e]; simp)
          refine (hw.sep k e hk hd hb.1 g hg).2 k' e' he' hd' ho' hne ?_
          rw [hv']; exact hug
        · rcases List.mem_cons.mp (show u ∈ ν.v k :: (r.map (concC ν) ++ us0) from hu) with rfl | hu
          · exact ⟨k, List.mem_cons_self, rfl, e, hk, hd, hb.1⟩
          · obtain ⟨k', hk', rest⟩ := h2 u hu g hg
            exact ⟨k', List.mem_cons_of_mem _ hk', rest⟩
    · cases h
  | .a _ _ :: r, c, ks, h => by simp [outK] at h
theorem outT_ok {s : St} {w0 : Base} {w : World} {ν : Nu} {mem : Bool} (hw : WR w0 ν s.own mem w) : ∀ (l : List TV) (xs : List XV) (ks : List Nat), outT s l = some (xs, ks) →
    ∃ us, Shape xs (l.map (concT ν)) us ∧ CellsOut w0.heap.size w (flatX xs) us ∧ Given s ν us ks
  | [], xs, ks, h => by
    simp only [outT, Option.some.injEq, Prod.mk.injEq] at h
    obtain ⟨rfl, rfl⟩ := h
    exact ⟨[], ⟨rfl, rfl⟩, trivial, fun u hu => by cases hu⟩
  | x :: r, xs, ks, h => by
    unfold outT at h
    split at h
    · rename_i l ks1 hr
      split at h
      · rename_i c ks2 hc
        split at h
        · rename_i y hy
          simp only [Option.some.injEq, Prod.mk.injEq] at h
          obtain ⟨rfl, rfl⟩ := h
          obtain ⟨us, s1, s2, s3⟩ := outT_ok hw r l ks1 hr
          obtain ⟨k1, k2, k3⟩ := outK_ok hw s2 s3 (cvT x) c ks2 hc
          refine ⟨(cvT x).map (concC ν) ++ us, ?_, ?_, k2⟩
          · cases x with
            | inl p =>
              unfold mkX at hy
              split at hy <;> first | (cases hy; done) | skip
              all_goals (simp only [Option.some.injEq] at hy; subst hy)
              · exact ⟨_, _, _, rfl, rfl, s1⟩
              · rename_i heq; cases heq
              · rename_i heq; cases heq
            | inr k =>
              unfold mkX at hy
              split at hy <;> first | (cases hy; done) | skip
              all_goals (simp only [Option.some.injEq] at hy; subst hy)
              · rename_i heq; cases heq
              · exact ⟨_, _, _, rfl, rfl, s1⟩
              · rename_i heq; cases heq
            | st cs =>
              simp only [mkX, Option.some.injEq] at hy
              subst hy
              exact ⟨cs.map (concC ν), _, _, rfl, rfl, by rw [List.length_map]; exact k3.symm, s1⟩
          · have hf : flatX (y :: l) = c ++ flatX l := by
              unfold mkX at hy
              split at hy <;> first | (cases hy; done) | skip
              all_goals (simp only [Option.some.injEq] at hy; subst hy; rfl)
            rw [hf]; exact k1
        · cases h
      · cases h
    · cases h
theorem outS_ok {s : St} {w0 : Base} {w : World} {ν : Nu} {mem : Bool} (hw : WR w0 ν s.own mem w) {x : SV} {tup : Bool} {xs : List XV} (h : outS s x = some (tup, xs)) {v : Value} (hv : Is ν x v) : ∃ vs, v = outV tup vs ∧ OutOk w0.heap.size w xs vs := by
  unfold outS at h
  split at h
  · rename_i u
    simp only [Option.some.injEq, Prod.mk.injEq] at h
    obtain ⟨rfl, rfl⟩ := h
    exact ⟨[v], rfl, [v], ⟨v, [], [], rfl, rfl, rfl, rfl⟩, hv, trivial⟩
  · rename_i k
    split at h
    · rename_i l ks hl
      simp only [Option.some.injEq, Prod.mk.injEq] at h
      obtain ⟨rfl, rfl⟩ := h
      obtain ⟨us, s1, s2, _⟩ := outT_ok hw _ _ _ hl
      exact ⟨[ν.v k], hv, us, s1, s2⟩
    · cases h
  · rename_i l
    split at h
    · rename_i l' ks hl
      simp only [Option.some.injEq, Prod.mk.injEq] at h
      obtain ⟨rfl, rfl⟩ := h
      obtain ⟨us, s1, s2, _⟩ := outT_ok hw _ _ _ hl
      exact ⟨l.map (concT ν), hv, us, s1, s2⟩
    · cases h
  · rename_i cs
    split at h
    · rename_i l ks hl
      simp only [Option.some.injEq, Prod.mk.injEq] at h
      obtain ⟨rfl, rfl⟩ := h
      obtain ⟨us, s1, s2, _⟩ := outT_ok hw _ _ _ hl
      exact ⟨[.agg (cs.map (concC ν)).toArray], hv, us, s1, s2⟩
    · cases h
  · cases h
theorem fn_ok {E : Env} (HC : CallOk E) {fuel d : Nat} {plan : List Stop} {orc : List Bool} {f : FuncId} {fls : List (List Bool)} {args : List XV} {tup : Bool} {res : List XV} {l : List (Bool × Bool)} {tr : List Told}
    (h : simF E fuel d plan orc f fls args = some (tup, res, l, tr)) (hl : ∀ p ∈ l, p.1 = p.2) {fn : Func} (hfn : E.P.funcs[f]? = some fn) (w : World) (vals : List Value) (hG : Glob E w) (ha : ArgsOk w args vals)
    (htr : ∀ t ∈ tr, Sem E w (args.length + (fn.ntmps - args.length)) t.c t.s t.x t.s') : LRet E.P f vals tup res w := by
  unfold simF at h
  split at h
  · rename_i fn' hf
    rw [hfn] at hf
    obtain rfl := Option.some.inj hf
    split at h
    · rename_i c hbody
      split at h
      · rename_i x s' tr' hs
        cases hx : (match x with | some (some _) => false | _ => true)
        · rw [hx] at h; cases h
        · rw [hx] at h
          simp only [cond_true] at h
          split at h
          · rename_i r hr
            split at h
            · rename_i tup' res' hout
              simp only [Option.some.injEq, Prod.mk.injEq] at h
              obtain ⟨rfl, rfl, rfl, rfl⟩ := h
              let ν : Nu := ⟨fun _ => 0, fun k => ((listVals args vals)[k]?).getD undef⟩
              obtain ⟨i1, i2, i3, i4⟩ := initX_ok (fls := fls) (ν := ν) args vals 0 0 ha (fun j v hj => by show ((listVals args vals)[0 + j]?).getD undef = v; rw [Nat.zero_add, hj]; rfl)
              simp only [Nat.zero_add] at i2 i3
              have hg : Good { tmps := initS 0 (initX fls 0 0 args).1, own := ⟨[], (initX fls 0 0 args).2⟩, lo := 0, llo := (initX fls 0 0 args).2.length, mem := false, orc := orc, obl := [] } :=
                ⟨Nat.le_refl _, Nat.le_refl _, fun p hp => i3 _ (initS_mem' _ _ p hp), fun i b hi => by simp at hi⟩
              have hwr : WR (base0 w) ν ⟨[], (initX fls 0 0 args).2⟩ false w :=
                ⟨Below.refl _ _, fun i b hi => by simp at hi, fun i b hi => by simp at hi, fun i j hi => by simp at hi, fun k e hk hd => (by
                  obtain ⟨k1, k2⟩ := i2 k e hk
                  unfold LOk
                  rw [k1]; exact k2), fun k e hk hd ho => (by
                  rw [(i2 k e hk).1] at ho; exact absurd ho (by simp)), (fun _ => rfl), .void _ _ _⟩
              obtain ⟨_, _, _, hsem⟩ := simP_okA (w0 := base0 w) HC (.of hG) d plan [] c _ x s' [] tr' hg (.zero _) (okStop_zero _) hs
              have htr' := tr_init (args := (initX fls 0 0 args).1) i1 fn.ntmps { tmps := initS 0 (initX fls 0 0 args).1, own := ⟨[], (initX fls 0 0 args).2⟩, lo := 0, llo := (initX fls 0 0 args).2.length, mem := false, orc := orc, obl := [] }
              rw [i4] at htr'
              refine calls_of_wp hfn hbody (hsem hl htr _ ν _ w htr' hwr fun ν' a' w' _ ht' hw' => ?_)
              obtain ⟨v, hv, hres⟩ := simRes_ok hr ht' hw'
              obtain ⟨vs, rfl, hok⟩ := outS_ok hw' hout hv
              rcases x with _ | _ | i
              · exact bodyPost_end hres ht'.df ⟨vs, rfl, hok, hw'.below⟩
              · exact bodyPost_ret hres ht'.df ⟨vs, rfl, hok, hw'.below⟩
              · cases hx
            · cases h
          · cases h
      · cases h
    · cases h
  · cases h
theorem SemF.same {P : Program} {gl : Nat → Option (List Value)} {f : FuncId} {args : List SV} {own own' own2 : Mem} {r : SV} (h : SemF P gl f args own r own') (hb : own'.b = own2.b) (hl : sameL own'.l own2.l) : SemF P gl f args own r own2 := fun w0 hG ν w vs hvs hw =>
  (h w0 hG ν w vs hvs hw).mono fun e w' ⟨ν', v, h1, h2, h3, h4⟩ => ⟨ν', v, h1, h2, h3, h4.alike hb hl⟩
theorem SemF.from {P : Program} {gl : Nat → Option (List Value)} {f : FuncId} {args : List SV} {own own2 own' : Mem} {r : SV} (h : SemF P gl f args own r own') (hb : own2.b = own.b) (hl : sameL own2.l own.l) : SemF P gl f args own2 r own' := fun w0 hG ν w vs hvs hw =>
  (h w0 hG ν w vs hvs (hw.alike hb hl)).mono fun e w' ⟨ν', v, h1, h2, h3, h4⟩ => ⟨ν', v, by show Agree own2.b.length own2.l.length ν ν'; rw [hb, sameL_len hl]; exact h1, h2, h3, h4⟩
abbrev ETab := FuncId → Option (List SV → Mem → Option Eff)
def erow (k : FuncId) (dec : List SV → Mem → Option Eff) : ETab := fun f => bif Nat.beq f k then some dec else none
def orE (c1 c2 : ETab) : ETab := fun f => match c1 f with
  | some g => some g
  | none => c2 f
theorem EffOk.row {P : Program} {gl : Nat → Option (List Value)} {k : FuncId} {dec : List SV → Mem → Option Eff} (h : ∀ args own r, dec args own = some r → r.ok = true → SemF P gl k args own r.x (applyE own r)) : EffOk P gl (erow k dec) := fun f g args own r hf hg hr => by
  unfold erow at hf
  cases hb : Nat.beq f k
  · rw [hb] at hf; cases hf
  · rw [hb] at hf
    simp only [cond_true, Option.some.injEq] at hf
    subst hf
    have he : f = k := Nat.eq_of_beq_eq_true hb
    subst he
    exact h args own r hg hr
theorem EffOk.or {P : Program} {gl : Nat → Option (List Value)} {c1 c2 : ETab} (h1 : EffOk P gl c1) (h2 : EffOk P gl c2) : EffOk P gl (orE c1 c2) := fun f g args own r hf hg hr => by
  unfold orE at hf
  split at hf
  · rename_i g' hg'
    simp only [Option.some.injEq] at hf
    subst hf
    exact h1 f g' args own r hg' hg hr
  · exact h2 f g args own r hf hg hr
theorem all_nil : ∀ p ∈ ([] : List (Bool × Bool)), p.1 = p.2 := fun _ h => by cases h
theorem all_cons {b c : Bool} {l : List (Bool × Bool)} (h : b = c) (t : ∀ p ∈ l, p.1 = p.2) : ∀ p ∈ (b, c) :: l, p.1 = p.2 := fun p hp => by
  rcases List.mem_cons.mp hp with rfl | hp
  · exact h
  · exact t p hp
theorem ob_inI {x : Int} (h : -9223372036854775808 ≤ x ∧ x ≤ 9223372036854775807) : pre (inI x) = true := by unfold pre inI; exact decide_eq_true h
theorem ob_idx {n : Int} {len : Nat} (h : 0 ≤ n ∧ n < len) : pre (idxB n len) = true := by unfold pre idxB; exact decide_eq_true h
theorem ob_lt {j n : Nat} (h : j < n) : pre (decide (j < n)) = true := by unfold pre; exact decide_eq_true h
theorem ob_yes {p : Prop} [Decidable p] (h : p) : decide p = true := decide_eq_true h
theorem ob_no {p : Prop} [Decidable p] (h : ¬ p) : decide p = false := decide_eq_false h
abbrev LTab := FuncId → List XV → Option (Bool × List XV × Bool)
def noL : LTab := fun _ _ => none
def lrow (k : FuncId) (dec : List XV → Option (Bool × List XV × Bool)) : LTab := fun f args => bif Nat.beq f k then dec args else none
def orL (c1 c2 : LTab) : LTab := fun f args => match c1 f args with
  | some v => some v
  | none => c2 f args
def LTabOk (P : Program) (gl : Nat → Option (List Value)) (c : LTab) : Prop := ∀ f args tup res, c f args = some (tup, res, true) → ∀ w vals, GlobOk gl w → ArgsOk w args vals → LRet P f vals tup res w
theorem LTabOk.none (P : Program) (gl : Nat → Option (List Value)) : LTabOk P gl noL := fun _ _ _ _ h => by cases h
theorem LTabOk.row {P : Program} {gl : Nat → Option (List Value)} {k : FuncId} {dec : List XV → Option (Bool × List XV × Bool)} (h : ∀ args tup res, dec args = some (tup, res, true) → ∀ w vals, GlobOk gl w → ArgsOk w args vals → LRet P k vals tup res w) : LTabOk P gl (lrow k dec) := fun f args tup res hv w vals hG ha => by
  unfold lrow at hv
  cases hb : Nat.beq f k
  · rw [hb] at hv; cases hv
  · rw [hb] at hv
    have he : f = k := Nat.eq_of_beq_eq_true hb
    subst he
    exact h args tup res hv w vals hG ha
theorem LTabOk.or {P : Program} {gl : Nat → Option (List Value)} {c1 c2 : LTab} (h1 : LTabOk P gl c1) (h2 : LTabOk P gl c2) : LTabOk P gl (orL c1 c2) := fun f args tup res hv w vals hG ha => by
  unfold orL at hv
  split at hv
  · rename_i u hu
    simp only [Option.some.injEq] at hv
    subst hv
    exact h1 f args tup res hu w vals hG ha
  · exact h2 f args tup res hv w vals hG ha
def envq (P : Program) (gl : Nat → Option (List Value)) (c : Tab) (pc : PTab) (lc : LTab) : Env := { P := P, glob := gl, call := c, pcall := pc, lcall := lc, opq := true }
theorem envq_ok {P : Program} {gl : Nat → Option (List Value)} {c : Tab} {pc : PTab} {lc : LTab} (h1 : TabOk P gl c) (h2 : PTabOk P gl pc) (h3 : LTabOk P gl lc) : CallOk (envq P gl c pc lc) := ⟨h1, h2, h3, (fun _ _ _ _ h => by cases h), (fun _ _ _ h => by cases h), .none⟩
def envl (P : Program) (gl : Nat → Option (List Value)) (c : Tab) (pc : PTab) (lc : LTab) (ef : ETab) : Env := { P := P, glob := gl, call := c, pcall := pc, lcall := lc, opq := true, eff := ef, cut := true, lit := true }
theorem envl_ok {P : Program} {gl : Nat → Option (List Value)} {c : Tab} {pc : PTab} {lc : LTab} {ef : ETab} (h1 : TabOk P gl c) (h2 : PTabOk P gl pc) (h3 : LTabOk P gl lc) (h4 : EffOk P gl ef) : CallOk (envl P gl c pc lc ef) :=
  ⟨h1, h2, h3, (fun _ _ _ _ h => by cases h), (fun _ _ _ h => by cases h), h4⟩
theorem LRet.plain {P : Program} {f : FuncId} {vals : List Value} {v : Value} {w : World} (h : LRet P f vals false [.inl v] w) : Ret P f vals.toArray v w := h.mono fun e w' ⟨vs, he, ho, hb⟩ => by
  obtain rfl := outOk_v ho
  exact ⟨he, hb⟩
theorem ArgsOk.plain {w : World} : ∀ (l : List Value), ArgsOk w (l.map .inl) l
  | [] => trivial
  | v :: r => ⟨rfl, ArgsOk.plain r⟩
end Go.Proofs.YtiajbijbhhpllaaDoor.S2
namespace Go.Proofs.YtiajbijbhhpllaaDoor
open Go Go.RowKit Sim S2
noncomputable def propB (p : Prop) : Bool := @decide p (Classical.propDecidable p)
theorem propB_ok {p : Prop} : pre (propB p) = true ↔ p := by unfold pre propB; exact @decide_eq_true_iff p (Classical.propDecidable p)
end Go.Proofs.YtiajbijbhhpllaaDoor
namespace Go.Proofs.YtiajbijbhhpllaaDoor.S2
open Go Go.RowKit Sim
end Go.Proofs.YtiajbijbhhpllaaDoor.S2
namespace Go.Proofs.YtiajbijbhhpllaaDoor
open Go.RowKit Sim S2
theorem decodeZ_ex : ∃ g : Int → In, ∀ v, (∀ i, mayB i = true → encZ i = v → g v = i) ∧ ((∀ i, mayB i = true → encZ i ≠ v) → g v = ⟨0, 0, 0, 0, v, false, false⟩) := by
  have : ∀ v, ∃ x : In, (∀ i, mayB i = true → encZ i = v → x = i) ∧ ((∀ i, mayB i = true → encZ i ≠ v) → x = ⟨0, 0, 0, 0, v, false, false⟩) := fun v => by
    by_cases h : ∃ i, mayB i = true ∧ encZ i = v
    · obtain ⟨i, h1, h2⟩ := h
      exact ⟨i, fun k k1 k2 => enc_inj h1 k1 (h2.trans k2.symm), fun hn => absurd h2 (hn i h1)⟩
    · exact ⟨_, fun i h1 h2 => absurd ⟨i, h1, h2⟩ h, fun _ => rfl⟩
  exact Classical.axiomOfChoice this
noncomputable def decodeZ : Int → In := Classical.choose decodeZ_ex
theorem decodeZ_yes {i : In} {v : Int} (h1 : mayB i = true) (h2 : encZ i = v) : decodeZ v = i := (Classical.choose_spec decodeZ_ex v).1 i h1 h2
theorem decodeZ_no {v : Int} (h : ∀ i, mayB i = true → encZ i ≠ v) : decodeZ v = ⟨0, 0, 0, 0, v, false, false⟩ := (Classical.choose_spec decodeZ_ex v).2 h
noncomputable def decDecode : List Value → Option (Value × Bool)
  | [.int .u32 v] => some (inV (decodeZ v), pre (w32B v))
  | _ => none
end Go.Proofs.YtiajbijbhhpllaaDoor
