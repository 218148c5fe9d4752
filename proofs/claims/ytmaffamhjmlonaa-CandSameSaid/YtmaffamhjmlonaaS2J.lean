/- The evaluator with lists: regions that draw the order of their operations. No word of the program. -/
import Derived.Test.YtmaffamhjmlonaaS2G
set_option linter.unusedVariables false
set_option linter.unusedSimpArgs false
namespace Go.Proofs.Ytmaffamhjmlonaa.S2
open Go Go.RowKit Sim
theorem filter_le {p q : Nat -> Bool} (h : ∀ j, q j = true -> p j = true) : ∀ l : List Nat, (l.filter q).length <= (l.filter p).length
 | [] => Nat.le_refl _
 | x :: r => by
   have ih := filter_le h r
   cases hq : q x
   . rw [List.filter_cons_of_neg (by simp [hq])]
     cases hp : p x
     . rw [List.filter_cons_of_neg (by simp [hp])]; exact ih
     . rw [List.filter_cons_of_pos hp, List.length_cons]; omega
   . rw [List.filter_cons_of_pos hq, List.filter_cons_of_pos (h x hq), List.length_cons, List.length_cons]; omega
theorem filter_lt {p q : Nat -> Bool} (h : ∀ j, q j = true -> p j = true) {i : Nat} (hp : p i = true) (hq : q i = false) : ∀ l : List Nat, i ∈ l -> (l.filter q).length < (l.filter p).length
 | [], hi => by cases hi
 | x :: r, hi => by
   rcases List.mem_cons.mp hi with rfl | hi
   . rw [List.filter_cons_of_neg (by simp [hq]), List.filter_cons_of_pos hp, List.length_cons]
     have := filter_le h r
     omega
   . have ih := filter_lt h hp hq r hi
     cases hqx : q x
     . rw [List.filter_cons_of_neg (by simp [hqx])]
       cases hpx : p x
       . rw [List.filter_cons_of_neg (by simp [hpx])]; exact ih
       . rw [List.filter_cons_of_pos hpx, List.length_cons]; omega
     . rw [List.filter_cons_of_pos hqx, List.filter_cons_of_pos (h x hqx), List.length_cons, List.length_cons]; omega
def lstB (listed : Array Bool) (j : Nat) : Bool := listed.getD j false
def setL (L : Nat -> Bool) (i : Nat) : Nat -> Bool := fun j => if j = i then true else L j
theorem lstB_set {listed : Array Bool} {i : Nat} (h : i < listed.size) : lstB (listed.setIfInBounds i true) = setL (lstB listed) i := by
 funext j
 unfold lstB setL
 simp only [Array.getD_eq_getD_getElem?, Array.getElem?_setIfInBounds]
 by_cases hij : i = j
 . subst hij; simp [h]
 . rw [if_neg hij, if_neg (fun e => hij e.symm)]
theorem lstB_true {listed : Array Bool} {i : Nat} (h : i < listed.size) : listed.getD i true = lstB listed i := by
 unfold lstB; simp [Array.getD, h]
theorem wpAny_steps {P : Program} {ops : Array Oper} {Q : Exit -> Act -> World -> Prop} {I : (Nat -> Bool) -> Act -> World -> Prop}
   (step : ∀ L i o a w, ops[i]? = some o -> I L a w -> L i = false -> (∀ e ∈ o.after, Region.binds .any e = true -> L e.on = true) -> ∀ K : Act -> World -> Prop, (∀ a' w', I (setL L i) a' w' -> K a' w') -> wpOp P ops Q i K a w)
   (last : ∀ L a w, (∀ i, i < ops.size -> L i = true) -> I L a w -> Q .normal a w)
   (dep : ∀ i o, ops[i]? = some o -> ∀ e ∈ o.after, Region.binds .any e = true -> e.on < i) :
   ∀ (fuel : Nat) (listed : Array Bool) (a : Act) (w : World), listed.size = ops.size -> ((List.range ops.size).filter fun i => !lstB listed i).length <= fuel -> I (lstB listed) a w -> wpAny P .any ops Q fuel listed a w := by
 have done : ∀ listed : Array Bool, listed.size = ops.size -> Region.ready .any ops listed = [] -> ∀ i, i < ops.size -> lstB listed i = true := by
   intro listed hs hr i
   induction i using Nat.strongRecOn with
   | _ i ih =>
     intro hi
     cases hl : lstB listed i
     . exfalso
       have : i ∈ Region.ready .any ops listed := mem_ready.2 ⟨by rw [lstB_true (by omega)]; exact hl, ops[i], by simp [hi], fun e he hb => by
         have hlt := dep i ops[i] (by simp [hi]) e he hb
         exact ih e.on hlt (by omega)⟩
       rw [hr] at this; cases this
     . rfl
 intro fuel
 induction fuel with
 | zero =>
   intro listed a w hs hf hI
   have all : ∀ i, i < ops.size -> lstB listed i = true := fun i hi => by
     cases hl : lstB listed i
     . exfalso
       have : i ∈ (List.range ops.size).filter fun i => !lstB listed i := List.mem_filter.mpr ⟨List.mem_range.mpr hi, by simp [hl]⟩
       rw [List.length_eq_zero_iff.mp (Nat.le_zero.mp hf)] at this
       cases this
     . rfl
   refine ⟨?_, last _ a w all hI⟩
   cases hr : Region.ready .any ops listed with
   | nil => rfl
   | cons j r =>
     exfalso
     have hj : j ∈ Region.ready .any ops listed := by rw [hr]; exact List.mem_cons_self
     obtain ⟨h1, o, ho, _⟩ := mem_ready.1 hj
     have hjs : j < ops.size := by
       rcases Nat.lt_or_ge j ops.size with h | h
       . exact h
       . rw [Array.getElem?_eq_none h] at ho; cases ho
     rw [lstB_true (by omega), all j hjs] at h1
     cases h1
 | succ fuel ih =>
   intro listed a w hs hf hI
   refine ⟨fun hr => last _ a w (done listed hs hr) hI, fun i hi => ?_⟩
   obtain ⟨h1, o, ho, h2⟩ := mem_ready.1 hi
   have his : i < ops.size := by
     rcases Nat.lt_or_ge i ops.size with h | h
     . exact h
     . rw [Array.getElem?_eq_none h] at ho; cases ho
   rw [lstB_true (by omega)] at h1
   refine step (lstB listed) i o a w ho hI h1 h2 _ fun a' w' hI' => ?_
   refine ih (listed.setIfInBounds i true) a' w' (by simp [hs]) ?_ (by rw [lstB_set (by omega)]; exact hI')
   have hlt := filter_lt (p := fun j => !lstB listed j) (q := fun j => !lstB (listed.setIfInBounds i true) j) (fun j hj => by
     rw [lstB_set (by omega)] at hj
     unfold setL at hj
     by_cases hji : j = i
     . rw [if_pos hji] at hj; cases hj
     . rw [if_neg hji] at hj; exact hj) (i := i) (by simp [h1]) (by rw [lstB_set (by omega)]; simp [setL]) (List.range ops.size) (List.mem_range.mpr his)
   omega
theorem newsL_len (L L' : Nat -> Bool) : ∀ (ds : List Dn) (i k : Nat), (newsL L i ds).length = (newsL L' k ds).length
 | [], _, _ => rfl
 | d :: r, i, k => by
   unfold newsL
   cases d.e with
   | none => exact newsL_len L L' r _ _
   | some e => simp [newsL_len L L' r (i + 1) (k + 1)]
theorem newsL_none {L : Nat -> Bool} {i : Nat} {d : Dn} {r : List Dn} (h : d.e = none) : newsL L i (d :: r) = newsL L (i + 1) r := by simp [newsL, h]
theorem newsL_some {L : Nat -> Bool} {i : Nat} {d : Dn} {r : List Dn} {e : LE} (h : d.e = some e) : newsL L i (d :: r) = { e with dead := !L i } :: newsL L (i + 1) r := by simp [newsL, h]
theorem newsL_append (L : Nat -> Bool) : ∀ (ds ds' : List Dn) (i : Nat), newsL L i (ds ++ ds') = newsL L i ds ++ newsL L (i + ds.length) ds'
 | [], ds', i => rfl
 | d :: r, ds', i => by
   have ih := newsL_append L r ds' (i + 1)
   rw [show i + 1 + r.length = i + (d :: r).length by simp; omega] at ih
   show newsL L i (d :: (r ++ ds')) = _
   cases he : d.e with
   | none => rw [newsL_none he, newsL_none he]; exact ih
   | some e => rw [newsL_some he, newsL_some he, ih]; rfl
theorem newsL_congr {L L' : Nat -> Bool} : ∀ (ds : List Dn) (i : Nat), (∀ j, i <= j -> j < i + ds.length -> L j = L' j) -> newsL L i ds = newsL L' i ds
 | [], _, _ => rfl
 | d :: r, i, h => by
   have ih := newsL_congr r (i + 1) (fun j h1 h2 => h j (by omega) (by simp; omega))
   unfold newsL
   cases d.e with
   | none => exact ih
   | some e => simp only [ih, h i (Nat.le_refl _) (by simp)]
theorem newsL_le {F L : Nat -> Bool} (h : ∀ j, F j = true -> L j = true) : ∀ (ds : List Dn) (i p : Nat) (e : LE), (newsL F i ds)[p]? = some e -> e.dead = false -> (newsL L i ds)[p]? = some e
 | [], _, _, _, hp, _ => by simp [newsL] at hp
 | d :: r, i, p, e, hp, hd => by
   unfold newsL at hp ⊢
   cases he : d.e with
   | none => rw [he] at hp; exact newsL_le h r _ _ _ hp hd
   | some e' =>
     rw [he] at hp
     cases p with
     | zero =>
       simp at hp ⊢
       subst hp
       simp at hd
       simp [hd, h i hd]
     | succ p =>
       simp at hp ⊢
       exact newsL_le h r _ _ _ hp hd
theorem WR.kill {w0 : Base} {w : World} {ν : Nu} {own own' : Mem} {mem : Bool} (h : WR w0 ν own mem w) (hb : own'.b = own.b) (hl : ∀ (p : Nat) e, own'.l[p]? = some e -> e.dead = false -> own.l[p]? = some e) (hok : OkB own'.b.length own'.l.length own'.b) : WR w0 ν own' true w :=
 ⟨h.below, fun i b hi => h.blk i b (by rw [<- hb]; exact hi), hok, fun i j hi hj => h.inj i j (by rw [<- hb]; exact hi) (by rw [<- hb]; exact hj), fun p e hp hd => h.lst p e (hl p e hp hd) hd, fun p e hp hd ho g hg => by
   obtain ⟨s1, s2⟩ := h.sep p e (hl p e hp hd) hd ho g hg
   exact ⟨fun i hi => s1 i (by rw [<- hb]; exact hi), fun k' e' hk' hd' ho' hne => s2 k' e' (hl k' e' hk' hd') hd' ho' hne⟩, (fun h => by cases h), ⟨h.fr.here, fun i hi => h.fr.offb i (by rw [<- hb]; exact hi), fun p e hp hd ho g hg => h.fr.offl p e (hl p e hp hd) hd ho g hg⟩⟩
theorem WR.revive {w0 : Base} {w : World} {ν : Nu} {own : Mem} {mem : Bool} (h : WR w0 ν own mem w) {p : Nat} {e : LE} {v : Value} (hp : p < own.l.length) (ho : e.own = true) (hv : OwnB w0.heap.size w e v) (hf : ∀ g, v.ownBlock = some g -> Fresh ν own g) (hF : ∀ g, v.ownBlock = some g -> w0.F g = none) {m : Nat} (hm : m <= p) (hok : OkB own.b.length m own.b) :
   WR w0 (extV ν p v) { own with l := own.l.set p e } true w := by
 have vold : ∀ i, i ≠ p -> (extV ν p v).v i = ν.v i := fun i hi => by unfold extV; simp only; rw [if_neg hi]
 have old : ∀ i e', (own.l.set p e)[i]? = some e' -> (i ≠ p /\ own.l[i]? = some e') \/ (i = p /\ e' = e) := fun i e' hi => by
   by_cases hip : p = i
   . subst hip
     rw [List.getElem?_set_self hp] at hi
     simp only [qS] at hi
     exact .inr ⟨rfl, hi.symm⟩
   . rw [List.getElem?_set_ne hip] at hi
     exact .inl ⟨fun e => hip e.symm, hi⟩
 refine ⟨h.below, fun i b hi => ⟨(h.blk i b hi).1.congr (hok i b hi) ((extV_old ν own.b.length p v).mono (Nat.le_refl _) hm), (h.blk i b hi).2⟩, by simpa using h.okb, h.inj, fun i e' hi hd => ?_, fun i e' hi hd ho' g hb => ?_, (fun h => by cases h), ⟨h.fr.here, h.fr.offb, fun i e' hi hd ho' g hb => by
   rcases old i e' hi with ⟨hl, hi'⟩ | ⟨rfl, rfl⟩
   . rw [vold i hl] at hb; exact h.fr.offl i e' hi' hd ho' g hb
   . rw [extV_new] at hb; exact hF g hb⟩⟩
 . rcases old i e' hi with ⟨hl, hi'⟩ | ⟨rfl, rfl⟩
   . rw [vold i hl]; exact h.lst i e' hi' hd
   . rw [extV_new]; unfold LOk; rw [ho]; exact hv
 . rcases old i e' hi with ⟨hl, hi'⟩ | ⟨rfl, rfl⟩
   . rw [vold i hl] at hb
     obtain ⟨s1, s2⟩ := h.sep i e' hi' hd ho' g hb
     refine ⟨s1, fun i' e2 hi2 hd2 ho2 hne => ?_⟩
     rcases old i' e2 hi2 with ⟨hl', hi3⟩ | ⟨rfl, rfl⟩
     . rw [vold i' hl']; exact s2 i' e2 hi3 hd2 ho2 hne
     . rw [extV_new]
       intro heq
       exact (hf g heq).2 i e' hi' hd ho' hb
   . rw [extV_new] at hb
     refine ⟨(hf g hb).1, fun i' e2 hi2 hd2 ho2 hne => ?_⟩
     rcases old i' e2 hi2 with ⟨hl', hi3⟩ | ⟨rfl, rfl⟩
     . rw [vold i' hl']; exact (hf g hb).2 i' e2 hi3 hd2 ho2
     . exact absurd rfl hne
theorem getD_put (a : Act) (dst : Option Tmp) (v : Value) (t : Nat) : (a.put dst v).tmps.getD t undef = if dst = some t /\ t < a.tmps.size then v else a.tmps.getD t undef := by
 cases dst with
 | none => simp [Act.put]
 | some d =>
   simp only [Act.put, Array.getD_eq_getD_getElem?, Array.getElem?_setIfInBounds, qS]
   by_cases hdt : d = t
   . subst hdt
     by_cases hs : d < a.tmps.size <;> simp [hs]
   . simp [hdt]
theorem put_size (a : Act) (dst : Option Tmp) (v : Value) : (a.put dst v).tmps.size = a.tmps.size := by cases dst <;> simp [Act.put]
theorem put_defers' (a : Act) (dst : Option Tmp) (v : Value) : (a.put dst v).defers = a.defers := by cases dst <;> rfl
theorem dstIs_iff {o : Oper} {t : Nat} : dstIs o t = true ↔ o.dst = some t := by
 unfold dstIs
 cases o.dst with
 | none => simp
 | some u => simp
structure Dep (ops : Array Oper) (i : Nat) (o : Oper) : Prop where
 sel : ∀ cs b, o.op ≠ .select cs b
 low : ∀ e ∈ o.after, Region.binds .any e = true -> e.on < i
 looks : ∀ j, looksB ops o j = true -> j < i /\ ∃ e ∈ o.after, Region.binds .any e = true /\ e.on = j
 once : ∀ j oj t, ops[j]? = some oj -> o.dst = some t -> oj.dst = some t -> i = j
theorem depB_ok {ops : Array Oper} (h : depB ops = true) {i : Nat} {o : Oper} (ho : ops[i]? = some o) : Dep ops i o := by
 have lt : ∀ {j : Nat} {oj : Oper}, ops[j]? = some oj -> j < ops.size := fun {j oj} hj => by
   rcases Nat.lt_or_ge j ops.size with h | h
   . exact h
   . rw [Array.getElem?_eq_none h] at hj; cases hj
 have hi := List.all_eq_true.mp h i (List.mem_range.mpr (lt ho))
 rw [ho] at hi
 simp only [Bool.and_eq_true, List.all_eq_true] at hi
 obtain ⟨⟨⟨h1, h2⟩, h3⟩, h4⟩ := hi
 refine ⟨fun cs b e => by rw [e] at h1; simp [notSel] at h1, fun e he hb => ?_, fun j hj => ?_, fun j oj t hj hd hdj => ?_⟩
 . have := h2 e (by simpa using he)
   rw [hb] at this
   simpa [Nat.blt_eq] using this
 . have hjs : j < ops.size := by
     unfold looksB at hj
     split at hj
     . rename_i oj hoj; exact lt hoj
     . cases hj
   have := h3 j (List.mem_range.mpr hjs)
   rw [hj] at this
   simp only [Bool.not_true, Bool.false_or, Bool.and_eq_true, List.any_eq_true] at this
   obtain ⟨k1, e, he, hb, hon⟩ := this
   exact ⟨by simpa [Nat.blt_eq] using k1, e, by simpa using he, hb, qB hon⟩
 . have := h4 j (List.mem_range.mpr (lt hj))
   rw [hd, hj] at this
   simp only [Bool.or_eq_true] at this
   rcases this with h | h
   . exact qB h
   . rw [dstIs_iff.mpr hdj] at h; cases h
def KD (s0 : Mem) (ds : List Dn) : Prop := ∀ (i : Nat) d, ds[i]? = some d -> (d.e = none /\ okV s0.b.length s0.l.length d.x) \/ ∃ e, d.e = some e /\ e.own = true /\ e.dead = false /\ d.x = .c (s0.l.length + (newsL (fun _ => true) 0 (ds.take i)).length)
structure ID (n : Nat) (ops : Array Oper) (w0 : Base) (ν0 : Nu) (s0 : Mem) (a0 : Act) (ds : List Dn) (L : Nat -> Bool) (ν : Nu) (a : Act) (w : World) : Prop where
 ag : Agree s0.b.length s0.l.length ν0 ν
 size : a.tmps.size = n
 df : a.defers = []
 base : ∀ t, (∀ i o, ops[i]? = some o -> o.dst = some t -> L i = false) -> a.tmps.getD t undef = a0.tmps.getD t undef
 done : ∀ (i : Nat) o d t, ops[i]? = some o -> ds[i]? = some d -> o.dst = some t -> L i = true -> Is ν d.x (a.tmps.getD t undef)
 wr : WR w0 ν { s0 with l := s0.l ++ newsL L 0 ds } true w
theorem ID.put {n : Nat} {ops : Array Oper} {w0 : Base} {ν0 : Nu} {s0 : Mem} {a0 : Act} {ds : List Dn} {L : Nat -> Bool} {ν : Nu} {a : Act} {w : World} (h : ID n ops w0 ν0 s0 a0 ds L ν a w) (hdep : depB ops = true) (hK : KD s0 ds)
   {k : Nat} {o : Oper} {d : Dn} (ho : ops[k]? = some o) (hd : ds[k]? = some d) (hn : ∀ t, o.dst = some t -> t < n) {ν' : Nu} {v : Value} {w' : World} (hag : Agree s0.b.length s0.l.length ν ν')
   (hoth : ∀ (i : Nat) di, i ≠ k -> ds[i]? = some di -> ∀ e, di.e = some e -> ν'.v (s0.l.length + (newsL (fun _ => true) 0 (ds.take i)).length) = ν.v (s0.l.length + (newsL (fun _ => true) 0 (ds.take i)).length))
   (hv : Is ν' d.x v) (hw : WR w0 ν' { s0 with l := s0.l ++ newsL (setL L k) 0 ds } true w') : ID n ops w0 ν0 s0 a0 ds (setL L k) ν' (a.put o.dst v) w' := by
 refine ⟨h.ag.trans hag (Nat.le_refl _) (Nat.le_refl _), by rw [put_size, h.size], by rw [put_defers', h.df], fun t ht => ?_, fun i oi di t hoi hdi hti hL => ?_, hw⟩
 . rw [getD_put, if_neg]
   . refine h.base t fun i oi hoi hti => ?_
     have := ht i oi hoi hti
     unfold setL at this
     by_cases hik : i = k
     . rw [if_pos hik] at this; cases this
     . rw [if_neg hik] at this; exact this
   . intro ⟨hdt, _⟩
     have := ht k o ho hdt
     simp [setL] at this
 . rw [getD_put]
   by_cases hik : i = k
   . subst hik
     rw [ho] at hoi
     obtain rfl := Option.some.inj hoi
     rw [hd] at hdi
     obtain rfl := Option.some.inj hdi
     rw [if_pos ⟨hti, by rw [h.size]; exact hn t hti⟩]
     exact hv
   . have hne : ¬ (o.dst = some t /\ t < a.tmps.size) := fun ⟨hdt, _⟩ => hik ((depB_ok hdep hoi).once k o t ho hti hdt)
     rw [if_neg hne]
     have hLi : L i = true := by unfold setL at hL; rw [if_neg hik] at hL; exact hL
     have h0 := h.done i oi di t hoi hdi hti hLi
     rcases hK i di hdi with ⟨_, hok⟩ | ⟨e, he, _, _, hx⟩
     . exact Is_congr hok hag h0
     . rw [hx] at h0 ⊢
       show _ = ν'.v _
       rw [hoth i di hik hdi e he]; exact h0
def valD (L : Nat -> Bool) (a : Act) (ν : Nu) (i : Nat) (o : Oper) (d : Dn) : Value := match o.dst with
 | some t => if L i = true then a.tmps.getD t undef else conc ν d.x
 | none => undef
def actD (L : Nat -> Bool) (a : Act) (ν : Nu) : Nat -> List Oper -> List Dn -> Act -> Act
 | i, o :: r, d :: ds, b => actD L a ν (i + 1) r ds (b.put o.dst (valD L a ν i o d))
 | _, _, _, b => b
theorem actD_snoc (L : Nat -> Bool) (a : Act) (ν : Nu) (o : Oper) (d : Dn) : ∀ (os : List Oper) (ds : List Dn) (i : Nat) (b : Act), os.length = ds.length -> actD L a ν i (os ++ [o]) (ds ++ [d]) b = (actD L a ν i os ds b).put o.dst (valD L a ν (i + os.length) o d)
 | [], [], i, b, _ => rfl
 | [], _ :: _, _, _, h => by simp at h
 | _ :: _, [], _, _, h => by simp at h
 | p :: r, q :: ds, i, b, h => by
   have := actD_snoc L a ν o d r ds (i + 1) (b.put p.dst (valD L a ν i p q)) (by simpa using h)
   rw [show i + 1 + r.length = i + (p :: r).length by simp; omega] at this
   exact this
theorem actD_get (L : Nat -> Bool) (a : Act) (ν : Nu) (t : Nat) : ∀ (os : List Oper) (ds : List Dn) (i : Nat) (b : Act), os.length = ds.length -> a.tmps.size = b.tmps.size -> (∀ (j : Nat) o, os[j]? = some o -> o.dst = some t -> L (i + j) = true) ->
   (b.tmps.getD t undef = a.tmps.getD t undef \/ ∃ (j : Nat) (o : Oper), os[j]? = some o /\ o.dst = some t) -> (actD L a ν i os ds b).tmps.getD t undef = a.tmps.getD t undef
 | [], [], i, b, _, _, _, h => by
   rcases h with h | ⟨j, o, hj, _⟩
   . exact h
   . simp at hj
 | [], _ :: _, _, _, h, _, _, _ => by simp at h
 | _ :: _, [], _, _, h, _, _, _ => by simp at h
 | o :: r, d :: ds, i, b, hl, hs, hL, h => by
   show (actD L a ν (i + 1) r ds (b.put o.dst (valD L a ν i o d))).tmps.getD t undef = _
   refine actD_get L a ν t r ds (i + 1) _ (by simpa using hl) (by rw [put_size]; exact hs) (fun j oj hj ht => by have := hL (j + 1) oj (by simpa using hj) ht; rwa [show i + 1 + j = i + (j + 1) by omega]) ?_
   rw [getD_put]
   by_cases hdt : o.dst = some t
   . left
     have h0 : L i = true := by have := hL 0 o rfl hdt; rwa [Nat.add_zero] at this
     by_cases hts : t < b.tmps.size
     . rw [if_pos ⟨hdt, hts⟩]
       unfold valD
       simp only [hdt]
       rw [if_pos h0]
     . rw [if_neg (fun h => hts h.2)]
       simp [Array.getD, hts, hs]
   . rw [if_neg (fun h => hdt h.1)]
     rcases h with h | ⟨j, oj, hj, hjt⟩
     . exact .inl h
     . cases j with
       | zero => simp at hj; subst hj; exact absurd hjt hdt
       | succ j => exact .inr ⟨j, oj, by simpa using hj, hjt⟩
end Go.Proofs.Ytmaffamhjmlonaa.S2
namespace Go.Proofs.Ytmaffamhjmlonaa.S2
open Go Go.RowKit Sim
theorem getElem_of_getD {x y : Array Value} {t : Nat} (hs : x.size = y.size) (h : x.getD t undef = y.getD t undef) : x[t]? = y[t]? := by
 by_cases ht : t < x.size
 . have hy : t < y.size := by omega
   simp only [Array.getD, ht, hy, dite_true] at h
   rw [Array.getElem?_eq_getElem ht, Array.getElem?_eq_getElem hy]
   exact congrArg some h
 . rw [Array.getElem?_eq_none (by omega), Array.getElem?_eq_none (by omega)]
theorem exec_same {ops : Array Oper} {o : Oper} {a b : Act} (hs : ∀ cs b, o.op ≠ .select cs b) (h : ∀ t ∈ o.looksAt ops, b.tmps.getD t undef = a.tmps.getD t undef) : execOp a.eval o = execOp b.eval o :=
 execOp_congr o hs fun x hx => by
   cases x with
   | tmp t => exact (h t (List.mem_append_left _ (List.mem_filterMap.2 ⟨.tmp t, by simpa using hx, rfl⟩))).symm
   | _ => rfl
theorem wanted_same {ops : Array Oper} {o : Oper} {a b : Act} (hz : a.tmps.size = b.tmps.size) (h : ∀ t ∈ o.looksAt ops, b.tmps.getD t undef = a.tmps.getD t undef) : Region.wanted o (yielded ops a.tmps) = Region.wanted o (yielded ops b.tmps) := by
 unfold Region.wanted
 cases hg : o.guard with
 | none => rfl
 | some p =>
   obtain ⟨g, want⟩ := p
   have : yielded ops a.tmps g = yielded ops b.tmps g := by
     unfold yielded
     cases hd : (ops[g]?).bind (·.dst) with
     | none => rfl
     | some t =>
       have hm : t ∈ o.looksAt ops := by
         unfold Oper.looksAt
         rw [hg]
         refine List.mem_append_right _ ?_
         simp only [hd]; simp
       simp only [Option.bind_some]
       rw [getElem_of_getD hz (h t hm).symm]
   simp only [this]
theorem wantS_tm {n : Nat} {ops : Array Oper} {o : Oper} {s s1 : St} {t : Bool} (h : wantS n ops o s = some (t, s1)) : ∀ p ∈ s1.tmps, p ∈ s.tmps \/ ∃ b, p.2 = .inl ([], .bool b) := by
 unfold wantS at h
 split at h
 . simp only [qS, qP] at h
   obtain ⟨_, rfl⟩ := h
   exact fun p hp => .inl hp
 . split at h
   . rename_i d hd
     cases hb : Nat.blt d n
     . rw [hb] at h; cases h
     . rw [hb] at h
       simp only [cond_true] at h
       split at h
       . rename_i fl b hl
         simp only [qS, qP] at h
         obtain ⟨_, rfl⟩ := h
         obtain ⟨_, _, h3, _⟩ := ask_ok s fl b
         intro p hp
         rcases List.mem_cons.mp hp with rfl | hp
         . exact .inr ⟨_, rfl⟩
         . rw [h3] at hp; exact .inl hp
       . simp only [qS, qP] at h
         obtain ⟨_, rfl⟩ := h
         exact fun p hp => .inl hp
       . cases h
   . cases h
inductive StepD (E : Env) (n : Nat) (ops : Array Oper) (o : Oper) (pre : List Dn) (s : St) : Dn -> St -> Prop where
 | skip (s1) (h : wantS n ops o s = some (false, s1)) : StepD E n ops o pre s ⟨.inl ([], undef), none⟩ s1
 | ro (s1 x c q) (h : wantS n ops o s = some (true, s1)) (h1 : simRO E o (focus ops o pre s1) = some (x, c, q)) (h2 : okVB s1.own.b.length s1.own.l.length x = true) : StepD E n ops o pre s ⟨x, none⟩ { s1 with obl := more s1 q }
 | plain (s1 f args p s2) (h : wantS n ops o s = some (true, s1)) (h1 : callArgs (focus ops o pre s1) o = some (f, args)) (h2 : pcallS E f args (focus ops o pre s1) = some (.inl p, s2)) : StepD E n ops o pre s ⟨.inl p, none⟩ { s1 with obl := s2.obl }
 | lplain (s1 f args l fn v b) (h : wantS n ops o s = some (true, s1)) (h1 : callArgs (focus ops o pre s1) o = some (f, args)) (h2 : argsX (focus ops o pre s1) args = some l) (h3 : E.P.funcs[f]? = some fn) (h4 : (fn.name == "runtime.NumGoroutine") = false ∧ fn.body.isNone = false)
     (h5 : E.lcall f l = some (false, [.inl v], b)) : StepD E n ops o pre s ⟨.inl ([true], v), none⟩ { s1 with obl := (b, true) :: (subsO (focus ops o pre s1) args ++ s1.obl) }
 | lst (s1 f args l fn e b) (h : wantS n ops o s = some (true, s1)) (h1 : callArgs (focus ops o pre s1) o = some (f, args)) (h2 : argsX (focus ops o pre s1) args = some l) (h3 : E.P.funcs[f]? = some fn) (h4 : (fn.name == "runtime.NumGoroutine") = false ∧ fn.body.isNone = false)
     (h5 : E.lcall f l = some (false, [.inr e], b)) : StepD E n ops o pre s ⟨.c (s1.own.l.length + (newsL (fun _ => true) 0 pre).length), some { e with own := true, dead := false }⟩ { s1 with obl := (b, true) :: (subsO (focus ops o pre s1) args ++ s1.obl) }
 | lit (s1 x m q e) (h : wantS n ops o s = some (true, s1)) (h1 : simLX E o (focus ops o pre s1) = some (x, m, q)) (h2 : m.l.getLast? = some e) : StepD E n ops o pre s ⟨.c (s1.own.l.length + (newsL (fun _ => true) 0 pre).length), some e⟩ s1
 | eff (s1 f args p b) (h : wantS n ops o s = some (true, s1)) (h1 : callArgs (focus ops o pre s1) o = some (f, args)) (h2 : effP E f args s1.own = some (p, b)) : StepD E n ops o pre s ⟨.inl p, none⟩ { s1 with obl := (b, true) :: s1.obl }
 | mk (s1 e q) (h : wantS n ops o s = some (true, s1)) (h1 : simMK E o (focus ops o pre s1) = some (e, q)) : StepD E n ops o pre s ⟨.c (s1.own.l.length + (newsL (fun _ => true) 0 pre).length), some e⟩ { s1 with obl := more s1 q }
theorem simMK_some {E : Env} {o : Oper} {s : St} {e : LE} {q : List (Bool × Bool)} (h : simMK E o s = some (e, q)) : ∃ (t : TypeId) (l c : Operand) (f f2 : List Bool) (kl kc : IntKind) (n m : Int) (et : TypeId) (i : TypeInfo) (z : Value), o.op = .makeSlice t l c /\ ev s l = .inl (f, .int kl n) /\ ev s c = .inl (f2, .int kc m) /\ E.P.underlying t = some (.slice et) /\ E.P.info? et = some i /\ i.zero = some z /\ z.cells.size = i.size /\ 0 < i.size /\ z.cells.toList.all Value.oneCell' = true /\
   e = ⟨et, i.size, n.toNat, fun _ => z.cells.toList, true, false, anyF f⟩ /\ q = [(pre (decide (n = m /\ 0 <= n /\ i.bytes * n.toNat <= 281474976710656 /\ n.toNat <= maxLen)), true)] := by
 unfold simMK at h
 split at h
 . rename_i t l c ho
   split at h
   . rename_i f kl n f2 kc m et hl hc hu
     split at h
     . rename_i i hi
       split at h
       . rename_i z hz
         simp only [cond_eq_ite] at h
         split at h
         . rename_i hb
           simp only [Bool.and_eq_true] at hb
           simp only [qS, qP] at h
           obtain ⟨rfl, rfl⟩ := h
           exact ⟨t, l, c, f, f2, kl, kc, n, m, et, i, z, ho, hl, hc, hu, hi, hz, qB hb.1.1, by simpa [Nat.blt_eq] using hb.1.2, hb.2, rfl, rfl⟩
         . cases h
       . cases h
     . cases h
   . cases h
 . cases h
theorem lit_last {E : Env} {o : Oper} {s : St} {x : SV} {m : Mem} {q : List (Bool × Bool)} {e : LE} (h1 : simLX E o s = some (x, m, q)) (h2 : m.l.getLast? = some e) : ∃ t len parts cells et i, o.op = .buildSlice t len parts /\ parts.toList.all (fun p => isV (ev s p.2)) = true /\ litB E.P t len (parts.toList.map fun p => (p.1, rho s p.2)) = some (cells, et) /\ 0 < i /\ cells.length = len * i /\ cells.all Value.oneCell' = true /\ len <= 2 ^ 24 /\ e = ⟨et, i, len, tabE (chunks i len cells), true, false, true⟩ := by
 obtain ⟨t, len, parts, cells, et, i, ho, hb, hlit, hi, hsz, hlen, hone, hle, rfl, rfl, rfl⟩ := simLX_some h1
 simp only [List.getLast?_append, List.getLast?_singleton, Option.some_or, qS] at h2
 exact ⟨t, len, parts, cells, et, i.size, ho, hb, hlit, hsz, hlen, hone, hle, h2.symm⟩
theorem stepD_is {E : Env} {n : Nat} {ops : Array Oper} {o : Oper} {pre : List Dn} {s s1 : St} {d : Dn} (h : stepD E n ops o pre s = some (d, s1)) : StepD E n ops o pre s d s1 := by
 unfold stepD at h
 split at h
 . cases h
 . rename_i s0 hw
   simp only [qS, qP] at h
   obtain ⟨rfl, rfl⟩ := h
   exact .skip _ hw
 . rename_i s0 hw
   split at h
   . rename_i e q hmk
     simp only [qS, qP] at h
     obtain ⟨rfl, rfl⟩ := h
     exact .mk _ _ _ hw hmk
   . split at h
     . rename_i x c q hro
       cases hb : okVB s0.own.b.length s0.own.l.length x
       . rw [hb] at h; cases h
       . rw [hb] at h
         simp only [cond_true, qS, qP] at h
         obtain ⟨rfl, rfl⟩ := h
         exact .ro _ _ _ _ hw hro hb
     . split at h
       . rename_i x m q hlx
         split at h
         . rename_i e hla
           simp only [qS, qP] at h
           obtain ⟨rfl, rfl⟩ := h
           exact .lit _ _ _ _ _ hw hlx hla
         . cases h
       . split at h
         . cases h
         . rename_i f args hca
           split at h
           . rename_i p b hp
             simp only [qS, qP] at h
             obtain ⟨rfl, rfl⟩ := h
             exact .eff _ _ _ _ _ hw hca hp
           . split at h
             . rename_i p s2 hp
               simp only [qS, qP] at h
               obtain ⟨rfl, rfl⟩ := h
               exact .plain _ _ _ _ _ hw hca hp
             . cases h
             . split at h
               . rename_i l fn hl hf
                 cases hn : (fn.name == "runtime.NumGoroutine" || fn.body.isNone)
                 . rw [hn] at h
                   simp only [cond_false] at h
                   simp only [Bool.or_eq_false_iff] at hn
                   split at h
                   . rename_i v b hc
                     simp only [qS, qP] at h
                     obtain ⟨rfl, rfl⟩ := h
                     exact .lplain _ _ _ _ _ _ _ hw hca hl hf hn hc
                   . rename_i e b hc
                     simp only [qS, qP] at h
                     obtain ⟨rfl, rfl⟩ := h
                     exact .lst _ _ _ _ _ _ _ hw hca hl hf hn hc
                   . cases h
                 . rw [hn] at h; cases h
               . cases h
theorem StepD.st {E : Env} {n : Nat} {ops : Array Oper} {o : Oper} {pre : List Dn} {s s1 : St} {d : Dn} (h : StepD E n ops o pre s d s1) :
   s1.own = s.own /\ s1.mem = s.mem /\ s1.lo = s.lo /\ s1.llo = s.llo /\ (∀ p ∈ s.obl, p ∈ s1.obl) /\ (∀ p ∈ s1.tmps, p ∈ s.tmps \/ ∃ b, p.2 = .inl ([], .bool b)) /\
     ((d.e = none /\ okV s.own.b.length s.own.l.length d.x) \/ ∃ e, d.e = some e /\ e.own = true /\ e.dead = false /\ d.x = .c (s.own.l.length + (newsL (fun _ => true) 0 pre).length)) := by
 cases h with
 | skip _ h =>
   obtain ⟨k1, k2, k3, _⟩ := wantS_st h
   exact ⟨k2, k3, k1.lo, k1.llo, k1.ext, wantS_tm h, .inl ⟨rfl, trivial⟩⟩
 | ro s1 x c q h h1 h2 =>
   obtain ⟨k1, k2, k3, _⟩ := wantS_st h
   exact ⟨k2, k3, k1.lo, k1.llo, fun p hp => more_ext _ _ p (k1.ext p hp), wantS_tm (s1 := s1) h, .inl ⟨rfl, by rw [<- k2]; exact okVB_ok h2⟩⟩
 | plain s1 f args p s2 h h1 h2 =>
   obtain ⟨k1, k2, k3, _⟩ := wantS_st h
   obtain ⟨l, v, b, fn, fl, _, _, _, _, _, _, rfl⟩ := pcallS_some h2
   exact ⟨k2, k3, k1.lo, k1.llo, fun p hp => List.mem_cons_of_mem _ (k1.ext p hp), wantS_tm (s1 := s1) h, .inl ⟨rfl, trivial⟩⟩
 | lplain s1 f args l fn v b h h1 h2 h3 h4 h5 =>
   obtain ⟨k1, k2, k3, _⟩ := wantS_st h
   exact ⟨k2, k3, k1.lo, k1.llo, fun p hp => List.mem_cons_of_mem _ (List.mem_append_right _ (k1.ext p hp)), wantS_tm (s1 := s1) h, .inl ⟨rfl, trivial⟩⟩
 | lst s1 f args l fn e b h h1 h2 h3 h4 h5 =>
   obtain ⟨k1, k2, k3, _⟩ := wantS_st h
   exact ⟨k2, k3, k1.lo, k1.llo, fun p hp => List.mem_cons_of_mem _ (List.mem_append_right _ (k1.ext p hp)), wantS_tm (s1 := s1) h, .inr ⟨_, rfl, rfl, rfl, by rw [k2]⟩⟩
 | lit s1 x m q e h h1 h2 =>
   obtain ⟨k1, k2, k3, _⟩ := wantS_st h
   obtain ⟨t, len, parts, cells, et, i, _, _, _, _, _, _, _, rfl⟩ := lit_last h1 h2
   exact ⟨k2, k3, k1.lo, k1.llo, k1.ext, wantS_tm (s1 := s1) h, .inr ⟨_, rfl, rfl, rfl, by rw [k2]⟩⟩
 | eff s1 f args p b h h1 h2 =>
   obtain ⟨k1, k2, k3, _⟩ := wantS_st h
   exact ⟨k2, k3, k1.lo, k1.llo, fun p hp => List.mem_cons_of_mem _ (k1.ext p hp), wantS_tm (s1 := s1) h, .inl ⟨rfl, trivial⟩⟩
 | mk s1 e q h h1 =>
   obtain ⟨k1, k2, k3, _⟩ := wantS_st h
   obtain ⟨t, l, c, f, f2, kl, kc, n, m, et, i, z, _, _, _, _, _, _, _, _, _, rfl, rfl⟩ := simMK_some h1
   exact ⟨k2, k3, k1.lo, k1.llo, fun p hp => more_ext _ _ p (k1.ext p hp), wantS_tm (s1 := s1) h, .inr ⟨_, rfl, rfl, rfl, by rw [k2]⟩⟩
theorem simD_st {E : Env} {n : Nat} {ops : Array Oper} {s0 : Mem} : ∀ (rest : List Oper) (pre : List Dn) (s : St) (ds : List Dn) (s' : St), simD E n ops rest pre s = some (ds, s') -> s.own = s0 -> KD s0 pre -> (∀ p ∈ s.tmps, okV s0.b.length (s0.l.length + (newsL (fun _ => true) 0 pre).length) p.2) ->
   (∃ r, ds = pre ++ r /\ r.length = rest.length) /\ s'.own = s0 /\ s'.mem = s.mem /\ s'.lo = s.lo /\ s'.llo = s.llo /\ (∀ p ∈ s.obl, p ∈ s'.obl) /\ KD s0 ds /\ ∀ p ∈ s'.tmps, okV s0.b.length (s0.l.length + (newsL (fun _ => true) 0 ds).length) p.2
 | [], pre, s, ds, s', h, ho, hK, ht => by
   simp only [simD, qS, qP] at h
   obtain ⟨rfl, rfl⟩ := h
   exact ⟨⟨[], by simp, rfl⟩, ho, rfl, rfl, rfl, fun p hp => hp, hK, ht⟩
 | o :: rest, pre, s, ds, s', h, ho, hK, ht => by
   unfold simD at h
   split at h
   . rename_i d s1 hs
     split at h
     . rename_i s2 hp
       obtain ⟨h1, h2, h3, h4, h5, h6, h7⟩ := (stepD_is hs).st
       obtain ⟨p1, p2, p3, p4, p5, p6⟩ := putS_keep hp
       have hK' : KD s0 (pre ++ [d]) := fun i di hi => by
         rcases Nat.lt_or_ge i pre.length with hl | hl
         . rw [List.getElem?_append_left hl] at hi
           rw [List.take_append_of_le_length (by omega)]
           exact hK i di hi
         . have hl2 : i = pre.length := by
             have := lt_of_some_list hi
             simp at this; omega
           subst hl2
           simp at hi
           subst hi
           rw [List.take_left]
           rw [ho] at h7; exact h7
       have hlen : (newsL (fun _ => true) 0 pre).length <= (newsL (fun _ => true) 0 (pre ++ [d])).length := by rw [newsL_append]; simp
       obtain ⟨⟨r, r1, r2⟩, k2, k3, k4, k5, k6, k7, k8⟩ := simD_st rest (pre ++ [d]) s2 ds s' h (by rw [p2, h1, ho]) hK' (fun p hp' => by
         have done : ∀ p ∈ s1.tmps, okV s0.b.length (s0.l.length + (newsL (fun _ => true) 0 (pre ++ [d])).length) p.2 := fun p hp' => by
           rcases h6 p hp' with h | ⟨b, h⟩
           . exact (ht p h).mono (Nat.le_refl _) (by omega)
           . rw [h]; trivial
         rcases p6 p hp' with h | h
         . exact done p h
         . rw [h]
           rw [ho] at h7
           rcases h7 with ⟨_, hx⟩ | ⟨e, he, _, _, hx⟩
           . exact hx.mono (Nat.le_refl _) (by omega)
           . rw [hx, newsL_append, newsL_some he]
             show _ < _
             simp)
       refine ⟨⟨d :: r, by rw [r1]; simp, by simp [r2]⟩, k2, by rw [k3, p3, h2], by rw [k4, p4, h3], by rw [k5, p5, h4], fun p hp' => k6 p (by rw [p1]; exact h5 p hp'), k7, k8⟩
     . cases h
   . cases h
theorem cnt_lt (F : Nat -> Bool) : ∀ (ds : List Dn) (i k o : Nat) {di : Dn} {e : LE}, i < k -> ds[i]? = some di -> di.e = some e -> (newsL F o (ds.take i)).length < (newsL F o (ds.take k)).length
 | [], i, k, o, di, e, _, h, _ => by simp at h
 | d :: r, 0, k + 1, o, di, e, _, h, he => by
   simp at h
   subst h
   rw [List.take_succ_cons, newsL_some he]
   simp [newsL]
 | d :: r, i + 1, k + 1, o, di, e, hik, h, he => by
   have ih := cnt_lt F r i k (o + 1) (by omega) (by simpa using h) he
   rw [List.take_succ_cons, List.take_succ_cons]
   cases hd : d.e with
   | none => rw [newsL_none hd, newsL_none hd]; exact ih
   | some e' => rw [newsL_some hd, newsL_some hd, List.length_cons, List.length_cons]; omega
 | d :: r, i, 0, o, di, e, hik, _, _ => by omega
theorem cntN_lt (F : Nat -> Bool) (ds : List Dn) (i o : Nat) {di : Dn} {e : LE} (h : ds[i]? = some di) (he : di.e = some e) : (newsL F o (ds.take i)).length < (newsL F o ds).length := by
 have hlt := lt_of_some_list h
 have hd : ds = ds.take i ++ di :: ds.drop (i + 1) := by
   obtain ⟨h1, h2⟩ := List.getElem?_eq_some_iff.mp h
   rw [<- h2, <- List.drop_eq_getElem_cons h1, List.take_append_drop]
 conv => rhs; rw [hd]
 rw [newsL_append, newsL_some he]
 simp
theorem Fresh.of {w0 : Base} {w w' : World} {ν : Nu} {own : Mem} {mem : Bool} (h : WR w0 ν own mem w) {e : LE} {v : Value} (ho : OwnB w.heap.size w' e v) : ∀ g, v.ownBlock = some g -> Fresh ν own g := fun g hg => by
 have hge := (ho.2.lt g hg).1
 exact ⟨fun i hi heq => by have := h.lt hi; omega, fun k e' hk hd ho' heq => by have := (h.rowLt hk hd ho' heq).2; omega⟩
theorem StepD.ok {E : Env} (HC : CallOk E) {w0 : Base} (hG : GlobB E w0) {n : Nat} {ops : Array Oper} {o : Oper} {pre : List Dn} {s s1 : St} {d : Dn} (h : StepD E n ops o pre s d s1) (hh : Holds' s1) (hdep : depB ops = true) {s0 : Mem} (hs : s.own = s0) (hok : OkB s0.b.length s0.l.length s0.b)
   {ds rest : List Dn} (hD : ds = pre ++ d :: rest) (hK : KD s0 ds) (ho : ops[pre.length]? = some o) (hn : ∀ t, o.dst = some t -> t < n) {L : Nat -> Bool} {ν0 : Nu} {a0 : Act} {ν : Nu} {a b : Act} {w : World} (hI : ID n ops w0 ν0 s0 a0 ds L ν a w) (ht : TR n ν s b)
   (hL : L pre.length = false) (hr : ∀ e ∈ o.after, Region.binds .any e = true -> L e.on = true) (hlook : ∀ t ∈ o.looksAt ops, b.tmps.getD t undef = a.tmps.getD t undef) {Q : Exit -> Act -> World -> Prop} {K : Act -> World -> Prop}
   (hQ : ∀ ν' v w', ID n ops w0 ν0 s0 a0 ds (setL L pre.length) ν' (a.put o.dst v) w' -> K (a.put o.dst v) w') : wpOp E.P ops Q pre.length K a w := by
 have dep := depB_ok hdep ho
 have hd : ds[pre.length]? = some d := by rw [hD]; simp
 have hexec := exec_same (a := a) (b := b) dep.sel hlook
 have hwant := wanted_same (a := a) (b := b) (hI.size.trans ht.size.symm) hlook
 have hlast := h.st.2.2.2.2.2.2
 have looks : ∀ j, looksB ops o j = true -> L j = true := fun j hj => by
   obtain ⟨_, e, he, hb, hon⟩ := dep.looks j hj
   rw [<- hon]; exact hr e he hb
 have hset : ∀ j, j ≠ pre.length -> setL L pre.length j = L j := fun j hj => by unfold setL; rw [if_neg hj]
 have c1 : newsL (setL L pre.length) 0 pre = newsL L 0 pre := newsL_congr pre 0 fun j _ hj => hset j (by omega)
 have c2 : newsL (setL L pre.length) (0 + pre.length + 1) rest = newsL L (0 + pre.length + 1) rest := newsL_congr rest _ fun j hj _ => hset j (by omega)
 have none_ : d.e = none -> newsL (setL L pre.length) 0 ds = newsL L 0 ds := fun he => by
   rw [hD, newsL_append, newsL_append, newsL_none he, newsL_none he, c1, c2]
 have go : ∀ (v : Value) (w' : World), d.e = none -> Is ν d.x v -> WR w0 ν { s0 with l := s0.l ++ newsL L 0 ds } true w' -> K (a.put o.dst v) w' := fun v w' he hv hw =>
   hQ ν _ w' (hI.put hdep hK ho hd hn (Agree.refl _ _ _) (fun _ _ _ _ _ _ => rfl) hv (by rw [none_ he]; exact hw))
 have wrF : ∀ s2 : St, s2.own = s.own -> WR w0 ν (focus ops o pre s2).own true w := fun s2 he => by
   refine hI.wr.kill (by show s2.own.b = s0.b; rw [he, hs]) (fun p e hp hde => ?_) ?_
   . have hp : (s2.own.l ++ newsL (looksB ops o) 0 pre)[p]? = some e := hp
     rw [he, hs] at hp
     show (s0.l ++ newsL L 0 ds)[p]? = some e
     rcases Nat.lt_or_ge p s0.l.length with hl | hl
     . rw [List.getElem?_append_left hl] at hp ⊢; exact hp
     . rw [List.getElem?_append_right hl] at hp ⊢
       have := newsL_le looks pre 0 _ e hp hde
       rw [hD, newsL_append, List.getElem?_append_left (lt_of_some_list this)]
       exact this
   . show OkB s2.own.b.length (s2.own.l ++ newsL (looksB ops o) 0 pre).length s2.own.b
     rw [he, hs]
     exact hok.mono (Nat.le_refl _) (by simp)
 have new : ∀ (e : LE) (u : Value) (w' : World), ds = pre ++ ⟨d.x, some { e with own := true, dead := false }⟩ :: rest -> d.x = .c (s0.l.length + (newsL (fun _ => true) 0 pre).length) -> Below w.heap.size w w' -> OwnB w.heap.size w' e u -> K (a.put o.dst u) w' := fun e u w' hD hx hbel hou => by
   have hpl : (newsL (fun _ => true) 0 pre).length = (newsL L 0 pre).length := newsL_len _ _ pre 0 0
   have hpos : (newsL L 0 ds) = newsL L 0 pre ++ ({ e with own := true, dead := !L (0 + pre.length) } : LE) :: newsL L (0 + pre.length + 1) rest := by rw [hD, newsL_append, newsL_some rfl]
   have hrow : OwnB w0.heap.size w' { e with own := true, dead := false } u := (show OwnB w.heap.size w' e u from hou).more hI.wr.below.size
   have hfr : ∀ g, u.ownBlock = some g -> Fresh ν { s0 with l := s0.l ++ newsL L 0 ds } g := Fresh.of hI.wr hou
   have hlt : s0.l.length + (newsL L 0 pre).length < (s0.l ++ newsL L 0 ds).length := by rw [hpos]; simp
   have hrev := (hI.wr.grown hbel).revive (p := s0.l.length + (newsL L 0 pre).length) hlt (e := { e with own := true, dead := false }) rfl hrow hfr (fun g hg => hI.wr.fr.fresh (hou.2.lt g hg).1) (m := s0.l.length) (by omega) hok
   have hnew : (s0.l ++ newsL L 0 ds).set (s0.l.length + (newsL L 0 pre).length) { e with own := true, dead := false } = s0.l ++ newsL (setL L pre.length) 0 ds := by
     rw [List.set_append_right _ _ (by omega), show s0.l.length + (newsL L 0 pre).length - s0.l.length = (newsL L 0 pre).length by omega, hpos, List.set_append_right _ _ (Nat.le_refl _), Nat.sub_self, List.set_cons_zero]
     rw [hD, newsL_append, newsL_some rfl, c1, c2]
     simp [setL]
   have hdn : ds[pre.length]? = some ⟨d.x, some { e with own := true, dead := false }⟩ := by rw [hD]; simp
   refine hQ _ _ w' (hI.put (d := ⟨d.x, some { e with own := true, dead := false }⟩) hdep hK ho hdn hn ((extV_old ν s0.b.length (s0.l.length + (newsL L 0 pre).length) u).mono (Nat.le_refl _) (by omega)) (fun i di hik hdi e' he' => ?_) (v := u) ?_ (by rw [<- hnew]; exact hrev))
   . unfold extV
     simp only
     rw [if_neg]
     intro heq
     have hlen : (newsL (fun _ => true) 0 (ds.take i)).length = (newsL (fun _ => true) 0 (ds.take pre.length)).length := by rw [hD, List.take_left, <- hD, hpl]; omega
     rcases Nat.lt_or_ge i pre.length with hl | hl
     . have := cnt_lt (fun _ => true) ds i pre.length 0 hl hdi he'
       omega
     . have := cnt_lt (fun _ => true) ds pre.length i 0 (by omega) hdn rfl
       omega
   . show Is _ d.x u
     rw [hx]
     show u = (extV ν _ u).v _
     rw [hpl, extV_new]
 unfold wpOp
 simp only [ho]
 cases h with
 | skip _ h =>
   obtain ⟨hwn, _⟩ := wantS_ok h hh ht
   rw [if_neg (by rw [hwant, hwn]; simp)]
   exact go undef w rfl rfl hI.wr
 | ro s1 x c q h h1 h2 =>
   obtain ⟨k1, k2, k3, _⟩ := wantS_st h
   obtain ⟨hq, hh1⟩ := more_q (s := s1) (q := q) hh
   obtain ⟨hwn, ht1⟩ := wantS_ok h hh1 ht
   rw [if_pos (by rw [hwant, hwn])]
   left
   have hV : okV (focus ops o pre s1).own.b.length (focus ops o pre s1).own.l.length x := (okVB_ok h2).mono (Nat.le_refl _) (by show _ <= (s1.own.l ++ _).length; simp)
   obtain ⟨v, hv, hdo⟩ := simRO_ok (mem := true) h1 hq (ht1.of rfl) hG hV
   unfold Oper.wp
   rw [hexec]
   rcases hdo with ⟨rfl, hdo⟩ | ⟨rfl, f, args, hf, hdo⟩
   . rw [hdo w (wrF s1 k2), Oper.upon_value]
     exact go v w rfl hv hI.wr
   . rw [hdo w, Oper.upon_enter]
     refine (HC.1 f args _ hf w (hG.below hI.wr.below)).mono fun e w' ⟨he, hb⟩ => ?_
     subst he
     exact go v w' rfl hv (hI.wr.grown hb)
 | plain s1 f args p s2 h h1 h2 =>
   obtain ⟨k1, k2, k3, _⟩ := wantS_st h
   obtain ⟨l, v, bb, fn, fl, hl, hb, hf, hn1, hbody, hx, rfl⟩ := pcallS_some h2
   simp only [SV.inl.injEq] at hx
   subst hx
   have e : bb = true := hh (bb, true) List.mem_cons_self
   subst e
   obtain ⟨hwn, ht1⟩ := wantS_ok h (fun p hp => hh p (List.mem_cons_of_mem _ hp)) ht
   rw [if_pos (by rw [hwant, hwn])]
   left
   obtain ⟨vs, hvs, hrun⟩ := callArgs_run (P := E.P) h1 (ht1.of (s' := focus ops o pre s1) rfl)
   unfold Oper.wp
   rw [hexec, hrun ⟨fn, hf, hn1, hbody⟩ w, Oper.upon_enter, argsV_isL hl hvs]
   refine (HC.2.1 f l v hb w (hG.below hI.wr.below)).mono fun e w' ⟨he, hbel⟩ => ?_
   subst he
   exact go v w' rfl rfl (hI.wr.grown hbel)
 | lplain s1 f args l fn v bb h h1 h2 h3 h4 h5 =>
   obtain ⟨k1, k2, k3, _⟩ := wantS_st h
   have e : bb = true := hh (bb, true) List.mem_cons_self
   subst e
   obtain ⟨hwn, ht1⟩ := wantS_ok h (fun p hp => hh p (List.mem_cons_of_mem _ (List.mem_append_right _ hp))) ht
   rw [if_pos (by rw [hwant, hwn])]
   left
   obtain ⟨vs, hvs, hrun⟩ := callArgs_run (P := E.P) h1 (ht1.of (s' := focus ops o pre s1) rfl)
   unfold Oper.wp
   rw [hexec, hrun ⟨fn, h3, h4.1, h4.2⟩ w, Oper.upon_enter]
   refine (HC.2.2.1 f l false _ h5 w vs (hG.below hI.wr.below) (argsX_ok (wrF s1 k2) h2 (fun p hp => hh p (List.mem_cons_of_mem _ (List.mem_append_left _ hp))) hvs)).mono fun e w' ⟨us, he, hout, hbel⟩ => ?_
   obtain rfl := outOk_v hout
   subst he
   exact go v w' rfl rfl (hI.wr.grown hbel)
 | lst s1 f args l fn e bb h h1 h2 h3 h4 h5 =>
   obtain ⟨k1, k2, k3, _⟩ := wantS_st h
   have eb : bb = true := hh (bb, true) List.mem_cons_self
   subst eb
   obtain ⟨hwn, ht1⟩ := wantS_ok h (fun p hp => hh p (List.mem_cons_of_mem _ (List.mem_append_right _ hp))) ht
   rw [if_pos (by rw [hwant, hwn])]
   left
   obtain ⟨vs, hvs, hrun⟩ := callArgs_run (P := E.P) h1 (ht1.of (s' := focus ops o pre s1) rfl)
   unfold Oper.wp
   rw [hexec, hrun ⟨fn, h3, h4.1, h4.2⟩ w, Oper.upon_enter]
   refine (HC.2.2.1 f l false _ h5 w vs (hG.below hI.wr.below) (argsX_ok (wrF s1 k2) h2 (fun p hp => hh p (List.mem_cons_of_mem _ (List.mem_append_left _ hp))) hvs)).mono fun ee w' ⟨us, he, hout, hbel⟩ => ?_
   obtain ⟨u, rfl, hou⟩ := outOk_l hout
   subst he
   exact new _ u w' hD.symm.symm (by rw [k2, hs]) hbel hou
 | lit s1 x m q e h h1 h2 =>
   obtain ⟨k1, k2, k3, _⟩ := wantS_st h
   obtain ⟨hwn, ht1⟩ := wantS_ok h hh ht
   rw [if_pos (by rw [hwant, hwn])]
   left
   obtain ⟨t, len, parts, cells, et, i, hop, hall, hlit, hsz, hlen, hone, hle, rfl⟩ := lit_last h1 h2
   have htf : TR n ν (focus ops o pre s1) b := ht1.of rfl
   have hp : (parts.map fun (i, x) => (i, b.eval x)) = (parts.toList.map fun p => (p.1, rho (focus ops o pre s1) p.2)).toArray := by
     rw [<- Array.toArray_toList (xs := parts.map _), Array.toList_map]
     congr 1
     refine List.map_congr_left fun p hp => ?_
     rw [List.all_eq_true] at hall
     show (p.1, b.eval p.2) = _
     rw [eval_rho htf (hall p hp)]
   have hr' : (execOp b.eval o).run E.P w = .ok (.value (.slice (some ⟨w.heap.size, 0, none⟩) len len)) (w.alloc (.cells cells.toArray et)) := by
     simp only [execOp, hop, hp, Sem.run_bind, run_litB hlit w, Result.andThen_ok, Sem.run_pure]
   unfold Oper.wp
   rw [hexec, hr', Oper.upon_value]
   have hfl := chunks_flat hsz hlen
   have hbel : Below w.heap.size w (w.alloc (.cells cells.toArray et)) := (Below.refl _ w).alloc (Nat.le_refl _) _
   have hou : OwnB w.heap.size (w.alloc (.cells cells.toArray et)) ⟨et, i, len, tabE (chunks i len cells), true, false, true⟩ (.slice (some ⟨w.heap.size, 0, none⟩) len len) := by
     refine ⟨⟨hsz, fun j hj => ?_⟩, ?_⟩
     . have hj : j < len := hj
       have hm : j * i + i <= len * i := by
         have := Nat.mul_le_mul_right i (show j + 1 <= len from hj)
         rwa [Nat.add_mul, Nat.one_mul] at this
       show (tabE (chunks i len cells) j).length = i /\ (tabE (chunks i len cells) j).all Value.oneCell' = true
       rw [tabE_chunks i len cells j hj]
       exact ⟨by rw [List.length_take, List.length_drop]; omega, List.all_eq_true.mpr fun x hx => List.all_eq_true.mp hone x (List.mem_of_mem_drop (List.mem_of_mem_take hx))⟩
     . show (World.alloc w _).ownsRow w.heap.size et i _ len ((List.range len).flatMap (tabE (chunks i len cells)))
       rw [hfl]
       exact ⟨hlen, .inr ⟨w.heap.size, len, cells.toArray, rfl, Nat.le_refl _, heap_alloc_new w _, Nat.le_refl _, by unfold maxLen; omega, by rw [List.size_toArray]; exact hlen, List.take_of_length_le (by show cells.length <= _; omega)⟩⟩
   exact new _ _ _ hD.symm.symm (by rw [k2, hs]) hbel hou
 | eff s1 f args p bb h h1 h2 =>
   obtain ⟨k1, k2, k3, _⟩ := wantS_st h
   have e : bb = true := hh (bb, true) List.mem_cons_self
   subst e
   obtain ⟨hwn, ht1⟩ := wantS_ok h (fun p hp => hh p (List.mem_cons_of_mem _ hp)) ht
   rw [if_pos (by rw [hwant, hwn])]
   left
   obtain ⟨vs, hvs, hrun⟩ := callArgs_run (P := E.P) h1 (ht1.of (s' := focus ops o pre s1) rfl)
   rw [k2, hs] at h2
   obtain ⟨hfn, hcalls⟩ := effP_ok HC.2.2.2.2.2 hG h2 (ex := newsL L 0 ds) hvs hI.wr
   unfold Oper.wp
   rw [hexec, hrun hfn w, Oper.upon_enter]
   refine hcalls.mono fun e w' ⟨ν', hag, he, hw'⟩ => ?_
   subst he
   refine hQ ν' _ w' (hI.put hdep hK ho hd hn (hag.mono (Nat.le_refl _) (Nat.le_add_right _ _)) (fun i di hik hdi e' he' => ?_) (v := p.2) rfl (by rw [none_ rfl]; exact hw'))
   refine (hag.2 _ ?_).symm
   have := cntN_lt (fun _ => true) ds i 0 hdi he'
   rw [newsL_len L (fun _ => true) ds 0 0]
   omega
 | mk s1 e q h h1 =>
   obtain ⟨k1, k2, k3, _⟩ := wantS_st h
   obtain ⟨hq, hh1⟩ := more_q (s := s1) (q := q) hh
   obtain ⟨hwn, ht1⟩ := wantS_ok h hh1 ht
   rw [if_pos (by rw [hwant, hwn])]
   left
   have htf : TR n ν (focus ops o pre s1) b := ht1.of rfl
   obtain ⟨t, l, c, f, f2, kl, kc, k, m, et, i, z, hop, hln, hcn, hu, hi, hz, hsz, h0, hone, rfl, rfl⟩ := simMK_some h1
   have hpre := hq (Sim.pre (decide (k = m /\ 0 <= k /\ i.bytes * k.toNat <= 281474976710656 /\ k.toNat <= maxLen)), true) (by simp)
   simp only [Sim.pre, decide_eq_true_eq] at hpre
   obtain ⟨rfl, hn0, hby, hmx⟩ := hpre
   have hel := eval_v htf hln
   have hec := eval_v htf hcn
   obtain ⟨w', hrun, r1, r2⟩ := run_make_full (P := E.P) w w.heap.size t et i z i.size hu hi hz rfl kl kc k.toNat hby hmx (Nat.le_refl _)
   rw [Int.toNat_of_nonneg hn0] at hrun
   have hr' : (execOp b.eval o).run E.P w = .ok (.value (.slice (some ⟨w.heap.size, 0, none⟩) k.toNat k.toNat)) w' := by
     simp only [execOp, hop, hel, hec, Sem.run_bind, hrun, Result.andThen_ok, Sem.run_pure]
   unfold Oper.wp
   rw [hexec, hr', Oper.upon_value]
   have hzl : z.cells.toList.length = i.size := by rw [Array.length_toList, hsz]
   have hou : OwnB w.heap.size w' ⟨et, i.size, k.toNat, fun _ => z.cells.toList, true, false, anyF f⟩ (.slice (some ⟨w.heap.size, 0, none⟩) k.toNat k.toNat) := by
     refine ⟨⟨h0, fun j hj => ⟨hzl, hone⟩⟩, ?_⟩
     have hfl := flat_same z.cells.toList z.cells rfl (by rw [hsz]; exact h0) k.toNat
     rw [hsz] at hfl
     show w'.ownsRow w.heap.size et i.size _ k.toNat ((List.range k.toNat).flatMap fun _ => z.cells.toList)
     rw [hfl]; exact r1
   exact new _ _ _ hD.symm.symm (by show SV.c (s1.own.l.length + _) = _; rw [k2, hs]) ⟨r2.os, r2.tape, r2.output, r2.size, fun k hk => r2.block k hk (by simp)⟩ hou
theorem StepD.tr {E : Env} {n : Nat} {ops : Array Oper} {o : Oper} {pre : List Dn} {s s1 : St} {d : Dn} (h : StepD E n ops o pre s d s1) (hh : Holds' s1) {ν : Nu} {b : Act} (ht : TR n ν s b) : TR n ν s1 b := by
 cases h with
 | skip _ h => exact (wantS_ok h hh ht).2
 | ro s1 x c q h h1 h2 => exact ((wantS_ok h (more_q (s := s1) (q := q) hh).2 ht).2).of rfl
 | plain s1 f args p s2 h h1 h2 =>
   obtain ⟨l, v, bb, fn, fl, hl, hb, hf, hn1, hbody, hx, rfl⟩ := pcallS_some h2
   exact ((wantS_ok h (fun p hp => hh p (List.mem_cons_of_mem _ hp)) ht).2).of rfl
 | lplain s1 f args l fn v bb h h1 h2 h3 h4 h5 => exact ((wantS_ok h (fun p hp => hh p (List.mem_cons_of_mem _ (List.mem_append_right _ hp))) ht).2).of rfl
 | lst s1 f args l fn e bb h h1 h2 h3 h4 h5 => exact ((wantS_ok h (fun p hp => hh p (List.mem_cons_of_mem _ (List.mem_append_right _ hp))) ht).2).of rfl
 | lit s1 x m q e h h1 h2 => exact (wantS_ok h hh ht).2
 | eff s1 f args p b h h1 h2 => exact ((wantS_ok h (fun p hp => hh p (List.mem_cons_of_mem _ hp)) ht).2).of rfl
 | mk s1 e q h h1 => exact ((wantS_ok h (more_q (s := s1) (q := q) hh).2 ht).2).of rfl
theorem simD_obl {E : Env} {n : Nat} {ops : Array Oper} : ∀ (rest : List Oper) (pre : List Dn) (s : St) (ds : List Dn) (s' : St), simD E n ops rest pre s = some (ds, s') -> (∀ p ∈ s.obl, p ∈ s'.obl) /\ ∃ r, ds = pre ++ r
 | [], pre, s, ds, s', h => by
   simp only [simD, qS, qP] at h
   obtain ⟨rfl, rfl⟩ := h
   exact ⟨fun p hp => hp, [], by simp⟩
 | o :: rest, pre, s, ds, s', h => by
   unfold simD at h
   split at h
   . rename_i d s1 hs
     split at h
     . rename_i s2 hp
       obtain ⟨_, _, _, _, h5, _⟩ := (stepD_is hs).st
       obtain ⟨k1, r, k2⟩ := simD_obl rest _ _ _ _ h
       exact ⟨fun p hp' => k1 p (by rw [(putS_keep hp).1]; exact h5 p hp'), d :: r, by rw [k2]; simp⟩
     . cases h
   . cases h
theorem is_conc' (ν : Nu) (x : SV) : Is ν x (conc ν x) := by
 cases x <;> first | rfl | trivial
theorem putS_lt {n : Nat} {dst : Option Tmp} {x : SV} {s s' : St} (h : putS n dst x s = some s') : ∀ t, dst = some t -> t < n := fun t ht => by
 subst ht
 unfold putS at h
 simp only at h
 cases hb : Nat.blt t n
 . rw [hb] at h; cases h
 . simpa [Nat.blt_eq] using hb
theorem simD_ok {E : Env} (HC : CallOk E) {w0 : Base} (hG : GlobB E w0) {n : Nat} {ops : Array Oper} (hdep : depB ops = true) {s0 : Mem} (hok : OkB s0.b.length s0.l.length s0.b) {ν0 : Nu} {a0 : Act} (hz : a0.tmps.size = n) {ds : List Dn} (hK : KD s0 ds) :
   ∀ (rest : List Oper) (pops : List Oper) (pre : List Dn) (s s' : St), simD E n ops rest pre s = some (ds, s') -> ops.toList = pops ++ rest -> pops.length = pre.length -> Holds' s' -> s.own = s0 ->
     (∀ L ν a w, ID n ops w0 ν0 s0 a0 ds L ν a w -> TR n ν s (actD L a ν 0 pops pre a0)) ->
     (∀ k, pops.length <= k -> ∀ o L ν a w, ops[k]? = some o -> ID n ops w0 ν0 s0 a0 ds L ν a w -> L k = false -> (∀ e ∈ o.after, Region.binds .any e = true -> L e.on = true) -> ∀ (Q : Exit -> Act -> World -> Prop) (K : Act -> World -> Prop), (∀ ν' a' w', ID n ops w0 ν0 s0 a0 ds (setL L k) ν' a' w' -> K a' w') -> wpOp E.P ops Q k K a w) /\
       (∀ L ν a w, ID n ops w0 ν0 s0 a0 ds L ν a w -> TR n ν s' (actD L a ν 0 ops.toList ds a0))
 | [], pops, pre, s, s', h, ho, hl, hh, hs, hT => by
   simp only [simD, qS, qP] at h
   obtain ⟨rfl, rfl⟩ := h
   rw [List.append_nil] at ho
   refine ⟨fun k hk o L ν a w hko => ?_, fun L ν a w hI => by rw [ho]; exact hT L ν a w hI⟩
   exfalso
   have : k < ops.toList.length := by
     rcases Nat.lt_or_ge k ops.size with h | h
     . simpa using h
     . rw [Array.getElem?_eq_none h] at hko; cases hko
   rw [ho] at this; omega
 | o :: rest, pops, pre, s, s', h, ho, hl, hh, hs, hT => by
   unfold simD at h
   split at h
   . rename_i d s1 hst
     split at h
     . rename_i s2 hp
       have hsd := stepD_is hst
       obtain ⟨p1, p2, _⟩ := putS_keep hp
       obtain ⟨hob, r, hr⟩ := simD_obl rest _ _ _ _ h
       have hh1 : Holds' s1 := fun p hp' => hh p (hob p (by rw [p1]; exact hp'))
       have hD : ds = pre ++ d :: r := by rw [hr]; simp
       have hd : ds[pre.length]? = some d := by rw [hD]; simp
       have get : ∀ (j : Nat), ops[j]? = (pops ++ o :: rest)[j]? := fun j => by rw [<- ho]; simp
       have hok' : ops[pre.length]? = some o := by rw [get, <- hl]; simp
       have low : ∀ j, j < pops.length -> ops[j]? = pops[j]? := fun j hj => by rw [get, List.getElem?_append_left hj]
       have IH := simD_ok HC hG hdep hok hz hK rest (pops ++ [o]) (pre ++ [d]) s2 s' h (by rw [ho]; simp) (by simp [hl]) hh (by rw [p2, hsd.st.1, hs]) (fun L ν a w hI => by
         rw [actD_snoc L a ν o d pops pre 0 a0 hl, Nat.zero_add, hl]
         have ht1 := hsd.tr hh1 (hT L ν a w hI)
         cases hdst : o.dst with
         | none =>
           rw [hdst] at hp
           simp only [putS, qS] at hp
           subst hp
           exact ht1
         | some t =>
           have hv : Is ν d.x (valD L a ν pre.length o d) := by
             unfold valD
             simp only [hdst]
             by_cases hLk : L pre.length = true
             . rw [if_pos hLk]; exact hI.done pre.length o d t hok' hd hdst hLk
             . rw [if_neg hLk]; exact is_conc' ν d.x
           have := tr_put hp hv ht1
           rw [hdst] at this
           exact this)
       refine ⟨fun k hk o' L ν a w hko hI hL hrdy Q K hQ => ?_, IH.2⟩
       rcases Nat.lt_or_ge pops.length k with hlt | hge
       . exact IH.1 k (by simp; omega) o' L ν a w hko hI hL hrdy Q K hQ
       . obtain rfl : k = pre.length := by omega
         rw [hok'] at hko
         obtain rfl := Option.some.inj hko
         have dep := depB_ok hdep hok'
         refine hsd.ok HC hG hh1 hdep hs hok hD hK hok' (putS_lt hp) hI (hT L ν a w hI) hL hrdy (fun t ht => ?_) fun ν' v w' => hQ ν' _ w'
         have look : ∀ (j : Nat) oj, ops[j]? = some oj -> oj.dst = some t -> j < pre.length /\ L j = true := fun j oj hj hjt => by
           have hb : looksB ops o j = true := by
             unfold looksB
             rw [hj]
             exact List.any_eq_true.mpr ⟨t, ht, dstIs_iff.mpr hjt⟩
           obtain ⟨k1, e, he, hbd, hon⟩ := dep.looks j hb
           exact ⟨k1, by rw [<- hon]; exact hrdy e he hbd⟩
         refine actD_get L a ν t pops pre 0 a0 hl (by rw [hI.size, hz]) (fun j oj hj hjt => ?_) ?_
         . rw [Nat.zero_add]
           exact (look j oj (by rw [low j (lt_of_some_list hj)]; exact hj) hjt).2
         . by_cases hex : ∃ (j : Nat) (oj : Oper), pops[j]? = some oj /\ oj.dst = some t
           . exact .inr hex
           . left
             refine (hI.base t fun i oi hoi hti => ?_).symm
             exfalso
             obtain ⟨k1, _⟩ := look i oi hoi hti
             exact hex ⟨i, oi, by rw [<- low i (by omega)]; exact hoi, hti⟩
     . cases h
   . cases h
theorem newsL_dead : ∀ (ds : List Dn) (i p : Nat) (e : LE), (newsL (fun _ => false) i ds)[p]? = some e -> e.dead = true
 | [], _, _, _, h => by simp [newsL] at h
 | d :: r, i, p, e, h => by
   cases hd : d.e with
   | none => rw [newsL_none hd] at h; exact newsL_dead r _ _ _ h
   | some e' =>
     rw [newsL_some hd] at h
     cases p with
     | zero => simp at h; subst h; rfl
     | succ p => simp at h; exact newsL_dead r _ _ _ h
theorem regionD_st {E : Env} {n : Nat} {ops : Array Oper} {s s' : St} (h : regionD E n ops s = some s') (hg : Good s) : Le s s' /\ Good s' /\ s'.mem = s.mem := by
 unfold regionD at h
 cases hd : depB ops
 . rw [hd] at h; cases h
 . rw [hd] at h
   simp only [cond_true] at h
   split at h
   . rename_i ds s1 hs
     simp only [qS] at h
     subst h
     obtain ⟨_, k2, k3, k4, k5, k6, k7, k8⟩ := simD_st (s0 := s.own) _ _ _ _ _ hs rfl (fun i d hi => by simp at hi) (fun p hp => by simpa [newsL] using hg.ok p hp)
     refine ⟨⟨k6, by show _ <= s1.own.b.length; rw [k2]; exact Nat.le_refl _, by show _ <= (s1.own.l ++ _).length; rw [k2]; simp, k4, k5, fun i hi => by show s1.own.b[i]? = _; rw [k2], fun i hi => by show (s1.own.l ++ _)[i]? = _; rw [k2]; exact List.getElem?_append_left (Nat.lt_of_lt_of_le hi hg.llo)⟩, ⟨?_, ?_, fun p hp => ?_, ?_⟩, k3⟩
     . show s1.lo <= s1.own.b.length; rw [k4, k2]; exact hg.lo
     . show s1.llo <= (s1.own.l ++ newsL (fun _ => true) 0 ds).length; rw [k5, k2, List.length_append]; exact Nat.le_trans hg.llo (by omega)
     . show okV s1.own.b.length (s1.own.l ++ newsL (fun _ => true) 0 ds).length p.2; rw [k2, List.length_append]; exact k8 p hp
     . show OkB s1.own.b.length (s1.own.l ++ newsL (fun _ => true) 0 ds).length s1.own.b; rw [k2, List.length_append]; exact hg.okb.mono (Nat.le_refl _) (by omega)
   . cases h
theorem unsnoc_eq : ∀ {l a : List Oper} {o : Oper}, unsnoc l = some (a, o) -> l = a ++ [o]
 | [], a, o, h => by cases h
 | x :: r, a, o, h => by
   unfold unsnoc at h
   split at h
   . rename_i b o' hr
     simp only [qS, qP] at h
     obtain ⟨rfl, rfl⟩ := h
     rw [unsnoc_eq hr]; rfl
   . rename_i hr
     simp only [qS, qP] at h
     obtain ⟨rfl, rfl⟩ := h
     cases r with
     | nil => rfl
     | cons y r =>
       exfalso
       unfold unsnoc at hr
       split at hr <;> cases hr
theorem lastD_st {E : Env} {n : Nat} {ops : Array Oper} {s s' : St} (h : lastD E n ops s = some s') (hg : Good s) : Le s s' /\ Good s' /\ s'.mem = true := by
 unfold lastD at h
 split at h
 . rename_i l o _
   simp only [cond_eq_ite] at h
   split at h
   . split at h
     . rename_i s2 hr
       obtain ⟨l1, g1, _⟩ := regionD_st hr hg
       split at h
       . rename_i x own q hfx
         simp only [qS] at h
         subst h
         obtain ⟨f1, f2, f3, f4, f5, f6⟩ := simFX_st hfx g1
         exact ⟨l1.trans ⟨more_ext s2 q, f2, f3, rfl, rfl, f4, f5⟩, g1.grow rfl rfl rfl f2 f3 f6, rfl⟩
       . cases h
     . cases h
   . cases h
 . cases h
theorem lastD_ok {E : Env} (HC : CallOk E) {w0 : Base} (hG : GlobB E w0) {id n : Nat} {ops : Array Oper} {s s' : St} (hm : E.P.follows .mixedOrders = true) (hsm : s.mem = true) (h : lastD E n ops s = some s') (hg : Good s) (hh : Holds' s') {Q : Exit -> Act -> World -> Prop} {ν0 : Nu} {a0 : Act} {w : World} (ht : TR n ν0 s a0) (hw : WR w0 ν0 s.own true w)
   (hQ : ∀ ν' a' w', Ag s.own ν0 ν' -> TR n ν' s' a' -> WR w0 ν' s'.own true w' -> Q .normal a' w') : (Code.region id ops true).wp E.P Q a0 w := by
 unfold lastD at h
 split at h
 rotate_left
 . cases h
 rename_i l o hu
 have hops := unsnoc_eq hu
 simp only [cond_eq_ite] at h
 split at h
 rotate_left
 . cases h
 rename_i hc
 simp only [Bool.and_eq_true] at hc
 obtain ⟨⟨⟨c1, c2⟩, c3⟩, hd⟩ := hc
 split at h
 rotate_left
 . cases h
 rename_i s2 hr
 obtain ⟨l1, g2, _⟩ := regionD_st hr hg
 split at h
 rotate_left
 . cases h
 rename_i x own q hfx
 simp only [qS] at h
 subst h
 obtain ⟨hq, hh2⟩ := more_q (s := s2) hh
 have hdst : o.dst = none := by cases hx : o.dst <;> simp_all
 have hgrd : o.guard = none := by cases hx : o.guard <;> simp_all
 obtain ⟨ops0, hops0⟩ : ∃ ops0, (l ++ [noopOf o]).toArray = ops0 := ⟨_, rfl⟩
 rw [hops0] at hd hr
 have hl0 : ops0.toList = l ++ [noopOf o] := by rw [<- hops0]
 have hsz0 : ops0.size = l.length + 1 := by rw [<- hops0]; simp
 have hsz : ops.size = l.length + 1 := by rw [<- Array.length_toList, hops]; simp
 have get : ∀ i, i < l.length -> ops[i]? = ops0[i]? := fun i hi => by
   rw [<- Array.getElem?_toList, <- Array.getElem?_toList, hops, hl0, List.getElem?_append_left hi, List.getElem?_append_left hi]
 have getm : ops[l.length]? = some o := by rw [<- Array.getElem?_toList, hops]; simp
 have getm0 : ops0[l.length]? = some (noopOf o) := by rw [<- Array.getElem?_toList, hl0]; simp
 have getn : ∀ i, l.length + 1 <= i -> ops[i]? = none /\ ops0[i]? = none := fun i hi => ⟨Array.getElem?_eq_none (by omega), Array.getElem?_eq_none (by omega)⟩
 have hyl : ∀ tm, yielded ops tm = yielded ops0 tm := fun tm => by
   funext j
   unfold yielded
   rcases Nat.lt_trichotomy j l.length with hj | hj | hj
   . rw [get j hj]
   . subst hj; rw [getm, getm0]; simp [hdst, noopOf]
   . obtain ⟨e1, e2⟩ := getn j (by omega)
     rw [e1, e2]
 have hbnd : ∀ i, i < l.length -> ∃ e ∈ o.after, Region.binds .any e = true /\ e.on = i := fun i hi => by
   have := List.all_eq_true.mp c3 i (List.mem_range.mpr hi)
   obtain ⟨e, he, hb⟩ := List.any_eq_true.mp this
   simp only [Bool.and_eq_true] at hb
   exact ⟨e, by simpa using he, hb.1, qB hb.2⟩
 unfold regionD at hr
 rw [hd] at hr
 simp only [cond_true] at hr
 split at hr
 rotate_left
 . cases hr
 rename_i ds s1 hs
 simp only [qS] at hr
 subst hr
 obtain ⟨⟨r0, r1, r2⟩, k2, k3, k4, k5, k6, k7, k8⟩ := simD_st (s0 := s.own) _ _ _ _ _ hs rfl (fun i d hi => by simp at hi) (fun p hp => by simpa [newsL] using hg.ok p hp)
 have hdl : ds.length = ops0.size := by rw [r1, List.nil_append, r2]; simp
 have SD := fun Q' : Exit -> Act -> World -> Prop => simD_ok HC hG hd hg.okb (ν0 := ν0) (a0 := a0) ht.size k7 ops0.toList [] [] s s1 hs rfl rfl hh2 rfl (fun L ν a w hI => by
   show TR n ν s a0
   exact ht.move hg hI.ag rfl)
 obtain ⟨step, fin⟩ := SD Q
 have hrep : lstB (Array.replicate ops.size false) = fun _ => false := by
   funext j
   unfold lstB
   simp only [Array.getD_eq_getD_getElem?, Array.getElem?_replicate]
   split <;> rfl
 refine wp_region_any hm (wpAny_steps (I := fun L a w => (L l.length = false /\ ∃ ν, ID n ops0 w0 ν0 s.own a0 ds L ν a w) \/ ((∀ j, j < l.length + 1 -> L j = true) /\ Q .normal a w)) (fun L i o' a w ho hI hL hr K hK => ?_) (fun L a w hall hI => ?_) (fun i o' ho e he hb => ?_) ops.size (Array.replicate ops.size false) a0 _ (by simp) ?_ ?_)
 . have hi : i < l.length + 1 := by
     rcases Nat.lt_or_ge i (l.length + 1) with h | h
     . exact h
     . rw [(getn i h).1] at ho; cases ho
   rcases hI with ⟨hLm, ν, hI⟩ | ⟨hLa, hQn⟩
   . rcases Nat.lt_or_ge i l.length with hlt | hge
     . have ho0 : ops0[i]? = some o' := by rw [<- get i hlt]; exact ho
       have := step i (Nat.zero_le _) o' L ν a w ho0 hI hL hr Q K fun ν' a' w' hI' => hK a' w' (.inl ⟨by unfold setL; rw [if_neg (by omega)]; exact hLm, ν', hI'⟩)
       unfold wpOp at this ⊢
       rw [ho0] at this
       rw [ho, hyl]
       exact this
     . obtain rfl : i = l.length := by omega
       rw [getm] at ho
       obtain rfl := Option.some.inj ho
       have hLall : ∀ j, j < l.length -> L j = true := fun j hj => by
         obtain ⟨e, he, hb, hon⟩ := hbnd j hj
         rw [<- hon]; exact hr e he hb
       have hnoop := (SD fun _ _ _ => False).1 l.length (Nat.zero_le _) (noopOf o) L ν a w getm0 hI hL hr (fun _ _ _ => False) (fun a' w' => ∃ ν', ID n ops0 w0 ν0 s.own a0 ds (setL L l.length) ν' a' w') fun ν' a' w' hI' => ⟨ν', hI'⟩
       obtain ⟨ν', hI'⟩ : ∃ ν', ID n ops0 w0 ν0 s.own a0 ds (setL L l.length) ν' a w := by
         unfold wpOp at hnoop
         rw [getm0] at hnoop
         have hwt : Region.wanted (noopOf o) (yielded ops0 a.tmps) = true := by simp [Region.wanted, noopOf, hgrd]
         simp only [hwt, if_true] at hnoop
         rcases hnoop with hn | ⟨_, _, _, hf⟩
         . unfold Oper.wp at hn
           rw [show (execOp a.eval (noopOf o)).run E.P w = .ok (.value undef) w by simp [execOp, noopOf, Act.eval], Oper.upon_value] at hn
           have e : a.put (noopOf o).dst undef = a := by rw [show (noopOf o).dst = none from hdst]; rfl
           rw [e] at hn; exact hn
         . exact hf.elim
       have hall' : ∀ j, j < ops0.size -> setL L l.length j = true := fun j hj => by
         unfold setL
         by_cases hjl : j = l.length
         . rw [if_pos hjl]
         . rw [if_neg hjl]; exact hLall j (by omega)
       have hT := fin (setL L l.length) ν' a w hI'
       have same : ∀ t, (actD (setL L l.length) a ν' 0 ops0.toList ds a0).tmps.getD t undef = a.tmps.getD t undef := fun t => by
         refine actD_get (setL L l.length) a ν' t ops0.toList ds 0 a0 (by simp [hdl]) (by rw [hI'.size, ht.size]) (fun j oj hj _ => by rw [Nat.zero_add]; exact hall' j (by simpa using lt_of_some_list hj)) ?_
         by_cases hex : ∃ (j : Nat) (oj : Oper), ops0.toList[j]? = some oj /\ oj.dst = some t
         . exact .inr hex
         . left
           refine (hI'.base t fun i oi hoi hti => ?_).symm
           exact absurd ⟨i, oi, by simpa using hoi, hti⟩ hex
       have hLn : newsL (setL L l.length) 0 ds = newsL (fun _ => true) 0 ds := newsL_congr ds 0 fun j _ hj => hall' j (by omega)
       have hwr := hI'.wr
       rw [hLn] at hwr
       have tr2 : TR n ν' { s1 with own := { s1.own with l := s1.own.l ++ newsL (fun _ => true) 0 ds } } a := ⟨hI'.size, fun t => by
         have := hT.tm t
         rw [same t] at this
         exact this, hI'.df⟩
       have wr2 : WR w0 ν' { s1.own with l := s1.own.l ++ newsL (fun _ => true) 0 ds } true w := by rw [k2]; exact hwr
       unfold wpOp
       rw [getm]
       have hwt : Region.wanted o (yielded ops a.tmps) = true := by simp [Region.wanted, hgrd]
       simp only [hwt, if_true]
       left
       refine op_fx hG hfx hq g2 tr2 (by
         show WR w0 ν' _ s1.mem w
         rw [show s1.mem = true from k3.trans hsm]; exact wr2) fun ν'' v w' ha hv hw' => ?_
       refine hK _ _ (.inr ⟨fun j hj => hall' j (by omega), hQ ν'' _ w' ?_ ?_ hw'⟩)
       . exact Agree.trans hI'.ag ha (by show s.own.b.length <= s1.own.b.length; rw [k2]; exact Nat.le_refl _) (by show s.own.l.length <= (s1.own.l ++ newsL (fun _ => true) 0 ds).length; rw [k2]; simp)
       . rw [hdst]
         exact (tr2.move g2 ha rfl)
   . have := hLa i hi
     rw [hL] at this; cases this
 . rcases hI with ⟨hLm, _⟩ | ⟨_, hQn⟩
   . rw [hall l.length (by omega)] at hLm; cases hLm
   . exact hQn
 . rcases Nat.lt_trichotomy i l.length with hi | hi | hi
   . exact (depB_ok hd (by rw [<- get i hi]; exact ho)).low e he hb
   . subst hi
     rw [getm] at ho
     obtain rfl := Option.some.inj ho
     exact (depB_ok hd getm0).low e he hb
   . rw [(getn i (by omega)).1] at ho; cases ho
 . have := List.length_filter_le (fun i => !lstB (Array.replicate ops.size false) i) (List.range ops.size)
   simpa using this
 . rw [hrep]
   refine .inl ⟨rfl, ν0, ⟨Agree.refl _ _ _, ht.size, ht.df, fun _ _ => rfl, fun i o d t _ _ _ hL => (by cases hL), ?_⟩⟩
   refine hw.drew.kill rfl (fun p e hp hde => ?_) (hg.okb.mono (Nat.le_refl _) (by simp))
   have hp : (s.own.l ++ newsL (fun _ => false) 0 ds)[p]? = some e := hp
   rcases Nat.lt_or_ge p s.own.l.length with hl | hl
   . rw [List.getElem?_append_left hl] at hp; exact hp
   . rw [List.getElem?_append_right hl] at hp
     rw [newsL_dead ds _ _ e hp] at hde; cases hde
theorem regionD_ok {E : Env} (HC : CallOk E) {w0 : Base} (hG : GlobB E w0) {id n : Nat} {ops : Array Oper} {s s' : St} (hm : E.P.follows .mixedOrders = true) (h : regionD E n ops s = some s') (hg : Good s) (hh : Holds' s') {Q : Exit -> Act -> World -> Prop} {ν0 : Nu} {a0 : Act} {w : World} (ht : TR n ν0 s a0) (hw : WR w0 ν0 s.own true w)
   (hQ : ∀ ν' a' w', Ag s.own ν0 ν' -> TR n ν' s' a' -> WR w0 ν' s'.own true w' -> Q .normal a' w') : (Code.region id ops true).wp E.P Q a0 w := by
 unfold regionD at h
 cases hd : depB ops
 . rw [hd] at h; cases h
 . rw [hd] at h
   simp only [cond_true] at h
   split at h
   . rename_i ds s1 hs
     simp only [qS] at h
     subst h
     obtain ⟨⟨r0, r1, r2⟩, k2, k3, k4, k5, k6, k7, k8⟩ := simD_st (s0 := s.own) _ _ _ _ _ hs rfl (fun i d hi => by simp at hi) (fun p hp => by simpa [newsL] using hg.ok p hp)
     have hdl : ds.length = ops.size := by rw [r1, List.nil_append, r2]; simp
     obtain ⟨step, fin⟩ := simD_ok HC hG hd hg.okb (ν0 := ν0) (a0 := a0) ht.size k7 ops.toList [] [] s s1 hs rfl rfl hh rfl (fun L ν a w hI => by
       show TR n ν s a0
       exact ht.move hg hI.ag rfl)
     have hrep : lstB (Array.replicate ops.size false) = fun _ => false := by
       funext j
       unfold lstB
       simp only [Array.getD_eq_getD_getElem?, Array.getElem?_replicate]
       split <;> rfl
     refine wp_region_any hm (wpAny_steps (I := fun L a w => ∃ ν, ID n ops w0 ν0 s.own a0 ds L ν a w) (fun L i o a w ho hI hL hr K hK => ?_) (fun L a w hall hI => ?_) (fun i o ho e he hb => (depB_ok hd ho).low e he hb) ops.size (Array.replicate ops.size false) a0 _ (by simp) ?_ ?_)
     . obtain ⟨ν, hI⟩ := hI
       exact step i (Nat.zero_le _) o L ν a w ho hI hL hr Q K fun ν' a' w' hI' => hK a' w' ⟨ν', hI'⟩
     . obtain ⟨ν, hI⟩ := hI
       have hT := fin L ν a w hI
       have same : ∀ t, (actD L a ν 0 ops.toList ds a0).tmps.getD t undef = a.tmps.getD t undef := fun t => by
         refine actD_get L a ν t ops.toList ds 0 a0 (by simp [hdl]) (by rw [hI.size, ht.size]) (fun j oj hj _ => by rw [Nat.zero_add]; exact hall j (by simpa using lt_of_some_list hj)) ?_
         by_cases hex : ∃ (j : Nat) (oj : Oper), ops.toList[j]? = some oj /\ oj.dst = some t
         . exact .inr hex
         . left
           refine (hI.base t fun i oi hoi hti => ?_).symm
           exact absurd ⟨i, oi, by simpa using hoi, hti⟩ hex
       have hL : newsL L 0 ds = newsL (fun _ => true) 0 ds := newsL_congr ds 0 fun j _ hj => hall j (by omega)
       have hwr := hI.wr
       rw [hL] at hwr
       refine hQ ν a w hI.ag ⟨hI.size, fun t => ?_, hI.df⟩ (by show WR w0 ν { s1.own with l := s1.own.l ++ newsL (fun _ => true) 0 ds } true w; rw [k2]; exact hwr)
       have := hT.tm t
       rw [same t] at this
       exact this
     . have := List.length_filter_le (fun i => !lstB (Array.replicate ops.size false) i) (List.range ops.size)
       simpa using this
     . rw [hrep]
       refine ⟨ν0, ⟨Agree.refl _ _ _, ht.size, ht.df, fun _ _ => rfl, fun i o d t _ _ _ hL => (by cases hL), ?_⟩⟩
       refine hw.drew.kill rfl (fun p e hp hde => ?_) (hg.okb.mono (Nat.le_refl _) (by simp))
       have hp : (s.own.l ++ newsL (fun _ => false) 0 ds)[p]? = some e := hp
       rcases Nat.lt_or_ge p s.own.l.length with hl | hl
       . rw [List.getElem?_append_left hl] at hp; exact hp
       . rw [List.getElem?_append_right hl] at hp
         rw [newsL_dead ds _ _ e hp] at hde; cases hde
   . cases h
end Go.Proofs.Ytmaffamhjmlonaa.S2
namespace Go.Proofs.Ytmaffamhjmlonaa.S2
open Go Go.RowKit Sim
def withF (w0 : Base) (g : Nat) (o : Obj) : Base := ⟨w0.toWorld, fun b => if b = g then some o else w0.F b⟩
theorem WR.frameAdd {w0 : Base} {ν : Nu} {own : Mem} {mem : Bool} {w : World} {g : Nat} {o : Obj} (h : WR w0 ν own mem w) (hg : w.heap[g]? = some o) (hb : ∀ i, i < own.b.length -> ν.l i ≠ g) (hl : ∀ (k : Nat) e, own.l[k]? = some e -> e.dead = false -> e.own = true -> (ν.v k).ownBlock ≠ some g) : WR (withF w0 g o) ν own mem w :=
 ⟨h.below, h.blk, h.okb, h.inj, h.lst, h.sep, h.same, ⟨fun b o' e => (by
   have e : (if b = g then some o else w0.F b) = some o' := e
   by_cases hbg : b = g
   . rw [if_pos hbg] at e; cases e; rw [hbg]; exact hg
   . rw [if_neg hbg] at e; exact h.fr.here b o' e), fun i hi => (by
   show (if ν.l i = g then _ else _) = _
   rw [if_neg (hb i hi)]; exact h.fr.offb i hi), fun k e hk hd ho g' hg' => (by
   show (if g' = g then _ else _) = _
   rw [if_neg (fun e1 => hl k e hk hd ho (by rw [hg', e1]))]; exact h.fr.offl k e hk hd ho g' hg')⟩⟩
theorem withF_none {w0 : Base} {g b : Nat} {o : Obj} (h : (withF w0 g o).F b = none) : b ≠ g /\ w0.F b = none := by
 have h : (if b = g then some o else w0.F b) = none := h
 by_cases hb : b = g
 . rw [if_pos hb] at h; cases h
 . rw [if_neg hb] at h; exact ⟨hb, h⟩
theorem WR.frameDrop {w0 : Base} {ν : Nu} {own : Mem} {mem : Bool} {w : World} {g : Nat} {o : Obj} (h : WR (withF w0 g o) ν own mem w) (hF : w0.F g = none) : WR w0 ν own mem w :=
 ⟨h.below, h.blk, h.okb, h.inj, h.lst, h.sep, h.same, ⟨fun b o' e => h.fr.here b o' (by
   show (if b = g then _ else _) = _
   rw [if_neg (fun e1 => by rw [e1, hF] at e; cases e)]; exact e), fun i hi => (withF_none (h.fr.offb i hi)).2, fun k e hk hd ho g' hg' => (withF_none (h.fr.offl k e hk hd ho g' hg')).2⟩⟩
theorem WR.frameTurn {w0 : Base} {ν : Nu} {own : Mem} {mem : Bool} {w w' : World} {g : Nat} {o o' : Obj} (h : WR (withF w0 g o) ν own mem w) (hB : w0.heap.size <= g) (hg : w.grownBy w' (some g)) (hn : w'.heap[g]? = some o')
   (nb : ∀ (i : Nat) b, own.b[i]? = some b -> ∀ fl T e acc, b.kd ≠ .bld fl T e acc) : WR (withF w0 g o') ν own true w' := by
 have hbi : ∀ i, i < own.b.length -> ν.l i ≠ g := fun i hi => (withF_none (h.fr.offb i hi)).1
 have hli : ∀ (k : Nat) e, own.l[k]? = some e -> e.dead = false -> e.own = true -> ∀ g', (ν.v k).ownBlock = some g' -> g' ≠ g := fun k e hk hd ho g' hg' => (withF_none (h.fr.offl k e hk hd ho g' hg')).1
 refine ⟨h.below.grown hg h.below.size (fun g' e => by cases e; exact hB), fun i b hi => ⟨(h.blk i b hi).1.turn hg (fun e => hbi i (lt_of_some_list hi) (Option.some.inj e).symm) (fun _ _ _ fl T e acc _ hk => absurd hk (nb i b hi fl T e acc)), (h.blk i b hi).2⟩, h.okb, h.inj, fun k e hk hd => (h.lst k e hk hd).kept hg h.below.size (fun g' e => by cases e; exact hB) (fun ho => ?_), h.sep, (fun h => by cases h), ⟨fun b o2 e => ?_, fun i hi => ?_, fun k e hk hd ho g' hg' => ?_⟩⟩
 . cases hq : (ν.v k).ownBlock with
   | none => exact .inl rfl
   | some g' => exact .inr fun e => hli k _ hk hd ho g' hq (Option.some.inj e)
 . have e : (if b = g then some o' else w0.F b) = some o2 := e
   by_cases hbg : b = g
   . rw [if_pos hbg] at e; cases e; rw [hbg]; exact hn
   . rw [if_neg hbg] at e
     have h0 : w.heap[b]? = some o2 := h.fr.here b o2 (by show (if b = g then _ else _) = _; rw [if_neg hbg]; exact e)
     exact (hg.block b (lt_of_some h0) (fun e => hbg (Option.some.inj e))).trans h0
 . show (if ν.l i = g then _ else _) = _
   rw [if_neg (hbi i hi)]; exact (withF_none (h.fr.offb i hi)).2
 . show (if g' = g then _ else _) = _
   rw [if_neg (hli k e hk hd ho g' hg')]; exact (withF_none (h.fr.offl k e hk hd ho g' hg')).2
theorem ID.turn {n : Nat} {ops : Array Oper} {w0 w1 : Base} {ν0 : Nu} {s0 : Mem} {a0 : Act} {ds : List Dn} {L : Nat -> Bool} {ν : Nu} {a : Act} {w w' : World} (h : ID n ops w0 ν0 s0 a0 ds L ν a w) (hw : WR w1 ν { s0 with l := s0.l ++ newsL L 0 ds } true w') : ID n ops w1 ν0 s0 a0 ds L ν a w' := ⟨h.ag, h.size, h.df, h.base, h.done, hw⟩
structure IDJ (n : Nat) (ops : Array Oper) (w0 : Base) (ν0 : Nu) (s0 : Mem) (a0 : Act) (ds : List Dn) (ja dd : Nat) (t : TypeId) (sz : Nat) (L : Nat -> Bool) (ν : Nu) (a : Act) (w : World) : Prop where
 no : L ja = false -> ID n ops w0 ν0 s0 a0 ds L ν a w
 yes : L ja = true -> ∃ g cur, a.tmps.getD dd undef = .pointer (some ⟨g, 0, none⟩) /\ cur.size = sz /\ w0.F g = none /\ w0.heap.size <= g /\ ID n ops (withF w0 g (.cells cur t (0, 0))) ν0 s0 a0 ds L ν a w
theorem IDJ.any {n : Nat} {ops : Array Oper} {w0 : Base} {ν0 : Nu} {s0 : Mem} {a0 : Act} {ds : List Dn} {ja dd : Nat} {t : TypeId} {sz : Nat} {L : Nat -> Bool} {ν : Nu} {a : Act} {w : World} (h : IDJ n ops w0 ν0 s0 a0 ds ja dd t sz L ν a w) : ID n ops w0 ν0 s0 a0 ds L ν a w := by
 cases hL : L ja
 . exact h.no hL
 . obtain ⟨g, cur, _, _, h3, _, h5⟩ := h.yes hL
   exact h5.turn (h5.wr.frameDrop h3)
inductive StepJ (E : Env) (n : Nat) (ops : Array Oper) (dd : Nat) (t : TypeId) (sz : Nat) (o : Oper) (pre : List Dn) (s : St) : Dn -> St -> Prop where
 | gen (d s1) (hj : junkOf E.P o = none) (h : StepD E n ops o pre s d s1) : StepJ E n ops dd t sz o pre s d s1
 | mk (hj : junkOf E.P o = some (dd, t, sz)) : StepJ E n ops dd t sz o pre s ⟨.any, none⟩ s
 | put (y fl v) (hj : junkOf E.P o = none) (ho : o.op = .store t (.tmp dd) y) (hg : o.guard = none) (hd : o.dst = none) (hy : ev (focus ops o pre s) y = .inl (fl, v)) (hc : v.cells.size = sz) (h1 : v.cells.toList.all Value.oneCell' = true) : StepJ E n ops dd t sz o pre s ⟨.inl ([], undef), none⟩ s
theorem stepJ_is {E : Env} {n : Nat} {ops : Array Oper} {dd : Nat} {t : TypeId} {sz : Nat} {o : Oper} {pre : List Dn} {s s1 : St} {d : Dn} (h : stepJ E n ops dd t sz o pre s = some (d, s1)) : StepJ E n ops dd t sz o pre s d s1 := by
 unfold stepJ at h
 split at h
 . rename_i d' t' sz' hj
   cases hb : (Nat.beq dd d' && Nat.beq t t' && Nat.beq sz sz')
   . rw [hb] at h; cases h
   . rw [hb] at h
     simp only [cond_true, qS, qP] at h
     obtain ⟨rfl, rfl⟩ := h
     simp only [Bool.and_eq_true] at hb
     rw [<- qB hb.1.1, <- qB hb.1.2, <- qB hb.2] at hj
     exact .mk hj
 . rename_i hj
   split at h
   . rename_i t' d' y ho
     cases hb : (Nat.beq dd d' && Nat.beq t t' && o.guard.isNone && o.dst.isNone)
     . rw [hb] at h
       exact .gen _ _ hj (stepD_is h)
     . rw [hb] at h
       simp only [cond_true] at h
       simp only [Bool.and_eq_true, Option.isNone_iff_eq_none] at hb
       split at h
       . rename_i fl v hy
         cases hc : (Nat.beq v.cells.size sz && v.cells.toList.all Value.oneCell')
         . rw [hc] at h; cases h
         . rw [hc] at h
           simp only [cond_true, qS, qP] at h
           obtain ⟨rfl, rfl⟩ := h
           simp only [Bool.and_eq_true] at hc
           rw [<- qB hb.1.1.1, <- qB hb.1.1.2] at ho
           exact .put y fl v hj ho hb.1.2 hb.2 hy (qB hc.1) hc.2
       . cases h
   . exact .gen _ _ hj (stepD_is h)
theorem StepJ.st {E : Env} {n : Nat} {ops : Array Oper} {dd : Nat} {t : TypeId} {sz : Nat} {o : Oper} {pre : List Dn} {s s1 : St} {d : Dn} (h : StepJ E n ops dd t sz o pre s d s1) :
   s1.own = s.own /\ s1.mem = s.mem /\ s1.lo = s.lo /\ s1.llo = s.llo /\ (∀ p ∈ s.obl, p ∈ s1.obl) /\ (∀ p ∈ s1.tmps, p ∈ s.tmps \/ ∃ b, p.2 = .inl ([], .bool b)) /\
     ((d.e = none /\ okV s.own.b.length s.own.l.length d.x) \/ ∃ e, d.e = some e /\ e.own = true /\ e.dead = false /\ d.x = .c (s.own.l.length + (newsL (fun _ => true) 0 pre).length)) := by
 cases h with
 | gen _ _ _ h => exact h.st
 | mk hj => exact ⟨rfl, rfl, rfl, rfl, fun _ h => h, fun _ h => .inl h, .inl ⟨rfl, trivial⟩⟩
 | put y fl v hj ho hg hd hy hc h1 => exact ⟨rfl, rfl, rfl, rfl, fun _ h => h, fun _ h => .inl h, .inl ⟨rfl, trivial⟩⟩
theorem StepJ.tr {E : Env} {n : Nat} {ops : Array Oper} {dd : Nat} {t : TypeId} {sz : Nat} {o : Oper} {pre : List Dn} {s s1 : St} {d : Dn} (h : StepJ E n ops dd t sz o pre s d s1) (hh : Holds' s1) {ν : Nu} {b : Act} (ht : TR n ν s b) : TR n ν s1 b := by
 cases h with
 | gen _ _ _ h => exact h.tr hh ht
 | mk hj => exact ht
 | put y fl v hj ho hg hd hy hc h1 => exact ht
theorem junkOf_some {P : Program} {o : Oper} {dd : Nat} {t : TypeId} {sz : Nat} (h : junkOf P o = some (dd, t, sz)) : o.op = .alloc t /\ o.dst = some dd /\ o.guard = none /\ ∃ i z, P.info? t = some i /\ i.zero = some z /\ z.cells.size = sz /\ i.size = sz := by
 unfold junkOf at h
 split at h
 . rename_i t' d' ho hd hg
   split at h
   . rename_i i hi
     split at h
     . rename_i z hz
       cases hb : Nat.beq z.cells.size i.size
       . rw [hb] at h; cases h
       . rw [hb] at h
         simp only [cond_true, qS, qP] at h
         obtain ⟨rfl, rfl, rfl⟩ := h
         exact ⟨ho, hd, hg, i, z, hi, hz, qB hb, rfl⟩
     . cases h
   . cases h
 . cases h
theorem StepJ.ok {E : Env} (HC : CallOk E) {w0 : Base} (hG : GlobB E w0) (hbt : E.bt = none) {n : Nat} {ops : Array Oper} {o : Oper} {pre : List Dn} {s s1 : St} {d : Dn} {ja dd : Nat} {t : TypeId} {sz : Nat} (h : StepJ E n ops dd t sz o pre s d s1) (hh : Holds' s1) (hdep : depB ops = true) {oj : Oper} (hja : ops[ja]? = some oj) (hjk : junkOf E.P oj = some (dd, t, sz))
   {s0 : Mem} (hs : s.own = s0) (hok : OkB s0.b.length s0.l.length s0.b) (nb : ∀ (i : Nat) b, s0.b[i]? = some b -> ∀ fl T e acc, b.kd ≠ .bld fl T e acc)
   {ds rest : List Dn} (hD : ds = pre ++ d :: rest) (hK : KD s0 ds) (ho : ops[pre.length]? = some o) (hn : ∀ t, o.dst = some t -> t < n) {L : Nat -> Bool} {ν0 : Nu} {a0 : Act} {ν : Nu} {a b : Act} {w : World} (hI : IDJ n ops w0 ν0 s0 a0 ds ja dd t sz L ν a w) (ht : TR n ν s b)
   (hL : L pre.length = false) (hr : ∀ e ∈ o.after, Region.binds .any e = true -> L e.on = true) (hlook : ∀ t ∈ o.looksAt ops, b.tmps.getD t undef = a.tmps.getD t undef) {Q : Exit -> Act -> World -> Prop} {K : Act -> World -> Prop}
   (hQ : ∀ ν' a' w', IDJ n ops w0 ν0 s0 a0 ds ja dd t sz (setL L pre.length) ν' a' w' -> K a' w') : wpOp E.P ops Q pre.length K a w := by
 obtain ⟨j1, j2, j3, i, z, hi, hz, hzs, hsz⟩ := junkOf_some hjk
 have hG2 : ∀ g ob, GlobB E (withF w0 g ob) := fun g ob => ⟨hG.glob, fun h => by rw [hbt] at h; cases h⟩
 have dep := depB_ok hdep ho
 have hd : ds[pre.length]? = some d := by rw [hD]; simp
 cases h with
 | gen _ _ hj h =>
   have hne : ja ≠ pre.length := fun e => by
     rw [e, ho] at hja
     obtain rfl := Option.some.inj hja
     rw [hj] at hjk; cases hjk
   have hset : setL L pre.length ja = L ja := by unfold setL; rw [if_neg hne]
   have hdd : o.dst ≠ some dd := fun e => hne (dep.once ja oj dd hja e j2).symm
   cases hLj : L ja
   . refine h.ok HC hG hh hdep hs hok hD hK ho hn (hI.no hLj) ht hL hr hlook fun ν' v w' hI' => hQ ν' _ w' ⟨fun _ => hI', fun h => ?_⟩
     rw [hset, hLj] at h; cases h
   . obtain ⟨g, cur, k1, k2, k3, k4, k5⟩ := hI.yes hLj
     refine h.ok HC (hG2 g _) hh hdep hs hok hD hK ho hn k5 ht hL hr hlook fun ν' v w' hI' => hQ ν' _ w' ⟨fun h => ?_, fun _ => ⟨g, cur, ?_, k2, k3, k4, hI'⟩⟩
     . rw [hset, hLj] at h; cases h
     . rw [getD_put, if_neg (fun h => hdd h.1)]; exact k1
 | mk hj =>
   obtain ⟨m1, m2, m3, i', z', hi', hz', hzs', hsz'⟩ := junkOf_some hj
   have hje : ja = pre.length := (dep.once ja oj dd hja m2 j2).symm
   have hLj : L ja = false := by rw [hje]; exact hL
   have h0 := hI.no hLj
   unfold wpOp
   simp only [ho]
   have hwn : Region.wanted o (yielded ops a.tmps) = true := by unfold Region.wanted; rw [m3]
   rw [if_pos hwn]
   left
   unfold Oper.wp
   have hr' : (execOp a.eval o).run E.P w = .ok (.value (.pointer (some ⟨w.heap.size, 0, none⟩))) (w.alloc (.cells z'.cells t)) := by
     simp only [execOp, m1, Instr.alloc, zeroValue, typeInfo, Sem.run_bind, run_program, Result.andThen_ok, hi', Sem.run_pure, hz', newVar, newRow, run_newObj, World.alloc_eq]
   rw [hr', Oper.upon_value]
   have hb := (Below.refl w.heap.size w).alloc (Nat.le_refl _) (.cells z'.cells t)
   have hwr := h0.wr.grown hb
   have hnew : newsL (setL L pre.length) 0 ds = newsL L 0 ds := by
     have c1 : newsL (setL L pre.length) 0 pre = newsL L 0 pre := newsL_congr pre 0 fun j _ hj => by unfold setL; rw [if_neg (by omega)]
     have c2 : newsL (setL L pre.length) (0 + pre.length + 1) rest = newsL L (0 + pre.length + 1) rest := newsL_congr rest _ fun j hj _ => by unfold setL; rw [if_neg (by omega)]
     rw [hD, newsL_append, newsL_append, newsL_none rfl, newsL_none rfl, c1, c2]
   have hF : w0.F w.heap.size = none := h0.wr.fr.fresh (Nat.le_refl _)
   have hadd := hwr.frameAdd (g := w.heap.size) (o := .cells z'.cells t) (by show (w.alloc _).heap[w.heap.size]? = _; rw [heap_alloc_new]) (fun i hi e => by have := h0.wr.lt hi; omega) (fun k e hk hd ho heq => by have := (h0.wr.rowLt hk hd ho heq).2; omega)
   rw [<- hnew] at hadd
   have hput := (h0.turn (w1 := withF w0 w.heap.size (.cells z'.cells t)) (w' := w.alloc (.cells z'.cells t)) (by rw [<- hnew]; exact hadd)).put hdep hK ho hd hn (Agree.refl _ _ _) (fun _ _ _ _ _ _ => rfl) (v := .pointer (some ⟨w.heap.size, 0, none⟩)) (show Is ν SV.any _ from trivial) hadd
   refine hQ ν _ _ ⟨fun h => ?_, fun _ => ⟨w.heap.size, z'.cells, ?_, hzs', hF, h0.wr.below.size, hput⟩⟩
   . rw [hje] at h; simp [setL] at h
   . rw [getD_put, if_pos ⟨m2, by rw [h0.size]; exact hn dd m2⟩]
 | put y fl v hj hop hg hdst hy hc h1 =>
   have hmem : dd ∈ o.looksAt ops := List.mem_append_left _ (List.mem_filterMap.2 ⟨.tmp dd, by rw [hop]; simp [Op.operands], rfl⟩)
   have hlookj : looksB ops o ja = true := by
     unfold looksB
     rw [hja]
     exact List.any_eq_true.mpr ⟨dd, hmem, dstIs_iff.mpr j2⟩
   obtain ⟨_, e, he, hbd, hon⟩ := dep.looks ja hlookj
   have hLj : L ja = true := by rw [<- hon]; exact hr e he hbd
   have hne : ja ≠ pre.length := fun e => by rw [e, hL] at hLj; cases hLj
   have hset : setL L pre.length ja = L ja := by unfold setL; rw [if_neg hne]
   obtain ⟨g, cur, k1, k2, k3, k4, k5⟩ := hI.yes hLj
   unfold wpOp
   simp only [ho]
   have hwn : Region.wanted o (yielded ops a.tmps) = true := by unfold Region.wanted; rw [hg]
   rw [if_pos hwn]
   left
   unfold Oper.wp
   have hexec := exec_same (a := a) (b := b) dep.sel hlook
   have hx : b.eval (.tmp dd) = .pointer (some ⟨g, 0, none⟩) := by
     show b.tmps.getD dd undef = _
     rw [hlook dd hmem]; exact k1
   have hey : b.eval y = v := eval_v (ht.of (s' := focus ops o pre s) rfl) hy
   have hgc : w.heap[g]? = some (.cells cur t (0, 0)) := k5.wr.fr.here g _ (by show (if g = g then _ else _) = _; rw [if_pos rfl])
   have hsb : storeB E.P t cur.toList 0 v = some v.cells.toList := by
     unfold storeB
     rw [hi]
     have e1 : v.cells.toList.length = sz := by rw [Array.length_toList, hc]
     have e2 : cur.toList.length = sz := by rw [Array.length_toList, k2]
     have hb : (Nat.beq v.cells.toList.length i.size && Nat.ble (0 + i.size) cur.toList.length && v.cells.toList.all Value.oneCell') = true := by
       rw [e1, e2, hsz, h1]
       have : Nat.ble (0 + sz) sz = true := Nat.ble_eq.mpr (by omega)
       rw [this]; simp
     simp only [hb, cond_true]
     unfold putQ
     rw [e1, e2]
     simp
   obtain ⟨w', r1, r2, r3, r4, r5, r6, r7⟩ := run_storeB (e := t) hsb w (by rw [Array.toArray_toList]; exact hgc)
   have hrun : (execOp a.eval o).run E.P w = .ok .skip w' := by
     rw [hexec]
     simp only [execOp, hop, hx, hey, Instr.storeAt, Instr.sureAddr, Sem.run_bind, Sem.run_pure, Result.andThen_ok, r1]
   rw [hrun, Oper.upon_skip]
   have hgr : w.grownBy w' (some g) := ⟨r5, r6, r7, by omega, fun k _ hk => r3 k (fun e => hk (by rw [e]))⟩
   have hturn := k5.wr.frameTurn k4 hgr r2 (by intro i b hi fl T e acc; exact nb i b hi fl T e acc)
   have hnew : newsL (setL L pre.length) 0 ds = newsL L 0 ds := by
     have c1 : newsL (setL L pre.length) 0 pre = newsL L 0 pre := newsL_congr pre 0 fun j _ hj => by unfold setL; rw [if_neg (by omega)]
     have c2 : newsL (setL L pre.length) (0 + pre.length + 1) rest = newsL L (0 + pre.length + 1) rest := newsL_congr rest _ fun j hj _ => by unfold setL; rw [if_neg (by omega)]
     rw [hD, newsL_append, newsL_append, newsL_none rfl, newsL_none rfl, c1, c2]
   have hput := (k5.turn hturn).put hdep hK ho hd hn (Agree.refl _ _ _) (fun _ _ _ _ _ _ => rfl) (v := undef) (show Is ν (.inl ([], undef)) undef from rfl) (by rw [hnew]; exact hturn)
   have k1' : (a.put o.dst undef).tmps.getD dd undef = .pointer (some ⟨g, 0, none⟩) := by rw [getD_put, if_neg (fun h => by rw [hdst] at h; cases h.1)]; exact k1
   refine hQ ν _ _ ⟨fun h => ?_, fun _ => ⟨g, v.cells.toList.toArray, k1', by rw [List.size_toArray, Array.length_toList, hc], k3, k4, hput⟩⟩
   rw [hset, hLj] at h; cases h
theorem simJ_st {E : Env} {n : Nat} {ops : Array Oper} {dj : Nat} {tj : TypeId} {sj : Nat} {s0 : Mem} : ∀ (rest : List Oper) (pre : List Dn) (s : St) (ds : List Dn) (s' : St), simJ E n ops dj tj sj rest pre s = some (ds, s') -> s.own = s0 -> KD s0 pre -> (∀ p ∈ s.tmps, okV s0.b.length (s0.l.length + (newsL (fun _ => true) 0 pre).length) p.2) ->
   (∃ r, ds = pre ++ r /\ r.length = rest.length) /\ s'.own = s0 /\ s'.mem = s.mem /\ s'.lo = s.lo /\ s'.llo = s.llo /\ (∀ p ∈ s.obl, p ∈ s'.obl) /\ KD s0 ds /\ ∀ p ∈ s'.tmps, okV s0.b.length (s0.l.length + (newsL (fun _ => true) 0 ds).length) p.2
 | [], pre, s, ds, s', h, ho, hK, ht => by
   simp only [simJ, qS, qP] at h
   obtain ⟨rfl, rfl⟩ := h
   exact ⟨⟨[], by simp, rfl⟩, ho, rfl, rfl, rfl, fun p hp => hp, hK, ht⟩
 | o :: rest, pre, s, ds, s', h, ho, hK, ht => by
   unfold simJ at h
   split at h
   . rename_i d s1 hs
     split at h
     . rename_i s2 hp
       obtain ⟨h1, h2, h3, h4, h5, h6, h7⟩ := (stepJ_is hs).st
       obtain ⟨p1, p2, p3, p4, p5, p6⟩ := putS_keep hp
       have hK' : KD s0 (pre ++ [d]) := fun i di hi => by
         rcases Nat.lt_or_ge i pre.length with hl | hl
         . rw [List.getElem?_append_left hl] at hi
           rw [List.take_append_of_le_length (by omega)]
           exact hK i di hi
         . have hl2 : i = pre.length := by
             have := lt_of_some_list hi
             simp at this; omega
           subst hl2
           simp at hi
           subst hi
           rw [List.take_left]
           rw [ho] at h7; exact h7
       have hlen : (newsL (fun _ => true) 0 pre).length <= (newsL (fun _ => true) 0 (pre ++ [d])).length := by rw [newsL_append]; simp
       obtain ⟨⟨r, r1, r2⟩, k2, k3, k4, k5, k6, k7, k8⟩ := simJ_st rest (pre ++ [d]) s2 ds s' h (by rw [p2, h1, ho]) hK' (fun p hp' => by
         have done : ∀ p ∈ s1.tmps, okV s0.b.length (s0.l.length + (newsL (fun _ => true) 0 (pre ++ [d])).length) p.2 := fun p hp' => by
           rcases h6 p hp' with h | ⟨b, h⟩
           . exact (ht p h).mono (Nat.le_refl _) (by omega)
           . rw [h]; trivial
         rcases p6 p hp' with h | h
         . exact done p h
         . rw [h]
           rw [ho] at h7
           rcases h7 with ⟨_, hx⟩ | ⟨e, he, _, _, hx⟩
           . exact hx.mono (Nat.le_refl _) (by omega)
           . rw [hx, newsL_append, newsL_some he]
             show _ < _
             simp)
       refine ⟨⟨d :: r, by rw [r1]; simp, by simp [r2]⟩, k2, by rw [k3, p3, h2], by rw [k4, p4, h3], by rw [k5, p5, h4], fun p hp' => k6 p (by rw [p1]; exact h5 p hp'), k7, k8⟩
     . cases h
   . cases h
theorem simJ_obl {E : Env} {n : Nat} {ops : Array Oper} {dj : Nat} {tj : TypeId} {sj : Nat} : ∀ (rest : List Oper) (pre : List Dn) (s : St) (ds : List Dn) (s' : St), simJ E n ops dj tj sj rest pre s = some (ds, s') -> (∀ p ∈ s.obl, p ∈ s'.obl) /\ ∃ r, ds = pre ++ r
 | [], pre, s, ds, s', h => by
   simp only [simJ, qS, qP] at h
   obtain ⟨rfl, rfl⟩ := h
   exact ⟨fun p hp => hp, [], by simp⟩
 | o :: rest, pre, s, ds, s', h => by
   unfold simJ at h
   split at h
   . rename_i d s1 hs
     split at h
     . rename_i s2 hp
       obtain ⟨_, _, _, _, h5, _⟩ := (stepJ_is hs).st
       obtain ⟨k1, r, k2⟩ := simJ_obl rest _ _ _ _ h
       exact ⟨fun p hp' => k1 p (by rw [(putS_keep hp).1]; exact h5 p hp'), d :: r, by rw [k2]; simp⟩
     . cases h
   . cases h
theorem simJ_ok {E : Env} (HC : CallOk E) {w0 : Base} (hG : GlobB E w0) {n : Nat} {ops : Array Oper} {ja dj : Nat} {tj : TypeId} {sj : Nat} (hbt : E.bt = none) {oj : Oper} (hja : ops[ja]? = some oj) (hjk : junkOf E.P oj = some (dj, tj, sj)) (hdep : depB ops = true) {s0 : Mem} (hok : OkB s0.b.length s0.l.length s0.b) (nb : ∀ (i : Nat) b, s0.b[i]? = some b -> ∀ fl T e acc, b.kd ≠ .bld fl T e acc) {ν0 : Nu} {a0 : Act} (hz : a0.tmps.size = n) {ds : List Dn} (hK : KD s0 ds) :
   ∀ (rest : List Oper) (pops : List Oper) (pre : List Dn) (s s' : St), simJ E n ops dj tj sj rest pre s = some (ds, s') -> ops.toList = pops ++ rest -> pops.length = pre.length -> Holds' s' -> s.own = s0 ->
     (∀ L ν a w, IDJ n ops w0 ν0 s0 a0 ds ja dj tj sj L ν a w -> TR n ν s (actD L a ν 0 pops pre a0)) ->
     (∀ k, pops.length <= k -> ∀ o L ν a w, ops[k]? = some o -> IDJ n ops w0 ν0 s0 a0 ds ja dj tj sj L ν a w -> L k = false -> (∀ e ∈ o.after, Region.binds .any e = true -> L e.on = true) -> ∀ (Q : Exit -> Act -> World -> Prop) (K : Act -> World -> Prop), (∀ ν' a' w', IDJ n ops w0 ν0 s0 a0 ds ja dj tj sj (setL L k) ν' a' w' -> K a' w') -> wpOp E.P ops Q k K a w) /\
       (∀ L ν a w, IDJ n ops w0 ν0 s0 a0 ds ja dj tj sj L ν a w -> TR n ν s' (actD L a ν 0 ops.toList ds a0))
 | [], pops, pre, s, s', h, ho, hl, hh, hs, hT => by
   simp only [simJ, qS, qP] at h
   obtain ⟨rfl, rfl⟩ := h
   rw [List.append_nil] at ho
   refine ⟨fun k hk o L ν a w hko => ?_, fun L ν a w hI => by rw [ho]; exact hT L ν a w hI⟩
   exfalso
   have : k < ops.toList.length := by
     rcases Nat.lt_or_ge k ops.size with h | h
     . simpa using h
     . rw [Array.getElem?_eq_none h] at hko; cases hko
   rw [ho] at this; omega
 | o :: rest, pops, pre, s, s', h, ho, hl, hh, hs, hT => by
   unfold simJ at h
   split at h
   . rename_i d s1 hst
     split at h
     . rename_i s2 hp
       have hsd := stepJ_is hst
       obtain ⟨p1, p2, _⟩ := putS_keep hp
       obtain ⟨hob, r, hr⟩ := simJ_obl rest _ _ _ _ h
       have hh1 : Holds' s1 := fun p hp' => hh p (hob p (by rw [p1]; exact hp'))
       have hD : ds = pre ++ d :: r := by rw [hr]; simp
       have hd : ds[pre.length]? = some d := by rw [hD]; simp
       have get : ∀ (j : Nat), ops[j]? = (pops ++ o :: rest)[j]? := fun j => by rw [<- ho]; simp
       have hok' : ops[pre.length]? = some o := by rw [get, <- hl]; simp
       have low : ∀ j, j < pops.length -> ops[j]? = pops[j]? := fun j hj => by rw [get, List.getElem?_append_left hj]
       have IH := simJ_ok HC hG hbt hja hjk hdep hok nb hz hK rest (pops ++ [o]) (pre ++ [d]) s2 s' h (by rw [ho]; simp) (by simp [hl]) hh (by rw [p2, hsd.st.1, hs]) (fun L ν a w hI => by
         rw [actD_snoc L a ν o d pops pre 0 a0 hl, Nat.zero_add, hl]
         have ht1 := hsd.tr hh1 (hT L ν a w hI)
         cases hdst : o.dst with
         | none =>
           rw [hdst] at hp
           simp only [putS, qS] at hp
           subst hp
           exact ht1
         | some t =>
           have hv : Is ν d.x (valD L a ν pre.length o d) := by
             unfold valD
             simp only [hdst]
             by_cases hLk : L pre.length = true
             . rw [if_pos hLk]; exact hI.any.done pre.length o d t hok' hd hdst hLk
             . rw [if_neg hLk]; exact is_conc' ν d.x
           have := tr_put hp hv ht1
           rw [hdst] at this
           exact this)
       refine ⟨fun k hk o' L ν a w hko hI hL hrdy Q K hQ => ?_, IH.2⟩
       rcases Nat.lt_or_ge pops.length k with hlt | hge
       . exact IH.1 k (by simp; omega) o' L ν a w hko hI hL hrdy Q K hQ
       . obtain rfl : k = pre.length := by omega
         rw [hok'] at hko
         obtain rfl := Option.some.inj hko
         have dep := depB_ok hdep hok'
         refine hsd.ok HC hG hbt hh1 hdep hja hjk hs hok nb hD hK hok' (putS_lt hp) hI (hT L ν a w hI) hL hrdy (fun t ht => ?_) hQ
         have look : ∀ (j : Nat) oj, ops[j]? = some oj -> oj.dst = some t -> j < pre.length /\ L j = true := fun j oj hj hjt => by
           have hb : looksB ops o j = true := by
             unfold looksB
             rw [hj]
             exact List.any_eq_true.mpr ⟨t, ht, dstIs_iff.mpr hjt⟩
           obtain ⟨k1, e, he, hbd, hon⟩ := dep.looks j hb
           exact ⟨k1, by rw [<- hon]; exact hrdy e he hbd⟩
         refine actD_get L a ν t pops pre 0 a0 hl (by rw [hI.any.size, hz]) (fun j oj hj hjt => ?_) ?_
         . rw [Nat.zero_add]
           exact (look j oj (by rw [low j (lt_of_some_list hj)]; exact hj) hjt).2
         . by_cases hex : ∃ (j : Nat) (oj : Oper), pops[j]? = some oj /\ oj.dst = some t
           . exact .inr hex
           . left
             refine (hI.any.base t fun i oi hoi hti => ?_).symm
             exfalso
             obtain ⟨k1, _⟩ := look i oi hoi hti
             exact hex ⟨i, oi, by rw [<- low i (by omega)]; exact hoi, hti⟩
     . cases h
   . cases h
theorem findJ_ok {P : Program} : ∀ (l : List Oper) (k ja dd : Nat) (t : TypeId) (sz : Nat), findJ P l k = some (ja, dd, t, sz) -> k <= ja /\ ∃ o, l[ja - k]? = some o /\ junkOf P o = some (dd, t, sz)
 | [], k, ja, dd, t, sz, h => by cases h
 | o :: r, k, ja, dd, t, sz, h => by
   unfold findJ at h
   split at h
   . rename_i d' t' sz' hj
     simp only [qS, qP] at h
     obtain ⟨rfl, rfl, rfl, rfl⟩ := h
     exact ⟨Nat.le_refl _, o, by simp, hj⟩
   . obtain ⟨h1, o', h2, h3⟩ := findJ_ok r (k + 1) ja dd t sz h
     refine ⟨by omega, o', ?_, h3⟩
     rw [show ja - k = (ja - (k + 1)) + 1 by omega]
     simpa using h2
theorem regionJ_some {E : Env} {n : Nat} {ops : Array Oper} {s s' : St} (h : regionJ E n ops s = some s') : ∃ (ja dd : Nat) (t : TypeId) (sz : Nat) (oj : Oper) (ds : List Dn) (s1 : St), ops[ja]? = some oj /\ junkOf E.P oj = some (dd, t, sz) /\ E.bt = none /\ (∀ (i : Nat) b, s.own.b[i]? = some b -> ∀ fl T e acc, b.kd ≠ .bld fl T e acc) /\ depB ops = true /\ simJ E n ops dd t sz ops.toList [] s = some (ds, s1) /\ s' = { s1 with own := { s1.own with l := s1.own.l ++ newsL (fun _ => true) 0 ds } } := by
 unfold regionJ at h
 split at h
 . rename_i ja dd t sz hf
   obtain ⟨_, oj, h2, h3⟩ := findJ_ok _ _ _ _ _ _ hf
   rw [Nat.sub_zero] at h2
   cases hb : (E.bt.isNone && noBld s.own && depB ops)
   . rw [hb] at h; cases h
   . rw [hb] at h
     simp only [cond_true] at h
     simp only [Bool.and_eq_true, Option.isNone_iff_eq_none] at hb
     split at h
     . rename_i ds s1 hs
       simp only [qS] at h
       refine ⟨ja, dd, t, sz, oj, ds, s1, by simpa using h2, h3, hb.1.1, fun i b hi fl T e acc hk => ?_, hb.2, hs, h.symm⟩
       have := List.all_eq_true.mp hb.1.2 b (List.mem_of_getElem? hi)
       rw [hk] at this; cases this
     . cases h
 . cases h
theorem regionJ_st {E : Env} {n : Nat} {ops : Array Oper} {s s' : St} (h : regionJ E n ops s = some s') (hg : Good s) : Le s s' /\ Good s' /\ s'.mem = s.mem := by
 obtain ⟨ja, dj, tj, sj, oj, ds, s1, hja, hjk, hbt, nb, hd, hs, rfl⟩ := regionJ_some h
 obtain ⟨_, k2, k3, k4, k5, k6, k7, k8⟩ := simJ_st (s0 := s.own) _ _ _ _ _ hs rfl (fun i d hi => by simp at hi) (fun p hp => by simpa [newsL] using hg.ok p hp)
 refine ⟨⟨k6, by show _ <= s1.own.b.length; rw [k2]; exact Nat.le_refl _, by show _ <= (s1.own.l ++ _).length; rw [k2]; simp, k4, k5, fun i hi => by show s1.own.b[i]? = _; rw [k2], fun i hi => by show (s1.own.l ++ _)[i]? = _; rw [k2]; exact List.getElem?_append_left (Nat.lt_of_lt_of_le hi hg.llo)⟩, ⟨?_, ?_, fun p hp => ?_, ?_⟩, k3⟩
 . show s1.lo <= s1.own.b.length; rw [k4, k2]; exact hg.lo
 . show s1.llo <= (s1.own.l ++ newsL (fun _ => true) 0 ds).length; rw [k5, k2, List.length_append]; exact Nat.le_trans hg.llo (by omega)
 . show okV s1.own.b.length (s1.own.l ++ newsL (fun _ => true) 0 ds).length p.2; rw [k2, List.length_append]; exact k8 p hp
 . show OkB s1.own.b.length (s1.own.l ++ newsL (fun _ => true) 0 ds).length s1.own.b; rw [k2, List.length_append]; exact hg.okb.mono (Nat.le_refl _) (by omega)
theorem regionJ_ok {E : Env} (HC : CallOk E) {w0 : Base} (hG : GlobB E w0) {id n : Nat} {ops : Array Oper} {s s' : St} (hm : E.P.follows .mixedOrders = true) (h : regionJ E n ops s = some s') (hg : Good s) (hh : Holds' s') {Q : Exit -> Act -> World -> Prop} {ν0 : Nu} {a0 : Act} {w : World} (ht : TR n ν0 s a0) (hw : WR w0 ν0 s.own true w)
   (hQ : ∀ ν' a' w', Ag s.own ν0 ν' -> TR n ν' s' a' -> WR w0 ν' s'.own true w' -> Q .normal a' w') : (Code.region id ops true).wp E.P Q a0 w := by
 obtain ⟨ja, dj, tj, sj, oj, ds, s1, hja, hjk, hbt, nb, hd, hs, rfl⟩ := regionJ_some h
 obtain ⟨⟨r0, r1, r2⟩, k2, k3, k4, k5, k6, k7, k8⟩ := simJ_st (s0 := s.own) _ _ _ _ _ hs rfl (fun i d hi => by simp at hi) (fun p hp => by simpa [newsL] using hg.ok p hp)
 have hdl : ds.length = ops.size := by rw [r1, List.nil_append, r2]; simp
 obtain ⟨step, fin⟩ := simJ_ok HC hG hbt hja hjk hd hg.okb nb (ν0 := ν0) (a0 := a0) ht.size k7 ops.toList [] [] s s1 hs rfl rfl hh rfl (fun L ν a w hI => by
   show TR n ν s a0
   exact ht.move hg hI.any.ag rfl)
 have hrep : lstB (Array.replicate ops.size false) = fun _ => false := by
   funext j
   unfold lstB
   simp only [Array.getD_eq_getD_getElem?, Array.getElem?_replicate]
   split <;> rfl
 refine wp_region_any hm (wpAny_steps (I := fun L a w => ∃ ν, IDJ n ops w0 ν0 s.own a0 ds ja dj tj sj L ν a w) (fun L i o a w ho hI hL hr K hK => ?_) (fun L a w hall hI => ?_) (fun i o ho e he hb => (depB_ok hd ho).low e he hb) ops.size (Array.replicate ops.size false) a0 _ (by simp) ?_ ?_)
 . obtain ⟨ν, hI⟩ := hI
   exact step i (Nat.zero_le _) o L ν a w ho hI hL hr Q K fun ν' a' w' hI' => hK a' w' ⟨ν', hI'⟩
 . obtain ⟨ν, hI⟩ := hI
   have hT := fin L ν a w hI
   have same : ∀ t, (actD L a ν 0 ops.toList ds a0).tmps.getD t undef = a.tmps.getD t undef := fun t => by
     refine actD_get L a ν t ops.toList ds 0 a0 (by simp [hdl]) (by rw [hI.any.size, ht.size]) (fun j oj hj _ => by rw [Nat.zero_add]; exact hall j (by simpa using lt_of_some_list hj)) ?_
     by_cases hex : ∃ (j : Nat) (oj : Oper), ops.toList[j]? = some oj /\ oj.dst = some t
     . exact .inr hex
     . left
       refine (hI.any.base t fun i oi hoi hti => ?_).symm
       exact absurd ⟨i, oi, by simpa using hoi, hti⟩ hex
   have hL : newsL L 0 ds = newsL (fun _ => true) 0 ds := newsL_congr ds 0 fun j _ hj => hall j (by omega)
   have hwr := hI.any.wr
   rw [hL] at hwr
   refine hQ ν a w hI.any.ag ⟨hI.any.size, fun t => ?_, hI.any.df⟩ (by show WR w0 ν { s1.own with l := s1.own.l ++ newsL (fun _ => true) 0 ds } true w; rw [k2]; exact hwr)
   have := hT.tm t
   rw [same t] at this
   exact this
 . have := List.length_filter_le (fun i => !lstB (Array.replicate ops.size false) i) (List.range ops.size)
   simpa using this
 . rw [hrep]
   refine ⟨ν0, ⟨fun _ => ⟨Agree.refl _ _ _, ht.size, ht.df, fun _ _ => rfl, fun i o d t _ _ _ hL => (by cases hL), ?_⟩, fun h => by cases h⟩⟩
   refine hw.drew.kill rfl (fun p e hp hde => ?_) (hg.okb.mono (Nat.le_refl _) (by simp))
   have hp : (s.own.l ++ newsL (fun _ => false) 0 ds)[p]? = some e := hp
   rcases Nat.lt_or_ge p s.own.l.length with hl | hl
   . rw [List.getElem?_append_left hl] at hp; exact hp
   . rw [List.getElem?_append_right hl] at hp
     rw [newsL_dead ds _ _ e hp] at hde; cases hde
end Go.Proofs.Ytmaffamhjmlonaa.S2
namespace Go.Proofs.Ytmaffamhjmlonaa.S2
open Go Go.RowKit Sim
theorem addN_mem {x : Nat} : ∀ (r l : List Nat), x ∈ addN l r -> x ∈ l \/ x ∈ r
 | [], l, h => .inl h
 | k :: r, l, h => by
   unfold addN at h
   cases hb : l.any (Nat.beq k)
   . rw [hb] at h
     rcases addN_mem r _ h with h | h
     . rcases List.mem_append.mp h with h | h
       . exact .inl h
       . exact .inr (by rw [List.mem_singleton.mp h]; exact List.mem_cons_self)
     . exact .inr (List.mem_cons_of_mem _ h)
   . rw [hb] at h
     rcases addN_mem r _ h with h | h
     . exact .inl h
     . exact .inr (List.mem_cons_of_mem _ h)
def CloL (ops : Array Oper) (L : Nat -> Bool) : Prop := ∀ i o, ops[i]? = some o -> L i = true -> ∀ e ∈ o.after, Region.binds .any e = true -> L e.on = true
theorem aftA_ok {L : Nat -> Bool} {o : Oper} (h : ∀ e ∈ o.after, Region.binds .any e = true -> L e.on = true) : ∀ x ∈ aftA o, L x = true := fun x hx => by
 unfold aftA at hx
 obtain ⟨e, he, rfl⟩ := List.mem_map.mp hx
 obtain ⟨h1, h2⟩ := List.mem_filter.mp he
 exact h e (by simpa using h1) h2
theorem ancA_ok {ops : Array Oper} {L : Nat -> Bool} (hc : CloL ops L) : ∀ (k : Nat) (xs : List Nat), (∀ x ∈ xs, L x = true) -> ∀ x ∈ ancA ops k xs, L x = true
 | 0, xs, h => h
 | k + 1, xs, h => ancA_ok hc k _ fun x hx => by
   rcases addN_mem _ _ hx with hx | hx
   . exact h x hx
   . obtain ⟨i, hi, hx⟩ := List.mem_flatMap.mp hx
     split at hx
     . rename_i o ho
       exact aftA_ok (hc i o ho (h i hi)) x hx
     . cases hx
theorem CloL.set {ops : Array Oper} {L : Nat -> Bool} (hc : CloL ops L) {i : Nat} {o : Oper} (ho : ops[i]? = some o) (hr : ∀ e ∈ o.after, Region.binds .any e = true -> L e.on = true) : CloL ops (setL L i) := fun j oj hj hL e he hb => by
 have key : L e.on = true -> setL L i e.on = true := fun h => by unfold setL; split <;> first | rfl | exact h
 by_cases hji : j = i
 . subst hji
   rw [ho] at hj
   obtain rfl := Option.some.inj hj
   exact key (hr e he hb)
 . unfold setL at hL
   rw [if_neg hji] at hL
   exact key (hc j oj hj hL e he hb)
theorem any_mem {l : List Nat} {j : Nat} (h : l.any (Nat.beq j) = true) : j ∈ l := by
 obtain ⟨k, hk, hb⟩ := List.any_eq_true.mp h
 rw [qB hb]; exact hk
theorem stepT_st {E : Env} {cl : Callee} (hst : ClSt cl) {n : Nat} {o : Oper} {s s' : St} (h : stepT E cl n o s = some s') (hg : Good s) : Le s s' /\ Good s' /\ (s.mem = true -> s'.mem = true) := by
 unfold stepT at h
 split at h
 . rename_i x own q hfx
   obtain ⟨f1, f2, f3, f4, f5, f6⟩ := simFX_st hfx hg
   have gm : Good { s with own := own, mem := true, obl := more s q } := hg.grow rfl rfl rfl f2 f3 f6
   have lm : Le s { s with own := own, mem := true, obl := more s q } := ⟨more_ext s q, f2, f3, rfl, rfl, f4, f5⟩
   obtain ⟨g3, l3⟩ := putS_good h gm f1
   obtain ⟨_, _, p3, _⟩ := putS_keep h
   exact ⟨lm.trans l3, g3, fun _ => p3⟩
 . split at h
   . rename_i x c q hro
     have gn : Good { s with mem := s.mem || c, obl := more s q } := ⟨hg.lo, hg.llo, hg.ok, hg.okb⟩
     obtain ⟨g4, l4⟩ := putS_good h gn (show okV s.own.b.length s.own.l.length x from simRO_st hro hg)
     obtain ⟨_, _, r3, _⟩ := putS_keep h
     exact ⟨(Le.same (s' := { s with mem := s.mem || c, obl := more s q }) (more_ext s q) rfl rfl rfl).trans l4, g4, fun hm => by rw [r3]; show (s.mem || c) = true; rw [hm]; rfl⟩
   . split at h
     . rename_i f args hca
       have hok1 : ∀ y ∈ args, okV s.own.b.length s.own.l.length y := callArgs_okV hca hg
       split at h
       . rename_i x s2 hc
         obtain ⟨c1, c2, c3⟩ := hst f args s _ s2 hg.lo hg.llo hg.okb hok1 hc
         have gm : Good { s with own := s2.own, mem := true, orc := s2.orc, obl := s2.obl } := hg.grow rfl rfl rfl c1.len c1.llen c3
         obtain ⟨g3, l3⟩ := putS_good h gm c2
         obtain ⟨_, _, p3, _⟩ := putS_keep h
         exact ⟨(show Le s { s with own := s2.own, mem := true, orc := s2.orc, obl := s2.obl } from ⟨c1.ext, c1.len, c1.llen, rfl, rfl, c1.keep, c1.lkeep⟩).trans l3, g3, fun _ => p3⟩
       . cases h
     . cases h
theorem tailS_st {E : Env} {cl : Callee} (hst : ClSt cl) {n : Nat} : ∀ (l : List Oper) (s s' : St), tailS E cl n l s = some s' -> Good s -> Le s s' /\ Good s' /\ (s.mem = true -> s'.mem = true)
 | [], s, s', h, hg => by
   simp only [tailS, qS] at h
   subst h; exact ⟨Le.refl _, hg, fun h => h⟩
 | o :: r, s, s', h, hg => by
   unfold tailS at h
   split at h
   . rename_i s1 h1
     obtain ⟨a, b, c⟩ := stepT_st hst h1 hg
     obtain ⟨d, e, f⟩ := tailS_st hst r s1 s' h b
     exact ⟨a.trans d, e, fun hm => f (c hm)⟩
   . cases h
theorem tailS_append {E : Env} {cl : Callee} {n : Nat} : ∀ (l r : List Oper) (s s' : St), tailS E cl n (l ++ r) s = some s' -> ∃ s1, tailS E cl n l s = some s1 /\ tailS E cl n r s1 = some s'
 | [], r, s, s', h => ⟨s, rfl, h⟩
 | o :: l, r, s, s', h => by
   rw [List.cons_append] at h
   unfold tailS at h
   split at h
   . rename_i s1 h1
     obtain ⟨s2, a, b⟩ := tailS_append l r s1 s' h
     exact ⟨s2, by unfold tailS; rw [h1]; exact a, b⟩
   . cases h
theorem tailS_snoc {E : Env} {cl : Callee} {n : Nat} {l : List Oper} {o : Oper} {s s1 s2 : St} (h : tailS E cl n l s = some s1) (h2 : stepT E cl n o s1 = some s2) : tailS E cl n (l ++ [o]) s = some s2 := by
 induction l generalizing s with
 | nil =>
   simp only [tailS, qS] at h
   subst h
   show (match stepT E cl n o s with | some s1 => tailS E cl n [] s1 | none => none) = _
   rw [h2]; rfl
 | cons x r ih =>
   unfold tailS at h
   split at h
   . rename_i s3 h3
     show (match stepT E cl n x s with | some s1 => tailS E cl n (r ++ [o]) s1 | none => none) = _
     rw [h3]; exact ih h
   . cases h
theorem stepT_ok {E : Env} (HC : CallOk E) {cl : Callee} (hst : ClSt cl) {w0 : Base} (hok : ClOk E w0 cl) (hG : GlobB E w0) {n : Nat} {o : Oper} {s s' : St} (h : stepT E cl n o s = some s') (hh : Holds' s') (hg : Good s) (hm : s.mem = true) {ν : Nu} {a : Act} {w : World} {K : Act -> World -> Prop} {Q : Exit -> Act -> World -> Prop}
   (ht : TR n ν s a) (hw : WR w0 ν s.own true w) (hK : ∀ ν' a' w', Ag s.own ν ν' -> TR n ν' s' a' -> WR w0 ν' s'.own true w' -> K a' w') : o.wp E.P a w K Q := by
 unfold stepT at h
 split at h
 . rename_i x own q hfx
   obtain ⟨u1, u2, _, _, _, _⟩ := putS_keep h
   have hh3' : Holds' { s with own := own, mem := true, obl := more s q } := fun p hp => hh p (by rw [u1]; exact hp)
   obtain ⟨hq, _⟩ := more_q (s := s) (q := q) hh3'
   refine op_fx hG hfx hq hg ht (by rw [hm]; exact hw) fun ν' v w' ha hv hw' => ?_
   exact hK ν' _ w' ha (tr_put h hv (ht.move hg ha rfl)) (by rw [u2]; exact hw')
 . split at h
   . rename_i x c q hro
     obtain ⟨u1, u2, _, _, _, _⟩ := putS_keep h
     have hh3' : Holds' { s with mem := s.mem || c, obl := more s q } := fun p hp => hh p (by rw [u1]; exact hp)
     obtain ⟨hq, _⟩ := more_q (s := s) (q := q) hh3'
     refine op_ro HC hG hro hq hg ht (by rw [hm]; exact hw) fun v w' hv hw' => ?_
     refine hK ν _ w' (Agree.refl _ _ _) (tr_put h hv (ht.of rfl)) ?_
     rw [u2]
     rw [hm, Bool.true_or] at hw'; exact hw'
   . split at h
     . rename_i f args hca
       have hok1 : ∀ y ∈ args, okV s.own.b.length s.own.l.length y := callArgs_okV hca hg
       split at h
       . rename_i x s2 hc
         obtain ⟨u1, u2, _, _, _, _⟩ := putS_keep h
         have hh2 : Holds' s2 := fun p hp => hh p (by rw [u1]; exact hp)
         obtain ⟨vs, hvs, hrun⟩ := callArgs_run (P := E.P) hca ht
         obtain ⟨hf, hcalls⟩ := hok f args s x s2 hg.lo hg.llo hok1 hc hh2 ν w vs hvs (by rw [hm]; exact hw)
         unfold Oper.wp
         rw [hrun hf w, Oper.upon_enter]
         refine hcalls.mono fun e w' ⟨ν', v, ha, he, hv, hw'⟩ => ?_
         subst he
         exact hK ν' _ w' ha (tr_put h hv (ht.move hg ha rfl)) (by rw [u2]; exact hw'.mem)
       . cases h
     . cases h
def setK (L : Nat -> Bool) (b : Nat) : Nat -> Nat -> Bool
 | 0 => L
 | m + 1 => setL (setK L b m) (b + m)
theorem setK_lo {L : Nat -> Bool} {b j : Nat} (h : j < b) : ∀ m, setK L b m j = L j
 | 0 => rfl
 | m + 1 => by
   show setL (setK L b m) (b + m) j = _
   unfold setL; rw [if_neg (by omega)]; exact setK_lo h m
theorem setK_in {L : Nat -> Bool} {b j : Nat} (h : b <= j) : ∀ m, j < b + m -> setK L b m j = true
 | 0, h2 => by omega
 | m + 1, h2 => by
   show setL (setK L b m) (b + m) j = _
   unfold setL
   split
   . rfl
   . exact setK_in h m (by omega)
theorem setK_hi {L : Nat -> Bool} {b j : Nat} : ∀ m, b + m <= j -> setK L b m j = L j
 | 0, _ => rfl
 | m + 1, h => by
   show setL (setK L b m) (b + m) j = _
   unfold setL; rw [if_neg (by omega)]; exact setK_hi m (by omega)
structure TailN (E : Env) (cl : Callee) (n k : Nat) (ops : Array Oper) (s s4 : St) (b : Nat) (T : List Oper) (s2 : St) : Prop where
 bk : b + k = ops.size
 k0 : 0 < k
 tl : T.length = k
 at_ : ∀ m, m < k -> ops[b + m]? = T[m]?
 grd : ∀ o ∈ ops.toList, o.guard = none
 anc : ∀ m, m < k -> ∀ o, T[m]? = some o -> ∀ j, j < b + m -> j ∈ ancA ops ops.size (aftA o)
 reg : regionD E n (ops.toList.take b ++ T.map noopT).toArray s = some s2
 run : tailS E cl n T s2 = some s4
theorem tailN_some {E : Env} {cl : Callee} {n k : Nat} {ops : Array Oper} {s s4 : St} (h : tailN E cl n k ops s = some s4) : ∃ b T s2, TailN E cl n k ops s s4 b T s2 := by
 unfold tailN at h
 simp only [cond_eq_ite] at h
 split at h
 . rename_i hc
   simp only [Bool.and_eq_true] at hc
   obtain ⟨⟨⟨c1, c2⟩, c3⟩, c4⟩ := hc
   have hk : k <= ops.size := Nat.le_of_ble_eq_true c2
   split at h
   . rename_i s2 hr
     have hat : ∀ m, m < k -> ops[ops.size - k + m]? = (ops.toList.drop (ops.size - k))[m]? := fun m hm => by
       rw [List.getElem?_drop, Array.getElem?_toList]
     refine ⟨ops.size - k, ops.toList.drop (ops.size - k), s2, by omega, by simpa [Nat.blt_eq] using c3, by rw [List.length_drop, Array.length_toList]; omega, hat, fun o ho => ?_, fun m hm o hT j hj => ?_, hr, h⟩
     . exact Option.isNone_iff_eq_none.mp (List.all_eq_true.mp c1 o ho)
     . have := List.all_eq_true.mp (List.all_eq_true.mp c4 m (List.mem_range.mpr hm)) j (List.mem_range.mpr hj)
       have h2 := any_mem this
       rw [hat m hm, hT] at h2
       exact h2
   . cases h
 . cases h
theorem tailN_st {E : Env} {cl : Callee} (hst : ClSt cl) {n k : Nat} {ops : Array Oper} {s s' : St} (h : tailN E cl n k ops s = some s') (hm : s.mem = true) (hg : Good s) : Le s s' /\ Good s' /\ s'.mem = true := by
 obtain ⟨b, T, s2, H⟩ := tailN_some h
 obtain ⟨l1, g2, m2⟩ := regionD_st H.reg hg
 obtain ⟨l2, g3, m3⟩ := tailS_st hst T s2 s' H.run g2
 exact ⟨l1.trans l2, g3, m3 (m2.trans hm)⟩
theorem tailN_ok {E : Env} (HC : CallOk E) {cl : Callee} (hst : ClSt cl) {w0 : Base} (hok : ClOk E w0 cl) (hG : GlobB E w0) {id n k : Nat} {ops : Array Oper} {s s' : St} (hm : E.P.follows .mixedOrders = true) (hsm : s.mem = true) (h : tailN E cl n k ops s = some s') (hg : Good s) (hh : Holds' s') {Q : Exit -> Act -> World -> Prop} {ν0 : Nu} {a0 : Act} {w : World} (ht : TR n ν0 s a0) (hw : WR w0 ν0 s.own true w)
   (hQ : ∀ ν' a' w', Ag s.own ν0 ν' -> TR n ν' s' a' -> WR w0 ν' s'.own true w' -> Q .normal a' w') : (Code.region id ops true).wp E.P Q a0 w := by
 obtain ⟨b, T, s2, H⟩ := tailN_some h
 obtain ⟨le2, g2, mm2⟩ := regionD_st H.reg hg
 have mem2 : s2.mem = true := mm2.trans hsm
 have hk0 := H.k0
 have hbk := H.bk
 have hTl := H.tl
 have pre_ : ∀ m, m <= k -> ∃ sm, tailS E cl n (T.take m) s2 = some sm /\ Good sm /\ sm.mem = true /\ Holds' sm /\ Le s2 sm /\ ∀ o, T[m]? = some o -> ∃ sn, stepT E cl n o sm = some sn /\ tailS E cl n (T.take (m + 1)) s2 = some sn /\ Holds' sn := fun m hm => by
   have hrun := H.run
   rw [<- List.take_append_drop m T] at hrun
   obtain ⟨sm, h1, h2⟩ := tailS_append _ _ _ _ hrun
   obtain ⟨a1, a2, a3⟩ := tailS_st hst _ _ _ h1 g2
   obtain ⟨b1, _, _⟩ := tailS_st hst _ _ _ h2 a2
   refine ⟨sm, h1, a2, a3 mem2, fun p hp => hh p (b1.ext p hp), a1, fun o ho => ?_⟩
   have hd : T.drop m = o :: T.drop (m + 1) := by
     obtain ⟨hlt, he⟩ := List.getElem?_eq_some_iff.mp ho
     rw [List.drop_eq_getElem_cons hlt, he]
   rw [hd] at h2
   unfold tailS at h2
   split at h2
   . rename_i sn h3
     have g4 := (stepT_st hst h3 a2).2.1
     obtain ⟨c1, _, _⟩ := tailS_st hst _ _ _ h2 g4
     refine ⟨sn, h3, ?_, fun p hp => hh p (c1.ext p hp)⟩
     have : T.take (m + 1) = T.take m ++ [o] := by rw [List.take_add_one, ho]; rfl
     rw [this]
     exact tailS_snoc h1 h3
   . cases h2
 have hh2 : Holds' s2 := by
   obtain ⟨sm, _, _, _, h4, h5, _⟩ := pre_ 0 (by omega)
   exact fun p hp => h4 p (h5.ext p hp)
 obtain ⟨ops0, hops0⟩ : ∃ ops0, (ops.toList.take b ++ T.map noopT).toArray = ops0 := ⟨_, rfl⟩
 have hr := H.reg
 rw [hops0] at hr
 have hd : depB ops0 = true := by
   unfold regionD at hr
   cases hd : depB ops0
   . rw [hd] at hr; cases hr
   . rfl
 have hl0 : ops0.toList = ops.toList.take b ++ T.map noopT := by rw [<- hops0]
 have htk : (ops.toList.take b).length = b := by rw [List.length_take, Array.length_toList]; omega
 have hsz0 : ops0.size = b + k := by rw [<- hops0]; simp only [List.size_toArray, List.length_append, List.length_map]; omega
 have get : ∀ i, i < b -> ops[i]? = ops0[i]? := fun i hi => by
   rw [<- Array.getElem?_toList, <- Array.getElem?_toList, hl0, List.getElem?_append_left (by omega), List.getElem?_take, if_pos hi]
 have get0 : ∀ m, m < k -> ∀ o, T[m]? = some o -> ops0[b + m]? = some (noopT o) := fun m hm o ho => by
   rw [<- Array.getElem?_toList, hl0, List.getElem?_append_right (by omega), htk, show b + m - b = m by omega, List.getElem?_map, ho]; rfl
 have getn : ∀ i, b + k <= i -> ops[i]? = none /\ ops0[i]? = none := fun i hi => ⟨Array.getElem?_eq_none (by omega), Array.getElem?_eq_none (by omega)⟩
 have someT : ∀ m, m < k -> ∃ o, T[m]? = some o := fun m hm => ⟨T[m], List.getElem?_eq_getElem (by omega)⟩
 have hgrd : ∀ (i : Nat) o, ops[i]? = some o -> o.guard = none := fun i o ho => H.grd o (by
   rw [<- Array.getElem?_toList] at ho; exact List.mem_of_getElem? ho)
 have hgrd0 : ∀ (i : Nat) o, ops0[i]? = some o -> o.guard = none := fun i o ho => by
   rcases Nat.lt_or_ge i b with hi | hi
   . exact hgrd i o (by rw [get i hi]; exact ho)
   . rcases Nat.lt_or_ge i (b + k) with h2 | h2
     . obtain ⟨m, rfl⟩ : ∃ m, i = b + m := ⟨i - b, by omega⟩
       obtain ⟨o', ho'⟩ := someT m (by omega)
       rw [get0 m (by omega) o' ho'] at ho
       obtain rfl := Option.some.inj ho
       exact hgrd (b + m) o' (by rw [H.at_ m (by omega)]; exact ho')
     . rw [(getn i h2).2] at ho; cases ho
 unfold regionD at hr
 rw [hd] at hr
 simp only [cond_true] at hr
 split at hr
 rotate_left
 . cases hr
 rename_i ds s1 hs
 simp only [qS] at hr
 have hs2 := hr
 have hh1 : Holds' s1 := by rw [<- hr] at hh2; exact hh2
 obtain ⟨⟨r0, r1, r2⟩, k2, k3, k4, k5, k6, k7, k8⟩ := simD_st (s0 := s.own) _ _ _ _ _ hs rfl (fun i d hi => by simp at hi) (fun p hp => by simpa [newsL] using hg.ok p hp)
 have hdl : ds.length = ops0.size := by rw [r1, List.nil_append, r2]; simp
 have SD := fun Q' : Exit -> Act -> World -> Prop => simD_ok HC hG hd hg.okb (ν0 := ν0) (a0 := a0) ht.size k7 ops0.toList [] [] s s1 hs rfl rfl hh1 rfl (fun L ν a w hI => by
   show TR n ν s a0
   exact ht.move hg hI.ag rfl)
 obtain ⟨step, fin⟩ := SD Q
 have hrep : lstB (Array.replicate ops.size false) = fun _ => false := by
   funext j
   unfold lstB
   simp only [Array.getD_eq_getD_getElem?, Array.getElem?_replicate]
   split <;> rfl
 have noop : ∀ (k : Nat) (o : Oper) L ν a w, ops0[k]? = some (noopT o) -> ID n ops0 w0 ν0 s.own a0 ds L ν a w -> L k = false -> (∀ e ∈ o.after, Region.binds .any e = true -> L e.on = true) -> ∃ ν', ID n ops0 w0 ν0 s.own a0 ds (setL L k) ν' a w := fun k o L ν a w hk hI hL hr => by
   have hnoop := (SD fun _ _ _ => False).1 k (Nat.zero_le _) (noopT o) L ν a w hk hI hL hr (fun _ _ _ => False) (fun a' w' => ∃ ν', ID n ops0 w0 ν0 s.own a0 ds (setL L k) ν' a' w') fun ν' a' w' hI' => ⟨ν', hI'⟩
   unfold wpOp at hnoop
   rw [hk] at hnoop
   have hg0 := hgrd0 k _ hk
   have hwt : Region.wanted (noopT o) (yielded ops0 a.tmps) = true := by simp [Region.wanted, hg0]
   simp only [hwt, if_true] at hnoop
   rcases hnoop with hn | ⟨_, _, _, hf⟩
   . unfold Oper.wp at hn
     rw [show (execOp a.eval (noopT o)).run E.P w = .ok (.value undef) w by simp [execOp, noopT, Act.eval], Oper.upon_value] at hn
     have e : a.put (noopT o).dst undef = a := rfl
     rw [e] at hn; exact hn
   . exact hf.elim
 have noops : ∀ L ν a w, (∀ j, j < b -> L j = true) -> (∀ m, m < k -> L (b + m) = false) -> ID n ops0 w0 ν0 s.own a0 ds L ν a w -> ∀ m, m <= k -> ∃ ν', ID n ops0 w0 ν0 s.own a0 ds (setK L b m) ν' a w := fun L ν a w hL hF hI m => by
   induction m with
   | zero => exact fun _ => ⟨ν, hI⟩
   | succ m ih =>
     intro hm
     obtain ⟨ν1, hI1⟩ := ih (by omega)
     obtain ⟨o, ho⟩ := someT m (by omega)
     have hk := get0 m (by omega) o ho
     refine noop (b + m) o (setK L b m) ν1 a w hk hI1 (by rw [setK_hi m (Nat.le_refl _)]; exact hF m (by omega)) fun e he hb => ?_
     have hlt := (depB_ok hd hk).low e he hb
     rcases Nat.lt_or_ge e.on b with h1 | h1
     . rw [setK_lo h1]; exact hL _ h1
     . exact setK_in h1 m hlt
 refine wp_region_any hm (wpAny_steps (I := fun L a w => CloL ops L /\ (((∀ m, m < k -> L (b + m) = false) /\ ∃ ν, ID n ops0 w0 ν0 s.own a0 ds L ν a w) \/ ∃ m, 0 < m /\ m <= k /\ (∀ j, j < b + m -> L j = true) /\ (∀ j, b + m <= j -> j < b + k -> L j = false) /\ ∃ sm ν, tailS E cl n (T.take m) s2 = some sm /\ Ag s.own ν0 ν /\ TR n ν sm a /\ WR w0 ν sm.own true w)) (fun L i o' a w ho hI hL hr K hK => ?_) (fun L a w hall hI => ?_) (fun i o' ho e he hb => ?_) ops.size (Array.replicate ops.size false) a0 _ (by simp) ?_ ?_)
 . obtain ⟨hclo, hI⟩ := hI
   have hclo' := hclo.set ho hr
   have hi : i < b + k := by
     rcases Nat.lt_or_ge i (b + k) with h | h
     . exact h
     . rw [(getn i h).1] at ho; cases ho
   have hwt : ∀ tm, Region.wanted o' (yielded ops tm) = true := fun tm => by simp [Region.wanted, hgrd i o' ho]
   rcases Nat.lt_or_ge i b with hlt | hge
   . rcases hI with ⟨hF, ν, hI⟩ | ⟨m, _, _, hLa, _⟩
     . have ho0 : ops0[i]? = some o' := by rw [<- get i hlt]; exact ho
       have := step i (Nat.zero_le _) o' L ν a w ho0 hI hL hr Q K fun ν' a' w' hI' => hK a' w' ⟨hclo', .inl ⟨fun m hm => by unfold setL; rw [if_neg (by omega)]; exact hF m hm, ν', hI'⟩⟩
       have hwt0 : ∀ tm, Region.wanted o' (yielded ops0 tm) = true := fun tm => by simp [Region.wanted, hgrd i o' ho]
       unfold wpOp at this ⊢
       rw [ho0] at this
       rw [ho]
       simp only [hwt, hwt0, if_true] at this ⊢
       exact this
     . have := hLa i (by omega); rw [hL] at this; cases this
   . obtain ⟨m0, rfl⟩ : ∃ m, i = b + m := ⟨i - b, by omega⟩
     have hTm : T[m0]? = some o' := by rw [<- H.at_ m0 (by omega)]; exact ho
     have hanc := ancA_ok hclo ops.size (aftA o') (aftA_ok hr)
     have hbel : ∀ j, j < b + m0 -> L j = true := fun j hj => hanc j (H.anc m0 (by omega) o' hTm j hj)
     have one : ∀ sm ν, tailS E cl n (T.take m0) s2 = some sm -> Ag s.own ν0 ν -> TR n ν sm a -> WR w0 ν sm.own true w -> (∀ j, b + m0 <= j -> j < b + k -> L j = false) -> wpOp E.P ops Q (b + m0) K a w := fun sm ν hsm' hag htr hwr hF => by
       obtain ⟨sm', q1, q2, q3, q4, q5, q6⟩ := pre_ m0 (by omega)
       rw [hsm'] at q1
       obtain rfl := Option.some.inj q1
       obtain ⟨sn, t1, t2, t3⟩ := q6 o' hTm
       unfold wpOp
       rw [ho]
       simp only [hwt, if_true]
       left
       refine stepT_ok HC hst hok hG t1 t3 q2 q3 htr hwr fun ν' a' w' ha ht' hw' => hK a' w' ⟨hclo', .inr ⟨m0 + 1, by omega, by omega, fun j hj => ?_, fun j h1 h2 => ?_, sn, ν', t2, ?_, ht', hw'⟩⟩
       . unfold setL
         split
         . rfl
         . exact hbel j (by omega)
       . unfold setL
         rw [if_neg (by omega)]; exact hF j (by omega) h2
       . exact Agree.trans hag ha (Nat.le_trans (le2.len) q5.len) (Nat.le_trans le2.llen q5.llen)
     rcases hI with ⟨hF, ν, hI⟩ | ⟨m, hm1, hm2, hLa, hLb, sm, ν, h1, h2, h3, h4⟩
     . rcases Nat.eq_zero_or_pos m0 with rfl | hpos
       . obtain ⟨ν', hI'⟩ := noops L ν a w (fun j hj => hbel j (by omega)) hF hI k (Nat.le_refl _)
         have hall' : ∀ j, j < ops0.size -> setK L b k j = true := fun j hj => by
           rcases Nat.lt_or_ge j b with h1 | h1
           . rw [setK_lo h1]; exact hbel j (by omega)
           . exact setK_in h1 k (by omega)
         have hT := fin (setK L b k) ν' a w hI'
         have same : ∀ t, (actD (setK L b k) a ν' 0 ops0.toList ds a0).tmps.getD t undef = a.tmps.getD t undef := fun t => by
           refine actD_get (setK L b k) a ν' t ops0.toList ds 0 a0 (by simp [hdl]) (by rw [hI'.size, ht.size]) (fun j oj hj _ => by rw [Nat.zero_add]; exact hall' j (by simpa using lt_of_some_list hj)) ?_
           by_cases hex : ∃ (j : Nat) (oj : Oper), ops0.toList[j]? = some oj /\ oj.dst = some t
           . exact .inr hex
           . left
             refine (hI'.base t fun i oi hoi hti => ?_).symm
             exact absurd ⟨i, oi, by simpa using hoi, hti⟩ hex
         have hLn : newsL (setK L b k) 0 ds = newsL (fun _ => true) 0 ds := newsL_congr ds 0 fun j _ hj => hall' j (by omega)
         have hwr := hI'.wr
         rw [hLn] at hwr
         have tr2 : TR n ν' { s1 with own := { s1.own with l := s1.own.l ++ newsL (fun _ => true) 0 ds } } a := ⟨hI'.size, fun t => by
           have := hT.tm t
           rw [same t] at this
           exact this, hI'.df⟩
         have wr2 : WR w0 ν' { s1.own with l := s1.own.l ++ newsL (fun _ => true) 0 ds } true w := by rw [k2]; exact hwr
         rw [hs2] at tr2
         have wr2 : WR w0 ν' s2.own true w := by rw [<- hs2]; exact wr2
         exact one _ ν' rfl hI'.ag tr2 wr2 fun j h1 h2 => by
           obtain ⟨m, rfl⟩ : ∃ m, j = b + m := ⟨j - b, by omega⟩
           exact hF m (by omega)
       . have := hbel b (by omega)
         have hF0 := hF 0 hk0
         rw [Nat.add_zero] at hF0
         rw [this] at hF0; cases hF0
     . have hmm : m = m0 := by
         rcases Nat.lt_trichotomy m m0 with hlt | heq | hgt
         . have := hbel (b + m) (by omega)
           rw [hLb (b + m) (Nat.le_refl _) (by omega)] at this; cases this
         . exact heq
         . have := hLa (b + m0) (by omega)
           rw [hL] at this; cases this
       subst hmm
       exact one sm ν h1 h2 h3 h4 hLb
 . rcases hI.2 with ⟨hF, _⟩ | ⟨m, hm1, hm2, _, hLb, sm, ν, h1, h2, h3, h4⟩
   . have := hF 0 hk0
     rw [hall (b + 0) (by omega)] at this; cases this
   . have hmk : m = k := by
       rcases Nat.lt_or_ge m k with hlt | hge
       . have := hLb (b + m) (Nat.le_refl _) (by omega)
         rw [hall (b + m) (by omega)] at this; cases this
       . omega
     subst hmk
     rw [List.take_of_length_le (by omega)] at h1
     have := H.run.symm.trans h1
     obtain rfl := Option.some.inj this
     exact hQ ν a w h2 h3 h4
 . rcases Nat.lt_or_ge i b with hi | hi
   . exact (depB_ok hd (by rw [<- get i hi]; exact ho)).low e he hb
   . rcases Nat.lt_or_ge i (b + k) with h2 | h2
     . obtain ⟨m, rfl⟩ : ∃ m, i = b + m := ⟨i - b, by omega⟩
       rw [H.at_ m (by omega)] at ho
       exact (depB_ok hd (get0 m (by omega) o' ho)).low e he hb
     . rw [(getn i h2).1] at ho; cases ho
 . have := List.length_filter_le (fun i => !lstB (Array.replicate ops.size false) i) (List.range ops.size)
   simpa using this
 . rw [hrep]
   refine ⟨fun i o ho hL => (by cases hL), .inl ⟨fun _ _ => rfl, ν0, ⟨Agree.refl _ _ _, ht.size, ht.df, fun _ _ => rfl, fun i o d t _ _ _ hL => (by cases hL), ?_⟩⟩⟩
   refine hw.drew.kill rfl (fun p e hp hde => ?_) (hg.okb.mono (Nat.le_refl _) (by simp))
   have hp : (s.own.l ++ newsL (fun _ => false) 0 ds)[p]? = some e := hp
   rcases Nat.lt_or_ge p s.own.l.length with hl | hl
   . rw [List.getElem?_append_left hl] at hp; exact hp
   . rw [List.getElem?_append_right hl] at hp
     rw [newsL_dead ds _ _ e hp] at hde; cases hde
theorem lcallS_st {E : Env} : ClSt (lcallS E) := fun f args s x s' hlo hllo hokb hargs h => by
 obtain ⟨l, tup, res, b, fn, _, _, _, _, _, rfl, hx⟩ := lcallS_some h
 refine ⟨⟨fun p hp => List.mem_cons_of_mem _ (List.mem_append_right _ hp), Nat.le_refl _, by simp, rfl, rfl, fun _ _ => rfl, fun i hi => List.getElem?_append_left (Nat.lt_of_lt_of_le hi hllo)⟩, ?_, hokb.mono (Nat.le_refl _) (by simp)⟩
 have hlt := outX_lt res s.own.l.length s.own.b.length
 rcases hx with ⟨_, rfl⟩ | ⟨_, p, _, rfl⟩ | ⟨_, k, he, rfl⟩ | ⟨_, cs, he, rfl⟩
 . intro x hx
   show okT s.own.b.length (s.own.l ++ (outX s.own.l.length res).2).length x
   rw [List.length_append]
   exact hlt x hx
 . trivial
 . show k < (s.own.l ++ (outX s.own.l.length res).2).length
   rw [List.length_append]
   exact hlt (.inr k) (by rw [he]; simp)
 . show okT s.own.b.length (s.own.l ++ (outX s.own.l.length res).2).length (.st cs)
   rw [List.length_append]
   exact hlt (.st cs) (by rw [he]; simp)
theorem lcallS_ok {E : Env} (HC : CallOk E) {w0 : Base} (hG : GlobB E w0) : ClOk E w0 (lcallS E) := fun f args s x s' hlo hllo hargs h hh ν w vs hvs hw => by
 obtain ⟨l, tup, res, b, fn, hl, hb, hf, hn, hbody, rfl, hx⟩ := lcallS_some h
 have e : b = true := hh (b, true) List.mem_cons_self
 subst e
 refine ⟨⟨fn, hf, hn, hbody⟩, ?_⟩
 refine (HC.2.2.1 f l tup res hb w vs (hG.below hw.below) (argsX_ok hw hl (fun p hp => hh p (List.mem_cons_of_mem _ (List.mem_append_left _ hp))) hvs)).mono fun e w' ⟨us, he, hout, hbel⟩ => ?_
 obtain ⟨ν', h1, h2, h3⟩ := addRows res us ν s.own _ hw (hw.grown hbel) hout
 refine ⟨ν', _, h1, he, ?_, h2⟩
 rcases hx with ⟨rfl, rfl⟩ | ⟨rfl, p, hp, rfl⟩ | ⟨rfl, k, hp, rfl⟩ | ⟨rfl, cs, hp, rfl⟩
 . show Value.tuple us.toArray = .tuple ((outX s.own.l.length res).1.map (concT ν')).toArray
   rw [h3]
 . rw [hp] at h3
   rw [<- h3]; rfl
 . rw [hp] at h3
   rw [<- h3]; rfl
 . rw [hp] at h3
   rw [<- h3]; rfl
theorem regionD_runs {E : Env} (HC : CallOk E) {n : Nat} {ops : Array Oper} {s s2 : St} (h : regionD E n ops s = some s2) (hg : Good s) (hh : Holds' s2) : ∃ ds, depB ops = true /\ ds.length = ops.size /\ ∀ w0, GlobB E w0 -> ∀ ν0 a0, TR n ν0 s a0 ->
   (∀ (Q : Exit -> Act -> World -> Prop) (k : Nat) o L ν a w, ops[k]? = some o -> ID n ops w0 ν0 s.own a0 ds L ν a w -> L k = false -> (∀ e ∈ o.after, Region.binds .any e = true -> L e.on = true) -> ∀ (K : Act -> World -> Prop), (∀ ν' a' w', ID n ops w0 ν0 s.own a0 ds (setL L k) ν' a' w' -> K a' w') -> wpOp E.P ops Q k K a w) /\
   (∀ L ν a w, ID n ops w0 ν0 s.own a0 ds L ν a w -> (∀ j, j < ops.size -> L j = true) -> TR n ν s2 a /\ WR w0 ν s2.own true w) /\
   (∀ w, WR w0 ν0 s.own true w -> ID n ops w0 ν0 s.own a0 ds (fun _ => false) ν0 a0 w) /\
   (∀ L ν a w t, ID n ops w0 ν0 s.own a0 ds L ν a w -> (∀ (j : Nat) o, ops[j]? = some o -> o.dst = some t -> L j = true) -> Is ν (look s2.tmps t) (a.tmps.getD t undef) /\ WR w0 ν s.own true w) := by
 have hr := h
 have hd : depB ops = true := by
   unfold regionD at hr
   cases hd : depB ops
   . rw [hd] at hr; cases hr
   . rfl
 unfold regionD at hr
 rw [hd] at hr
 simp only [cond_true] at hr
 split at hr
 rotate_left
 . cases hr
 rename_i ds s1 hs
 simp only [qS] at hr
 have hs2 := hr
 have hh1 : Holds' s1 := by rw [<- hr] at hh; exact hh
 obtain ⟨⟨r0, r1, r2⟩, k2, k3, k4, k5, k6, k7, k8⟩ := simD_st (s0 := s.own) _ _ _ _ _ hs rfl (fun i d hi => by simp at hi) (fun p hp => by simpa [newsL] using hg.ok p hp)
 have hdl : ds.length = ops.size := by rw [r1, List.nil_append, r2]; simp
 refine ⟨ds, hd, hdl, fun w0 hG ν0 a0 ht => ?_⟩
 obtain ⟨step, fin⟩ := simD_ok HC hG hd hg.okb (ν0 := ν0) (a0 := a0) ht.size k7 ops.toList [] [] s s1 hs rfl rfl hh1 rfl (fun L ν a w hI => by
   show TR n ν s a0
   exact ht.move hg hI.ag rfl)
 refine ⟨fun Q k o L ν a w hk hI hL hr K hK => step k (Nat.zero_le _) o L ν a w hk hI hL hr Q K hK, fun L ν a w hI hall => ?_, fun w hw => ?_, fun L ν a w t hI hall => ?_⟩
 . have hT := fin L ν a w hI
   have same : ∀ t, (actD L a ν 0 ops.toList ds a0).tmps.getD t undef = a.tmps.getD t undef := fun t => by
     refine actD_get L a ν t ops.toList ds 0 a0 (by simp [hdl]) (by rw [hI.size, ht.size]) (fun j oj hj _ => by rw [Nat.zero_add]; exact hall j (by simpa using lt_of_some_list hj)) ?_
     by_cases hex : ∃ (j : Nat) (oj : Oper), ops.toList[j]? = some oj /\ oj.dst = some t
     . exact .inr hex
     . left
       refine (hI.base t fun i oi hoi hti => ?_).symm
       exact absurd ⟨i, oi, by simpa using hoi, hti⟩ hex
   have hLn : newsL L 0 ds = newsL (fun _ => true) 0 ds := newsL_congr ds 0 fun j _ hj => hall j (by omega)
   have hwr := hI.wr
   rw [hLn] at hwr
   have tr2 : TR n ν { s1 with own := { s1.own with l := s1.own.l ++ newsL (fun _ => true) 0 ds } } a := ⟨hI.size, fun t => by
     have := hT.tm t
     rw [same t] at this
     exact this, hI.df⟩
   have wr2 : WR w0 ν { s1.own with l := s1.own.l ++ newsL (fun _ => true) 0 ds } true w := by rw [k2]; exact hwr
   rw [hs2] at tr2
   exact ⟨tr2, by rw [<- hs2]; exact wr2⟩
 . refine ⟨Agree.refl _ _ _, ht.size, ht.df, fun _ _ => rfl, fun i o d t _ _ _ hL => (by cases hL), ?_⟩
   refine hw.kill rfl (fun p e hp hde => ?_) (hg.okb.mono (Nat.le_refl _) (by simp))
   have hp : (s.own.l ++ newsL (fun _ => false) 0 ds)[p]? = some e := hp
   rcases Nat.lt_or_ge p s.own.l.length with hl | hl
   . rw [List.getElem?_append_left hl] at hp; exact hp
   . rw [List.getElem?_append_right hl] at hp
     rw [newsL_dead ds _ _ e hp] at hde; cases hde
 . have hT := fin L ν a w hI
   have same : (actD L a ν 0 ops.toList ds a0).tmps.getD t undef = a.tmps.getD t undef := by
     refine actD_get L a ν t ops.toList ds 0 a0 (by simp [hdl]) (by rw [hI.size, ht.size]) (fun j oj hj hjt => by rw [Nat.zero_add]; exact hall j oj (by simpa using hj) hjt) ?_
     by_cases hex : ∃ (j : Nat) (oj : Oper), ops.toList[j]? = some oj /\ oj.dst = some t
     . exact .inr hex
     . left
       refine (hI.base t fun i oi hoi hti => ?_).symm
       exact absurd ⟨i, oi, by simpa using hoi, hti⟩ hex
   refine ⟨?_, hI.wr.kill rfl (fun p e hp hde => ?_) hg.okb⟩
   . rw [<- hs2]
     have := hT.tm t
     rw [same] at this
     exact this
   . show (s.own.l ++ newsL L 0 ds)[p]? = some e
     rw [List.getElem?_append_left (lt_of_some_list hp)]; exact hp
theorem ID.congrL {n : Nat} {ops : Array Oper} {w0 : Base} {ν0 : Nu} {s0 : Mem} {a0 : Act} {ds : List Dn} {L L' : Nat -> Bool} {ν : Nu} {a : Act} {w : World} (h : ID n ops w0 ν0 s0 a0 ds L ν a w) (hl : ds.length = ops.size) (he : ∀ j, j < ops.size -> L j = L' j) : ID n ops w0 ν0 s0 a0 ds L' ν a w := by
 have lt : ∀ {j : Nat} {oj : Oper}, ops[j]? = some oj -> j < ops.size := fun {j oj} hj => by
   rcases Nat.lt_or_ge j ops.size with h | h
   . exact h
   . rw [Array.getElem?_eq_none h] at hj; cases hj
 refine ⟨h.ag, h.size, h.df, fun t ht => h.base t fun i o ho hd => by rw [he i (lt ho)]; exact ht i o ho hd, fun i o d t ho hd hdt hL => h.done i o d t ho hd hdt (by rw [he i (lt ho)]; exact hL), ?_⟩
 rw [<- newsL_congr (L := L) (L' := L') ds 0 fun j _ hj => he j (by omega)]
 exact h.wr
theorem noopAll {E : Env} {n : Nat} {ops : Array Oper} {w0 : Base} {ν0 : Nu} {s0 : Mem} {a0 : Act} {ds : List Dn} (hd : depB ops = true) (hdl : ds.length = ops.size)
   (step : ∀ (Q : Exit -> Act -> World -> Prop) (k : Nat) o L ν a w, ops[k]? = some o -> ID n ops w0 ν0 s0 a0 ds L ν a w -> L k = false -> (∀ e ∈ o.after, Region.binds .any e = true -> L e.on = true) -> ∀ (K : Act -> World -> Prop), (∀ ν' a' w', ID n ops w0 ν0 s0 a0 ds (setL L k) ν' a' w' -> K a' w') -> wpOp E.P ops Q k K a w)
   {L F : Nat -> Bool} (hF : ∀ (j : Nat) o, ops[j]? = some o -> F j = true -> L j = false -> (∃ o', o'.guard = none /\ o = noopT o') /\ ∀ e ∈ o.after, Region.binds .any e = true -> F e.on = true) {ν : Nu} {a : Act} {w : World} (hI : ID n ops w0 ν0 s0 a0 ds L ν a w) : ∀ m, ∃ ν', ID n ops w0 ν0 s0 a0 ds (fun j => L j || (F j && decide (j < m))) ν' a w
 | 0 => ⟨ν, hI.congrL hdl fun j _ => by simp⟩
 | m + 1 => by
   obtain ⟨ν1, hI1⟩ := noopAll hd hdl step hF hI m
   have stay : (∀ j, j < ops.size -> (L j || (F j && decide (j < m))) = (L j || (F j && decide (j < m + 1)))) -> ∃ ν', ID n ops w0 ν0 s0 a0 ds (fun j => L j || (F j && decide (j < m + 1))) ν' a w := fun h => ⟨ν1, hI1.congrL hdl h⟩
   have other : ∀ j, j ≠ m -> decide (j < m) = decide (j < m + 1) := fun j hj => by
     rw [Bool.eq_iff_iff, decide_eq_true_iff, decide_eq_true_iff]; omega
   cases hL : L m
   case true =>
     refine stay fun j _ => ?_
     by_cases hj : j = m
     . rw [hj, hL]; rfl
     . rw [other j hj]
   cases hFm : F m
   case false =>
     refine stay fun j _ => ?_
     by_cases hj : j = m
     . rw [hj, hFm]; rfl
     . rw [other j hj]
   cases ho : ops[m]? with
   | none =>
     refine stay fun j hj => ?_
     have : j ≠ m := fun e => by
       subst e
       rw [Array.getElem?_eq_getElem hj] at ho; cases ho
     rw [other j this]
   | some o =>
     obtain ⟨⟨o', hg0, rfl⟩, hdep⟩ := hF m o ho hFm hL
     have hnoop := step (fun _ _ _ => False) m (noopT o') (fun j => L j || (F j && decide (j < m))) ν1 a w ho hI1 (by rw [hL]; simp) (fun e he hb => by
       have hlt := (depB_ok hd ho).low e he hb
       show (L e.on || (F e.on && decide (e.on < m))) = true
       rw [hdep e he hb, decide_eq_true hlt]; simp) (fun a' w' => ∃ ν', ID n ops w0 ν0 s0 a0 ds (fun j => L j || (F j && decide (j < m + 1))) ν' a' w') fun ν' a' w' hI' => ⟨ν', hI'.congrL hdl fun j _ => by
         unfold setL
         by_cases hj : j = m
         . rw [if_pos hj, hj, hFm, decide_eq_true (Nat.lt_succ_self m)]; simp
         . rw [if_neg hj]
           show (L j || (F j && decide (j < m))) = _
           rw [other j hj]⟩
     unfold wpOp at hnoop
     rw [ho] at hnoop
     have hwt : Region.wanted (noopT o') (yielded ops a.tmps) = true := by simp [Region.wanted, noopT, hg0]
     simp only [hwt, if_true] at hnoop
     rcases hnoop with hn | ⟨_, _, _, hf⟩
     . unfold Oper.wp at hn
       rw [show (execOp a.eval (noopT o')).run E.P w = .ok (.value undef) w by simp [execOp, noopT, Act.eval], Oper.upon_value] at hn
       have e : a.put (noopT o').dst undef = a := rfl
       rw [e] at hn; exact hn
     . exact hf.elim
structure PivR (E : Env) (cl : Callee) (n c : Nat) (fr : List Nat) (ops : Array Oper) (s s3 s4 : St) (o : Oper) (s2 : St) : Prop where
 at_ : ops[c]? = some o
 grd : ∀ o ∈ ops.toList, o.guard = none
 lo : ∀ j, j < c -> j ∈ ancA ops ops.size (aftA o)
 hi : ∀ i o', c < i -> i ∉ fr -> ops[i]? = some o' -> c ∈ ancA ops ops.size (aftA o')
 frc : ∀ i ∈ fr, c < i
 reg : regionD E n (ops.toList.take c ++ (ops.toList.drop c).map noopT).toArray s = some s2
 run : stepT E cl n o s2 = some s3
 reg2 : regionD E n ((ops.toList.take (c + 1)).map noopT ++ ops.toList.drop (c + 1)).toArray s3 = some s4
theorem pivR_some {E : Env} {cl : Callee} {n c : Nat} {fr : List Nat} {ops : Array Oper} {s s3 s4 : St} (h : pivR E cl n c fr ops s = some (s3, s4)) : ∃ o s2, PivR E cl n c fr ops s s3 s4 o s2 := by
 unfold pivR at h
 split at h
 . cases h
 . rename_i o ho
   simp only [cond_eq_ite] at h
   split at h
   . rename_i hc
     simp only [Bool.and_eq_true] at hc
     obtain ⟨⟨⟨c1, c2⟩, c3⟩, c4⟩ := hc
     split at h
     . rename_i s2 hr
       split at h
       . rename_i s3' hst
         split at h
         . rename_i s4' hr2
           simp only [qS, qP] at h
           obtain ⟨rfl, rfl⟩ := h
           refine ⟨o, s2, ho, fun o ho => Option.isNone_iff_eq_none.mp (List.all_eq_true.mp c1 o ho), fun j hj => any_mem (List.all_eq_true.mp c2 j (List.mem_range.mpr hj)), fun i o' hi hf ho' => ?_, fun i hi => by simpa [Nat.blt_eq] using List.all_eq_true.mp c4 i hi, hr, hst, hr2⟩
           have hlt : i < ops.size := by
             rcases Nat.lt_or_ge i ops.size with h | h
             . exact h
             . rw [Array.getElem?_eq_none h] at ho'; cases ho'
           have := List.all_eq_true.mp c3 i (List.mem_range.mpr hlt)
           rw [ho'] at this
           simp only [Bool.or_eq_true] at this
           rcases this with (h | h) | h
           . have := Nat.le_of_ble_eq_true h; omega
           . exact absurd (any_mem h) hf
           . exact any_mem h
         . cases h
       . cases h
     . cases h
   . cases h
def InvP (n c : Nat) (fr : List Nat) (N : Nat) (ops0 ops2 : Array Oper) (ds ds2 : List Dn) (s s3 : St) (ν0 : Nu) (a0 : Act) (w1 : Base) (L : Nat -> Bool) (a : Act) (w : World) : Prop :=
 ((∀ j, c <= j -> j < N -> L j = true -> j ∈ fr) /\ ∃ ν, ID n ops0 w1 ν0 s.own a0 ds L ν a w) \/ ((∀ j, j <= c -> L j = true) /\ ∃ ν3 a3 ν, Ag s.own ν0 ν3 /\ TR n ν3 s3 a3 /\ ID n ops2 w1 ν3 s3.own a3 ds2 L ν a w)
theorem pivR_st {E : Env} {cl : Callee} (hst : ClSt cl) {n c : Nat} {fr : List Nat} {ops : Array Oper} {s s3 s4 : St} (h : pivR E cl n c fr ops s = some (s3, s4)) (hm : s.mem = true) (hg : Good s) : Le s s3 /\ Good s3 /\ Le s3 s4 /\ Good s4 /\ s4.mem = true := by
 obtain ⟨o, s2, H⟩ := pivR_some h
 obtain ⟨l1, g2, m2⟩ := regionD_st H.reg hg
 obtain ⟨l2, g3, m3⟩ := stepT_st hst H.run g2
 obtain ⟨l3, g4, m4⟩ := regionD_st H.reg2 g3
 exact ⟨l1.trans l2, g3, l3, g4, m4.trans (m3 (m2.trans hm))⟩
theorem pivR_inv {E : Env} (HC : CallOk E) {cl : Callee} (hst : ClSt cl) {n c : Nat} {fr : List Nat} {ops : Array Oper} {s s3 s' : St} (hsm : s.mem = true) (h : pivR E cl n c fr ops s = some (s3, s')) (hg : Good s) (hh : Holds' s') (hfr : ∀ i ∈ fr, ∀ o, ops[i]? = some o -> ∃ o', o'.guard = none /\ o = noopT o') :
   ∃ ops0 ops2 ds ds2, (∀ i o, ops[i]? = some o -> ∀ e ∈ o.after, Region.binds .any e = true -> e.on < i) /\ ∀ ν0 a0, TR n ν0 s a0 -> ∀ w1, GlobB E w1 -> ClOk E w1 cl ->
     (∀ L i o' a w (Q : Exit -> Act -> World -> Prop) (K : Act -> World -> Prop), ops[i]? = some o' -> CloL ops L -> InvP n c fr ops.size ops0 ops2 ds ds2 s s3 ν0 a0 w1 L a w -> L i = false -> (∀ e ∈ o'.after, Region.binds .any e = true -> L e.on = true) -> (∀ a' w', InvP n c fr ops.size ops0 ops2 ds ds2 s s3 ν0 a0 w1 (setL L i) a' w' -> K a' w') -> wpOp E.P ops Q i K a w) /\
     (∀ L a w, (∀ i, i < ops.size -> L i = true) -> InvP n c fr ops.size ops0 ops2 ds ds2 s s3 ν0 a0 w1 L a w -> ∃ ν, Ag s.own ν0 ν /\ TR n ν s' a /\ WR w1 ν s'.own true w) /\
     (∀ w, WR w1 ν0 s.own true w -> InvP n c fr ops.size ops0 ops2 ds ds2 s s3 ν0 a0 w1 (fun _ => false) a0 w) /\
     (∀ L a w t, InvP n c fr ops.size ops0 ops2 ds ds2 s s3 ν0 a0 w1 L a w -> L c = true -> (∀ (j : Nat) o, ops[j]? = some o -> o.dst = some t -> L j = true) -> ∃ ν, Is ν (look s'.tmps t) (a.tmps.getD t undef) /\ WR w1 ν s3.own true w) := by
 obtain ⟨o, s2, H⟩ := pivR_some h
 obtain ⟨le1, g2, mm2⟩ := regionD_st H.reg hg
 have mem2 : s2.mem = true := mm2.trans hsm
 obtain ⟨le2, g3, mm3⟩ := stepT_st hst H.run g2
 obtain ⟨le3, g4, mm4⟩ := regionD_st H.reg2 g3
 have hh3 : Holds' s3 := fun p hp => hh p (le3.ext p hp)
 have hh2 : Holds' s2 := fun p hp => hh3 p (le2.ext p hp)
 have hcz : c < ops.size := by
   rcases Nat.lt_or_ge c ops.size with h | h
   . exact h
   . have := H.at_; rw [Array.getElem?_eq_none h] at this; cases this
 obtain ⟨ops0, hops0⟩ : ∃ ops0, (ops.toList.take c ++ (ops.toList.drop c).map noopT).toArray = ops0 := ⟨_, rfl⟩
 obtain ⟨ops2, hops2⟩ : ∃ ops2, ((ops.toList.take (c + 1)).map noopT ++ ops.toList.drop (c + 1)).toArray = ops2 := ⟨_, rfl⟩
 have hr1 := H.reg
 have hr2 := H.reg2
 rw [hops0] at hr1
 rw [hops2] at hr2
 have hl0 : ops0.toList = ops.toList.take c ++ (ops.toList.drop c).map noopT := by rw [<- hops0]
 have hl2 : ops2.toList = (ops.toList.take (c + 1)).map noopT ++ ops.toList.drop (c + 1) := by rw [<- hops2]
 have tk0 : (ops.toList.take c).length = c := by rw [List.length_take, Array.length_toList]; omega
 have tk2 : ((ops.toList.take (c + 1)).map noopT).length = c + 1 := by rw [List.length_map, List.length_take, Array.length_toList]; omega
 have sz0 : ops0.size = ops.size := by rw [<- Array.length_toList, hl0, List.length_append, tk0, List.length_map, List.length_drop, Array.length_toList]; omega
 have sz2 : ops2.size = ops.size := by rw [<- Array.length_toList, hl2, List.length_append, tk2, List.length_drop, Array.length_toList]; omega
 have get0 : ∀ i, i < c -> ops0[i]? = ops[i]? := fun i hi => by
   rw [<- Array.getElem?_toList, <- Array.getElem?_toList, hl0, List.getElem?_append_left (by omega), List.getElem?_take, if_pos hi]
 have get0n : ∀ i o', c <= i -> ops[i]? = some o' -> ops0[i]? = some (noopT o') := fun i o' hi ho => by
   rw [<- Array.getElem?_toList] at ho
   rw [<- Array.getElem?_toList, hl0, List.getElem?_append_right (by omega), tk0, List.getElem?_map, List.getElem?_drop, show c + (i - c) = i by omega, ho]; rfl
 have get2 : ∀ i, c < i -> ops2[i]? = ops[i]? := fun i hi => by
   rw [<- Array.getElem?_toList, <- Array.getElem?_toList, hl2, List.getElem?_append_right (by omega), tk2, List.getElem?_drop, show c + 1 + (i - (c + 1)) = i by omega]
 have get2n : ∀ i o', i <= c -> ops[i]? = some o' -> ops2[i]? = some (noopT o') := fun i o' hi ho => by
   rw [<- Array.getElem?_toList] at ho
   rw [<- Array.getElem?_toList, hl2, List.getElem?_append_left (by omega), List.getElem?_map, List.getElem?_take, if_pos (by omega), ho]; rfl
 have some_ : ∀ i, i < ops.size -> ∃ o', ops[i]? = some o' := fun i hi => ⟨ops[i], Array.getElem?_eq_getElem hi⟩
 have lt : ∀ {j : Nat} {oj : Oper}, ops[j]? = some oj -> j < ops.size := fun {j oj} hj => by
   rcases Nat.lt_or_ge j ops.size with h | h
   . exact h
   . rw [Array.getElem?_eq_none h] at hj; cases hj
 have hgrd : ∀ (i : Nat) o, ops[i]? = some o -> o.guard = none := fun i o ho => H.grd o (by
   rw [<- Array.getElem?_toList] at ho; exact List.mem_of_getElem? ho)
 obtain ⟨ds, hd0, hdl0, R1⟩ := regionD_runs HC hr1 hg hh2
 obtain ⟨ds2, hd2, hdl2, R2⟩ := regionD_runs HC hr2 g3 hh
 have clo0 : ∀ i o', ops[i]? = some o' -> ∀ e ∈ o'.after, Region.binds .any e = true -> e.on < i := fun i o' ho e he hb => by
   rcases Nat.lt_or_ge i c with hi | hi
   . exact (depB_ok hd0 (by rw [get0 i hi]; exact ho)).low e he hb
   . exact (depB_ok hd0 (get0n i o' hi ho)).low e he hb
 refine ⟨ops0, ops2, ds, ds2, clo0, fun ν0 a0 ht w1 hG hok => ?_⟩
 obtain ⟨step1, fin1, start1, mid1⟩ := R1 w1 hG ν0 a0 ht
 have turn : ∀ {ops' : Array Oper} {i : Nat} {o' : Oper} {Q : Exit -> Act -> World -> Prop} {K : Act -> World -> Prop} {a : Act} {w : World}, ops[i]? = some o' -> ops'[i]? = some o' -> wpOp E.P ops' Q i K a w -> wpOp E.P ops Q i K a w := fun {ops' i o' Q K a w} ho ho' hwp => by
   have hwt : ∀ tm, Region.wanted o' (yielded ops tm) = true := fun tm => by simp [Region.wanted, hgrd i o' ho]
   have hwt0 : ∀ tm, Region.wanted o' (yielded ops' tm) = true := fun tm => by simp [Region.wanted, hgrd i o' ho]
   unfold wpOp at hwp ⊢
   rw [ho'] at hwp
   rw [ho]
   simp only [hwt, hwt0, if_true] at hwp ⊢
   exact hwp
 refine ⟨fun L i o' a w Q K ho hclo hI hL hr hK => ?_, fun L a w hall hI => ?_, fun w hw => .inl ⟨fun j _ _ h => (by cases h), ν0, start1 w hw⟩, fun L a w t hI hLc hall => ?_⟩
 . have hi := lt ho
   have hanc := ancA_ok hclo ops.size (aftA o') (aftA_ok hr)
   have low1 : ∀ ν, (∀ j, c <= j -> j < ops.size -> L j = true -> j ∈ fr) -> ID n ops0 w1 ν0 s.own a0 ds L ν a w -> ops0[i]? = some o' -> (c <= i -> i ∈ fr) -> wpOp E.P ops Q i K a w := fun ν hF hI ho0 hif => by
     refine turn ho ho0 (step1 Q i o' L ν a w ho0 hI hL hr K fun ν' a' w' hI' => hK a' w' (.inl ⟨fun j h1 h2 h3 => ?_, ν', hI'⟩))
     unfold setL at h3
     by_cases hj : j = i
     . rw [hj]; exact hif (by omega)
     . rw [if_neg hj] at h3; exact hF j h1 h2 h3
   rcases Nat.lt_trichotomy i c with hlt | heq | hgt
   . rcases hI with ⟨hF, ν, hI⟩ | ⟨hLa, _⟩
     . exact low1 ν hF hI (by rw [get0 i hlt]; exact ho) fun h => by omega
     . have := hLa i (by omega); rw [hL] at this; cases this
   . subst heq
     rcases hI with ⟨hF, ν, hI⟩ | ⟨hLa, _⟩
     . have ho1 : o' = o := by have := H.at_; rw [ho] at this; exact Option.some.inj this
       subst ho1
       have hbel : ∀ j, j < i -> L j = true := fun j hj => hanc j (H.lo j hj)
       obtain ⟨ν1, hI1⟩ := noopAll hd0 hdl0 step1 (L := L) (F := fun _ => true) (fun j oj hoj _ hLj => by
         have hj : i <= j := by
           rcases Nat.lt_or_ge j i with h | h
           . rw [hbel j h] at hLj; cases hLj
           . exact h
         obtain ⟨oj', hoj'⟩ := some_ j (by rw [<- sz0]; rcases Nat.lt_or_ge j ops0.size with h | h; exact h; rw [Array.getElem?_eq_none h] at hoj; cases hoj)
         rw [get0n j oj' hj hoj'] at hoj
         exact ⟨⟨oj', hgrd _ _ hoj', (Option.some.inj hoj).symm⟩, fun _ _ _ => rfl⟩) hI ops.size
       obtain ⟨tr1, wr1⟩ := fin1 _ ν1 a w hI1 (fun j hj => by
         show (L j || (true && decide (j < ops.size))) = true
         rw [decide_eq_true (show j < ops.size by omega)]; simp)
       unfold wpOp
       rw [ho]
       have hwt : ∀ tm, Region.wanted o' (yielded ops tm) = true := fun tm => by simp [Region.wanted, hgrd i o' ho]
       simp only [hwt, if_true]
       left
       refine stepT_ok HC hst hok hG H.run hh3 g2 mem2 tr1 wr1 fun ν3 a3 w3 ha ht3 hw3 => hK a3 w3 (.inr ⟨fun j hj => ?_, ν3, a3, ?_⟩)
       . unfold setL
         split
         . rfl
         . exact hbel j (by omega)
       . obtain ⟨step2, fin2, start2, mid2⟩ := R2 w1 hG ν3 a3 ht3
         obtain ⟨ν4, hI4⟩ := noopAll hd2 hdl2 step2 (L := fun _ => false) (F := setL L i) (fun j oj hoj hFj _ => by
           have hjs : j < ops.size := by rw [<- sz2]; rcases Nat.lt_or_ge j ops2.size with h | h; exact h; rw [Array.getElem?_eq_none h] at hoj; cases hoj
           obtain ⟨oj', hoj'⟩ := some_ j hjs
           have hdn : ∀ e ∈ oj'.after, Region.binds .any e = true -> setL L i e.on = true := fun e he hb => by
             unfold setL at hFj ⊢
             by_cases hji : j = i
             . subst hji
               rw [hoj'] at ho
               obtain rfl := Option.some.inj ho
               split
               . rfl
               . exact hr e he hb
             . rw [if_neg hji] at hFj
               split
               . rfl
               . exact hclo j oj' hoj' hFj e he hb
           rcases Nat.lt_or_ge i j with h1 | h1
           . have hFj' : L j = true := by unfold setL at hFj; rw [if_neg (by omega)] at hFj; exact hFj
             obtain ⟨o2, h2, h3⟩ := hfr j (hF j (by omega) hjs hFj') oj' hoj'
             rw [get2 j h1, hoj'] at hoj
             obtain rfl := Option.some.inj hoj
             exact ⟨⟨o2, h2, h3⟩, hdn⟩
           . rw [get2n j oj' h1 hoj'] at hoj
             obtain rfl := Option.some.inj hoj
             exact ⟨⟨oj', hgrd _ _ hoj', rfl⟩, hdn⟩) (start2 w3 hw3) ops.size
         refine ⟨ν4, Agree.trans hI1.ag ha le1.len le1.llen, ht3, hI4.congrL hdl2 fun j hj => ?_⟩
         rw [decide_eq_true (show j < ops.size by omega)]
         simp
     . have := hLa i (Nat.le_refl _); rw [hL] at this; cases this
   . by_cases hif : i ∈ fr
     . obtain ⟨o2, h2, h3⟩ := hfr i hif o' ho
       rcases hI with ⟨hF, ν, hI⟩ | ⟨hLa, ν3, a3, ν, hag, ht3, hI⟩
       . exact low1 ν hF hI (by rw [get0n i o' (by omega) ho, h3]; rfl) fun _ => hif
       . obtain ⟨step2, fin2, start2, mid2⟩ := R2 w1 hG ν3 a3 ht3
         have ho2 : ops2[i]? = some o' := by rw [get2 i hgt]; exact ho
         exact turn ho ho2 (step2 Q i o' L ν a w ho2 hI hL hr K fun ν' a' w' hI' => hK a' w' (.inr ⟨fun j hj => by unfold setL; rw [if_neg (by omega)]; exact hLa j hj, ν3, a3, ν', hag, ht3, hI'⟩))
     . have hLc : L c = true := hanc c (H.hi i o' hgt hif ho)
       rcases hI with ⟨hF, _⟩ | ⟨hLa, ν3, a3, ν, hag, ht3, hI⟩
       . have := H.frc c (hF c (Nat.le_refl _) hcz hLc); omega
       . obtain ⟨step2, fin2, start2, mid2⟩ := R2 w1 hG ν3 a3 ht3
         have ho2 : ops2[i]? = some o' := by rw [get2 i hgt]; exact ho
         exact turn ho ho2 (step2 Q i o' L ν a w ho2 hI hL hr K fun ν' a' w' hI' => hK a' w' (.inr ⟨fun j hj => by unfold setL; rw [if_neg (by omega)]; exact hLa j hj, ν3, a3, ν', hag, ht3, hI'⟩))
 . rcases hI with ⟨hF, _⟩ | ⟨_, ν3, a3, ν, hag, ht3, hI⟩
   . have := H.frc c (hF c (Nat.le_refl _) hcz (hall c hcz)); omega
   . obtain ⟨step2, fin2, start2, mid2⟩ := R2 w1 hG ν3 a3 ht3
     obtain ⟨tr4, wr4⟩ := fin2 L ν a w hI fun j hj => hall j (by omega)
     exact ⟨ν, Agree.trans hag hI.ag (Nat.le_trans le1.len le2.len) (Nat.le_trans le1.llen le2.llen), tr4, wr4⟩
 . rcases hI with ⟨hF, _⟩ | ⟨hLa, ν3, a3, ν, hag, ht3, hI⟩
   . have := H.frc c (hF c (Nat.le_refl _) hcz hLc); omega
   . obtain ⟨step2, fin2, start2, mid2⟩ := R2 w1 hG ν3 a3 ht3
     refine ⟨ν, mid2 L ν a w t hI fun j oj hoj hjt => ?_⟩
     have hjs : j < ops.size := by rw [<- sz2]; rcases Nat.lt_or_ge j ops2.size with h | h; exact h; rw [Array.getElem?_eq_none h] at hoj; cases hoj
     rcases Nat.lt_or_ge c j with h1 | h1
     . exact hall j oj (by rw [<- get2 j h1]; exact hoj) hjt
     . exact hLa j h1
theorem pivE_some {E : Env} {cl : Callee} {n c : Nat} {ops : Array Oper} {s s4 : St} (h : pivE E cl n c ops s = some s4) : ∃ s3, pivR E cl n c [] ops s = some (s3, s4) := by
 unfold pivE at h
 split at h
 . rename_i s3 s4' hr
   obtain rfl := Option.some.inj h
   exact ⟨s3, hr⟩
 . cases h
theorem pivE_st {E : Env} {cl : Callee} (hst : ClSt cl) {n c : Nat} {ops : Array Oper} {s s' : St} (h : pivE E cl n c ops s = some s') (hm : s.mem = true) (hg : Good s) : Le s s' /\ Good s' /\ s'.mem = true := by
 obtain ⟨s3, h⟩ := pivE_some h
 obtain ⟨l1, _, l2, g4, m4⟩ := pivR_st hst h hm hg
 exact ⟨l1.trans l2, g4, m4⟩
theorem rep_false (N : Nat) : lstB (Array.replicate N false) = fun _ => false := by
 funext j
 unfold lstB
 simp only [Array.getD_eq_getD_getElem?, Array.getElem?_replicate]
 split <;> rfl
theorem pivE_ok {E : Env} (HC : CallOk E) {cl : Callee} (hst : ClSt cl) {w0 : Base} (hok : ClOk E w0 cl) (hG : GlobB E w0) {id n c : Nat} {ops : Array Oper} {s s' : St} (hm : E.P.follows .mixedOrders = true) (hsm : s.mem = true) (h : pivE E cl n c ops s = some s') (hg : Good s) (hh : Holds' s') {Q : Exit -> Act -> World -> Prop} {ν0 : Nu} {a0 : Act} {w : World} (ht : TR n ν0 s a0) (hw : WR w0 ν0 s.own true w)
   (hQ : ∀ ν' a' w', Ag s.own ν0 ν' -> TR n ν' s' a' -> WR w0 ν' s'.own true w' -> Q .normal a' w') : (Code.region id ops true).wp E.P Q a0 w := by
 obtain ⟨s3, h⟩ := pivE_some h
 obtain ⟨ops0, ops2, ds, ds2, dep, R⟩ := pivR_inv HC hst hsm h hg hh (fun i hi => by cases hi)
 obtain ⟨step, last, start, _⟩ := R ν0 a0 ht w0 hG hok
 refine wp_region_any hm (wpAny_steps (I := fun L a w => CloL ops L /\ InvP n c [] ops.size ops0 ops2 ds ds2 s s3 ν0 a0 w0 L a w) (fun L i o' a w ho hI hL hr K hK => ?_) (fun L a w hall hI => ?_) dep ops.size (Array.replicate ops.size false) a0 _ (by simp) ?_ ?_)
 . exact step L i o' a w Q K ho hI.1 hI.2 hL hr fun a' w' hI' => hK a' w' ⟨hI.1.set ho hr, hI'⟩
 . obtain ⟨ν, k1, k2, k3⟩ := last L a w hall hI.2
   exact hQ ν a w k1 k2 k3
 . have := List.length_filter_le (fun i => !lstB (Array.replicate ops.size false) i) (List.range ops.size)
   simpa using this
 . rw [rep_false]
   exact ⟨fun i o ho hL => (by cases hL), start _ hw.drew⟩
theorem blankL_get (ja js : Nat) : ∀ (l : List Oper) (k i : Nat), (blankL ja js k l)[i]? = (l[i]?).map fun o => bif Nat.beq (k + i) ja || Nat.beq (k + i) js then noopT o else o
 | [], k, i => by simp [blankL]
 | o :: r, k, 0 => by simp [blankL]
 | o :: r, k, i + 1 => by
   have := blankL_get ja js r (k + 1) i
   show (blankL ja js (k + 1) r)[i]? = _
   rw [this]
   show _ = (r[i]?).map _
   rw [show k + 1 + i = k + (i + 1) by omega]
theorem blankL_len (ja js : Nat) : ∀ (l : List Oper) (k : Nat), (blankL ja js k l).length = l.length
 | [], _ => rfl
 | _ :: r, k => by show (blankL ja js (k + 1) r).length + 1 = _; rw [blankL_len ja js r]; rfl
theorem storeOf_some {dd : Nat} {t : TypeId} {o : Oper} {y : Nat} (h : storeOf dd t o = some y) : o.op = .store t (.tmp dd) (.tmp y) /\ o.dst = none /\ y ≠ dd := by
 unfold storeOf at h
 split at h
 . rename_i t' d y' ho
   cases hb : (Nat.beq d dd && Nat.beq t' t && o.dst.isNone && !Nat.beq y' dd)
   . rw [hb] at h; cases h
   . rw [hb] at h
     simp only [cond_true, qS] at h
     subst h
     simp only [Bool.and_eq_true, Bool.not_eq_true'] at hb
     obtain ⟨⟨⟨b1, b2⟩, b3⟩, b4⟩ := hb
     have b1 := qB b1
     have b2 := qB b2
     subst b1 b2
     exact ⟨ho, Option.isNone_iff_eq_none.mp b3, fun e => by rw [e] at b4; simp at b4⟩
 . cases h
theorem findS_ok (dd : Nat) (t : TypeId) : ∀ (l : List Oper) (k js ty : Nat), findS dd t l k = some (js, ty) -> k <= js /\ ∃ o, l[js - k]? = some o /\ storeOf dd t o = some ty
 | [], k, js, ty, h => by cases h
 | o :: r, k, js, ty, h => by
   unfold findS at h
   split at h
   . rename_i y hy
     simp only [qS, qP] at h
     obtain ⟨rfl, rfl⟩ := h
     exact ⟨Nat.le_refl _, o, by simp, hy⟩
   . obtain ⟨h1, o', h2, h3⟩ := findS_ok dd t r (k + 1) js ty h
     exact ⟨by omega, o', by rw [show js - k = (js - (k + 1)) + 1 by omega]; exact h2, h3⟩
theorem InvP.turn {n c : Nat} {fr : List Nat} {N : Nat} {ops0 ops2 : Array Oper} {ds ds2 : List Dn} {s s3 : St} {ν0 : Nu} {a0 : Act} {w0 w1 : Base} {L : Nat -> Bool} {a : Act} {w w' : World} (h : InvP n c fr N ops0 ops2 ds ds2 s s3 ν0 a0 w0 L a w)
   (hT : ∀ ν own, (own.b = s.own.b \/ own.b = s3.own.b) -> WR w0 ν own true w -> WR w1 ν own true w') : InvP n c fr N ops0 ops2 ds ds2 s s3 ν0 a0 w1 L a w' := by
 rcases h with ⟨hF, ν, hI⟩ | ⟨hLa, ν3, a3, ν, hag, ht3, hI⟩
 . exact .inl ⟨hF, ν, hI.turn (hT ν { s.own with l := s.own.l ++ newsL L 0 ds } (.inl rfl) hI.wr)⟩
 . exact .inr ⟨hLa, ν3, a3, ν, hag, ht3, hI.turn (hT ν { s3.own with l := s3.own.l ++ newsL L 0 ds2 } (.inr rfl) hI.wr)⟩
theorem InvP.wr {n c : Nat} {fr : List Nat} {N : Nat} {ops0 ops2 : Array Oper} {ds ds2 : List Dn} {s s3 : St} {ν0 : Nu} {a0 : Act} {w0 : Base} {L : Nat -> Bool} {a : Act} {w : World} (h : InvP n c fr N ops0 ops2 ds ds2 s s3 ν0 a0 w0 L a w) : (∃ ν own, WR w0 ν own true w) /\ a.defers = [] /\ a.tmps.size = n := by
 rcases h with ⟨hF, ν, hI⟩ | ⟨hLa, ν3, a3, ν, hag, ht3, hI⟩
 . exact ⟨⟨ν, _, hI.wr⟩, hI.df, hI.size⟩
 . exact ⟨⟨ν, _, hI.wr⟩, hI.df, hI.size⟩
theorem WR.frameOwn {w0 : Base} {ν : Nu} {own : Mem} {mem : Bool} {w : World} {g : Nat} {cur : Array Value} {t : TypeId} {us : List SV} (h : WR (withF w0 g (.cells cur t (0, 0))) ν own mem w) (hF : w0.F g = none) (hB : w0.heap.size <= g) (hc : cur.toList = concB ν us) (hus : ∀ c ∈ us, okV own.b.length own.l.length c) :
   WR w0 (extL ν own.b.length g) { own with b := own.b ++ [⟨us, t, .cells⟩] } true w := by
 have hg : w.heap[g]? = some (.cells cur t (0, 0)) := h.fr.here g _ (by show (if g = g then _ else _) = _; rw [if_pos rfl])
 have hbi : ∀ i, i < own.b.length -> ν.l i ≠ g := fun i hi => (withF_none (h.fr.offb i hi)).1
 have hli : ∀ (k : Nat) e, own.l[k]? = some e -> e.dead = false -> e.own = true -> ∀ g', (ν.v k).ownBlock = some g' -> g' ≠ g := fun k e hk hd ho g' hg' => (withF_none (h.fr.offl k e hk hd ho g' hg')).1
 refine ⟨h.below, fun i b hi => ?_, (h.okb.snoc (b := ⟨us, t, .cells⟩) hus).mono (by simp) (Nat.le_refl _), fun i j hi hj he => ?_, fun k e he hd => h.lst k e he hd, fun k e he hd ho g' hg' => ⟨fun i hi => ?_, fun k' e' he' hd' ho' hne => (h.sep k e he hd ho g' hg').2 k' e' he' hd' ho' hne⟩, (fun h => by cases h), ⟨fun b o e => h.fr.here b o (by
   show (if b = g then _ else _) = _
   rw [if_neg (fun e1 => by rw [e1, hF] at e; cases e)]; exact e), fun i hi => ?_, fun k e he hd ho g' hg' => (withF_none (h.fr.offl k e he hd ho g' hg')).2⟩⟩
 . rcases Nat.lt_trichotomy i own.b.length with hl | hl | hl
   . rw [List.getElem?_append_left hl] at hi
     obtain ⟨h1, h2⟩ := h.blk i b hi
     rw [<- (extL_old ν own.b.length 0 _).1 i hl]
     exact ⟨h1.congr (h.okb i b hi) (extL_old ν own.b.length own.l.length g), h2⟩
   . subst hl
     simp at hi
     subst hi
     rw [extL_new]
     refine ⟨?_, hB⟩
     show w.heap[g]? = some (.cells (concB (extL ν own.b.length g) us).toArray t (0, 0))
     rw [<- concB_congr hus (extL_old ν own.b.length own.l.length g), <- hc, Array.toArray_toList]
     exact hg
   . rw [List.getElem?_eq_none (by simp; omega)] at hi; cases hi
 . simp only [List.length_append, List.length_cons, List.length_nil] at hi hj
   unfold extL at he
   simp only at he
   by_cases h1 : i = own.b.length <;> by_cases h2 : j = own.b.length
   . omega
   . rw [if_pos h1, if_neg h2] at he; exact absurd he.symm (hbi j (by omega))
   . rw [if_neg h1, if_pos h2] at he; exact absurd he (hbi i (by omega))
   . rw [if_neg h1, if_neg h2] at he; exact h.inj i j (by omega) (by omega) he
 . simp only [List.length_append, List.length_cons, List.length_nil] at hi
   unfold extL
   simp only
   by_cases h1 : i = own.b.length
   . rw [if_pos h1]; exact fun e1 => hli k e he hd ho g' hg' e1.symm
   . rw [if_neg h1]; exact (h.sep k e he hd ho g' hg').1 i (by omega)
 . simp only [List.length_append, List.length_cons, List.length_nil] at hi
   unfold extL
   simp only
   by_cases h1 : i = own.b.length
   . rw [if_pos h1]; exact hF
   . rw [if_neg h1]; exact (withF_none (h.fr.offb i (by omega))).2
structure Mask (dd : Nat) (v : Value) (a am : Act) : Prop where
 size : am.tmps.size = a.tmps.size
 df : am.defers = a.defers
 off : ∀ t, t ≠ dd -> am.tmps.getD t undef = a.tmps.getD t undef
 on : am.tmps.getD dd undef = v
theorem Mask.put {dd : Nat} {v : Value} {a am : Act} (h : Mask dd v a am) {dst : Option Tmp} (hd : dst ≠ some dd) (u : Value) : Mask dd v (a.put dst u) (am.put dst u) := by
 refine ⟨by rw [put_size, put_size, h.size], by rw [put_defers', put_defers', h.df], fun t ht => ?_, ?_⟩
 . rw [getD_put, getD_put, h.size, h.off t ht]
 . rw [getD_put, if_neg (fun e => hd e.1)]; exact h.on
theorem wp_mask {P : Program} {o : Oper} {a am : Act} {w : World} {K K' : Act -> World -> Prop} {Q : Exit -> Act -> World -> Prop} (he : execOp am.eval o = execOp a.eval o) (hK : ∀ v w', K' (am.put o.dst v) w' -> K (a.put o.dst v) w') (hdf : ∀ a' w', K' a' w' -> a'.defers = []) (h : o.wp P am w K' (fun _ _ _ => False)) : o.wp P a w K Q := by
 unfold Oper.wp at h ⊢
 rw [he] at h
 generalize (execOp a.eval o).run P w = r at h ⊢
 cases r with
 | ok nx w' =>
   cases nx <;> simp only [Oper.upon] at h ⊢ <;>
     first
       | exact hK _ _ h
       | (have := hdf _ _ h; rw [put_defers'] at this; cases this)
       | exact Calls.mono h (fun e w'' he => by
           cases e <;> first | exact hK _ _ he | exact he.elim | (obtain ⟨_, _, hf⟩ := he; exact hf.elim))
       | exact Rows.mono h (fun _ _ he => hK _ _ he)
 | halt x w' => cases x <;> simp only [Oper.upon] at h ⊢
structure PivJ (E : Env) (n : Nat) (ops : Array Oper) (s s' : St) (c ja js dd ty sz : Nat) (t : TypeId) (oj os : Oper) (s3 s4 : St) (us0 us : List SV) : Prop where
 hbt : E.bt = none
 nb : ∀ (i : Nat) b, s.own.b[i]? = some b -> ∀ fl T e acc, b.kd ≠ .bld fl T e acc
 nb3 : ∀ (i : Nat) b, s3.own.b[i]? = some b -> ∀ fl T e acc, b.kd ≠ .bld fl T e acc
 dep : depB ops = true
 grd : ∀ (i : Nat) o, ops[i]? = some o -> o.guard = none
 cja : c < ja
 alone : ∀ (i : Nat) o, i ≠ js -> ops[i]? = some o -> looksB ops o ja = false
 hja : ops[ja]? = some oj
 hjk : junkOf E.P oj = some (dd, t, sz)
 hjs : ops[js]? = some os
 hst : os.op = .store t (.tmp dd) (.tmp ty) /\ os.dst = none /\ ty ≠ dd
 anc : c ∈ ancA ops ops.size (aftA os)
 run : pivR E (lcallS E) n c [ja, js] (blankL ja js 0 ops.toList).toArray s = some (s3, s4)
 cel : cellsS s3 (look s4.tmps ty) = some us0
 cel4 : cellsS s4 (look s4.tmps ty) = some us
 len : us0.length = sz
 dn : dd < n
 eq : s' = { s4 with tmps := (dd, .inr (s4.own.b.length, 0, none)) :: s4.tmps, own := { s4.own with b := s4.own.b ++ [⟨us, t, .cells⟩] }, mem := true }
theorem noBld_ok {m : Mem} (h : noBld m = true) : ∀ (i : Nat) b, m.b[i]? = some b -> ∀ fl T e acc, b.kd ≠ .bld fl T e acc := fun i b hi fl T e acc hk => by
 have := List.all_eq_true.mp h b (List.mem_of_getElem? hi)
 rw [hk] at this; cases this
theorem pivJ_some {E : Env} {n : Nat} {ops : Array Oper} {s s' : St} (h : pivJ E n ops s = some s') : ∃ c ja js dd ty sz t oj os s3 s4 us0 us, PivJ E n ops s s' c ja js dd ty sz t oj os s3 s4 us0 us := by
 unfold pivJ at h
 split at h
 . rename_i c ja dd t sz hpi hfj
   split at h
   . rename_i js ty hfs
     simp only [cond_eq_ite] at h
     split at h
     . rename_i hc
       simp only [Bool.and_eq_true] at hc
       obtain ⟨⟨⟨⟨⟨⟨c1, c2⟩, c3⟩, c4⟩, c5⟩, c6⟩, c7⟩ := hc
       split at h
       . rename_i s3 s4 hr
         split at h
         . rename_i us0 us hus0 hus
           split at h
           . rename_i hb
             simp only [Bool.and_eq_true] at hb
             obtain ⟨⟨b1, b2⟩, b3⟩ := hb
             simp only [qS] at h
             obtain ⟨_, oj, hoj, hjk⟩ := findJ_ok ops.toList 0 ja dd t sz hfj
             obtain ⟨_, os, hos, hst⟩ := findS_ok dd t ops.toList 0 js ty hfs
             rw [Nat.sub_zero, Array.getElem?_toList] at hoj hos
             unfold ancB at c7
             rw [hos] at c7
             have lt : ∀ {j : Nat} {oj : Oper}, ops[j]? = some oj -> j < ops.size := fun {j oj} hj => by
               rcases Nat.lt_or_ge j ops.size with h | h
               . exact h
               . rw [Array.getElem?_eq_none h] at hj; cases hj
             refine ⟨c, ja, js, dd, ty, sz, t, oj, os, s3, s4, us0, us, Option.isNone_iff_eq_none.mp c1, noBld_ok c2, noBld_ok b1, c3, fun i o ho => ?_, by simpa [Nat.blt_eq] using c5, fun i o hi ho => ?_, hoj, hjk, hos, storeOf_some hst, any_mem c7, hr, hus0, hus, qB b2, by simpa [Nat.blt_eq] using b3, h.symm⟩
             . rw [<- Array.getElem?_toList] at ho
               exact Option.isNone_iff_eq_none.mp (List.all_eq_true.mp c4 o (List.mem_of_getElem? ho))
             . have := List.all_eq_true.mp c6 i (List.mem_range.mpr (lt ho))
               rw [ho] at this
               simp only [Bool.or_eq_true, Bool.not_eq_true'] at this
               rcases this with h | h
               . exact absurd (qB h) hi
               . exact h
           . cases h
         . cases h
       . cases h
     . cases h
   . cases h
 . cases h
theorem pivJ_st {E : Env} {n : Nat} {ops : Array Oper} {s s' : St} (h : pivJ E n ops s = some s') (hm : s.mem = true) (hg : Good s) : Le s s' /\ Good s' /\ s'.mem = true := by
 obtain ⟨c, ja, js, dd, ty, sz, t, oj, os, s3, s4, us0, us, H⟩ := pivJ_some h
 obtain ⟨l1, g3, l2, g4, m4⟩ := pivR_st lcallS_st H.run hm hg
 have l := l1.trans l2
 have hus : ∀ c ∈ us, okV s4.own.b.length s4.own.l.length c := cellsS_okV H.cel4 (look_ok g4.ok)
 rw [H.eq]
 refine ⟨⟨l.ext, by have := l.len; simp; omega, l.llen, l.lo, l.llo, fun i hi => ?_, l.lkeep⟩, ⟨by have := g4.lo; simp; omega, g4.llo, fun p hp => ?_, (g4.okb.snoc (b := ⟨us, t, .cells⟩) hus).mono (by simp) (Nat.le_refl _)⟩, rfl⟩
 . show (s4.own.b ++ _)[i]? = _
   rw [List.getElem?_append_left (by have := hg.lo; have := l.len; omega)]
   exact l.keep i hi
 . rcases List.mem_cons.mp hp with rfl | hp
   . show s4.own.b.length < (s4.own.b ++ _).length; simp
   . exact (g4.ok p hp).mono (by simp) (Nat.le_refl _)
theorem pivJ_ok {E : Env} (HC : CallOk E) {w0 : Base} (hG : GlobB E w0) {id n : Nat} {ops : Array Oper} {s s' : St} (hm : E.P.follows .mixedOrders = true) (hsm : s.mem = true) (h : pivJ E n ops s = some s') (hg : Good s) (hh : Holds' s') {Q : Exit -> Act -> World -> Prop} {ν0 : Nu} {a0 : Act} {w : World} (ht : TR n ν0 s a0) (hw : WR w0 ν0 s.own true w)
   (hQ : ∀ ν' a' w', Ag s.own ν0 ν' -> TR n ν' s' a' -> WR w0 ν' s'.own true w' -> Q .normal a' w') : (Code.region id ops true).wp E.P Q a0 w := by
 obtain ⟨c, ja, js, dd, ty, sz, t, oj, os, s3, s4, us0, us, H⟩ := pivJ_some h
 obtain ⟨l1, g3, l2, g4, m4⟩ := pivR_st lcallS_st H.run hsm hg
 have hh4 : Holds' s4 := by rw [H.eq] at hh; exact hh
 obtain ⟨j1, j2, j3, i0, z, hi0, hz, hzs, hsz⟩ := junkOf_some H.hjk
 obtain ⟨st1, st2, st3⟩ := H.hst
 have hd := H.dep
 have hG2 : ∀ g ob, GlobB E (withF w0 g ob) := fun g ob => ⟨hG.glob, fun h => by rw [H.hbt] at h; cases h⟩
 have lt : ∀ {j : Nat} {oj : Oper}, ops[j]? = some oj -> j < ops.size := fun {j oj} hj => by
   rcases Nat.lt_or_ge j ops.size with h | h
   . exact h
   . rw [Array.getElem?_eq_none h] at hj; cases hj
 obtain ⟨opsB, hopsB⟩ : ∃ opsB, (blankL ja js 0 ops.toList).toArray = opsB := ⟨_, rfl⟩
 have hrun0 := H.run
 rw [hopsB] at hrun0
 have szB : opsB.size = ops.size := by rw [<- hopsB, List.size_toArray, blankL_len, Array.length_toList]
 have getB' : ∀ i, opsB[i]? = (ops[i]?).map fun o => bif Nat.beq i ja || Nat.beq i js then noopT o else o := fun i => by
   rw [<- hopsB, List.getElem?_toArray, blankL_get, Array.getElem?_toList, Nat.zero_add]
 have jajs : ja ≠ js := fun e => by
   have h1 := H.hja; rw [e, H.hjs] at h1
   obtain rfl := Option.some.inj h1
   rw [j1] at st1; cases st1
 have getJ : ∀ i o, i = ja \/ i = js -> ops[i]? = some o -> opsB[i]? = some (noopT o) := fun i o hi ho => by
   have hb : (Nat.beq i ja || Nat.beq i js) = true := by
     rcases hi with rfl | rfl
     . simp
     . simp
   rw [getB', ho]
   show some (bif _ then noopT o else o) = _
   rw [hb]; rfl
 have getO : ∀ i, i ≠ ja -> i ≠ js -> opsB[i]? = ops[i]? := fun i h1 h2 => by
   have hb : (Nat.beq i ja || Nat.beq i js) = false := by
     rw [Bool.or_eq_false_iff]
     exact ⟨by
       cases h : Nat.beq i ja
       . rfl
       . exact absurd (qB h) h1, by
       cases h : Nat.beq i js
       . rfl
       . exact absurd (qB h) h2⟩
   rw [getB']
   cases ops[i]? with
   | none => rfl
   | some o => show some (bif _ then noopT o else o) = _; rw [hb]; rfl
 have after : ∀ i (oB : Oper), opsB[i]? = some oB -> ∃ o : Oper, ops[i]? = some o /\ oB.after = o.after := fun i oB hoB => by
   rw [getB'] at hoB
   cases ho : ops[i]? with
   | none => rw [ho] at hoB; cases hoB
   | some o =>
     rw [ho] at hoB
     have := Option.some.inj hoB
     refine ⟨o, ho, ?_⟩
     rw [<- this]
     cases Nat.beq i ja || Nat.beq i js <;> rfl
 have cloB : ∀ L, CloL ops L -> CloL opsB L := fun L hc i oB hoB hL e he hb => by
   obtain ⟨o, ho, ha⟩ := after i oB hoB
   exact hc i o ho hL e (by rw [<- ha]; exact he) hb
 obtain ⟨ops0, ops2, ds, ds2, _, R⟩ := pivR_inv HC lcallS_st hsm hrun0 hg hh4 (fun i hi o ho => by
   simp only [List.mem_cons, List.not_mem_nil, or_false] at hi
   obtain ⟨o', ho', _⟩ := after i o ho
   rw [getJ i o' hi ho'] at ho
   exact ⟨o', H.grd i o' ho', (Option.some.inj ho).symm⟩)
 rw [szB] at R
 have RR := fun w1 hG1 => R ν0 a0 ht w1 hG1 (lcallS_ok HC hG1)
 have dja := depB_ok hd H.hja
 have djs := depB_ok hd H.hjs
 have lookD : dd ∈ os.looksAt ops := List.mem_append_left _ (List.mem_filterMap.2 ⟨.tmp dd, by rw [st1]; simp [Op.operands], rfl⟩)
 have lookT : ty ∈ os.looksAt ops := List.mem_append_left _ (List.mem_filterMap.2 ⟨.tmp ty, by rw [st1]; simp [Op.operands], rfl⟩)
 have looksOf : ∀ (j : Nat) o, ops[j]? = some o -> ∀ u ∈ os.looksAt ops, o.dst = some u -> looksB ops os j = true := fun j o ho u hu hd' => by
   unfold looksB
   rw [ho]
   exact List.any_eq_true.mpr ⟨u, hu, dstIs_iff.mpr hd'⟩
 have doneJ : ∀ L, CloL ops L -> L js = true -> ∀ (j : Nat) o, ops[j]? = some o -> ∀ u ∈ os.looksAt ops, o.dst = some u -> L j = true := fun L hc hL j o ho u hu hd' => by
   obtain ⟨_, e, he, hbd, hon⟩ := djs.looks j (looksOf j o ho u hu hd')
   rw [<- hon]; exact hc js os H.hjs hL e he hbd
 have blank : ∀ w1, GlobB E w1 -> ∀ i o L am w, (i = ja \/ i = js) -> ops[i]? = some o -> CloL ops L -> InvP n c [ja, js] ops.size ops0 ops2 ds ds2 s s3 ν0 a0 w1 L am w -> L i = false -> (∀ e ∈ o.after, Region.binds .any e = true -> L e.on = true) -> InvP n c [ja, js] ops.size ops0 ops2 ds ds2 s s3 ν0 a0 w1 (setL L i) am w := fun w1 hG1 i o L am w hi ho hc hI hL hr => by
   obtain ⟨step, _⟩ := RR w1 hG1
   have hn := step L i (noopT o) am w (fun _ _ _ => False) (fun a' w' => InvP n c [ja, js] ops.size ops0 ops2 ds ds2 s s3 ν0 a0 w1 (setL L i) a' w') (getJ i o hi ho) (cloB L hc) hI hL hr fun _ _ h => h
   unfold wpOp at hn
   rw [getJ i o hi ho] at hn
   have hwt : Region.wanted (noopT o) (yielded opsB am.tmps) = true := by simp [Region.wanted, noopT, H.grd i o ho]
   simp only [hwt, if_true] at hn
   rcases hn with hn | ⟨_, _, _, hf⟩
   . unfold Oper.wp at hn
     rw [show (execOp am.eval (noopT o)).run E.P w = .ok (.value undef) w by simp [execOp, noopT, Act.eval], Oper.upon_value] at hn
     have e : am.put (noopT o).dst undef = am := rfl
     rw [e] at hn; exact hn
   . exact hf.elim
 let v0 := a0.tmps.getD dd undef
 refine wp_region_any hm (wpAny_steps (I := fun L a w => CloL ops L /\ ∃ am, Mask dd v0 a am /\ ((L ja = false /\ InvP n c [ja, js] ops.size ops0 ops2 ds ds2 s s3 ν0 a0 w0 L am w) \/ (L ja = true /\ ∃ g cur, a.tmps.getD dd undef = .pointer (some ⟨g, 0, none⟩) /\ cur.size = sz /\ w0.F g = none /\ w0.heap.size <= g /\ InvP n c [ja, js] ops.size ops0 ops2 ds ds2 s s3 ν0 a0 (withF w0 g (.cells cur t (0, 0))) L am w /\ (L js = true -> cur.toList = (a.tmps.getD ty undef).cells.toList)))) (fun L i o a w ho hI hL hr K hK => ?_) (fun L a w hall hI => ?_) (fun i o ho e he hb => (depB_ok hd ho).low e he hb) ops.size (Array.replicate ops.size false) a0 _ (by simp) ?_ ?_)
 . obtain ⟨hclo, am, hmk, hI⟩ := hI
   have hclo' := hclo.set ho hr
   have hwt : ∀ tm, Region.wanted o (yielded ops tm) = true := fun tm => by simp [Region.wanted, H.grd i o ho]
   unfold wpOp
   rw [ho]
   simp only [hwt, if_true]
   left
   by_cases hia : i = ja
   . -- the block is made
     subst hia
     have hoj : o = oj := by have := H.hja; rw [ho] at this; exact Option.some.inj this
     subst hoj
     rcases hI with ⟨_, hI⟩ | ⟨hLj, _⟩
     . have hLjs : L js = false := by
         cases e : L js
         . rfl
         . have := doneJ L hclo e i o ho dd lookD j2; rw [hL] at this; cases this
       obtain ⟨⟨ν, own, hwr⟩, hdf, hsz'⟩ := hI.wr
       have hr' : (execOp a.eval o).run E.P w = .ok (.value (.pointer (some ⟨w.heap.size, 0, none⟩))) (w.alloc (.cells z.cells t)) := by
         simp only [execOp, j1, Instr.alloc, zeroValue, typeInfo, Sem.run_bind, run_program, Result.andThen_ok, hi0, Sem.run_pure, hz, newVar, newRow, run_newObj, World.alloc_eq]
       unfold Oper.wp
       rw [hr', Oper.upon_value]
       have hb := (Below.refl w.heap.size w).alloc (Nat.le_refl _) (.cells z.cells t)
       have hF : w0.F w.heap.size = none := hwr.fr.fresh (Nat.le_refl _)
       have hI2 := (blank w0 hG i o L am w (.inl rfl) ho hclo hI hL hr).turn (w1 := withF w0 w.heap.size (.cells z.cells t (0, 0))) (w' := w.alloc (.cells z.cells t)) (fun ν1 own1 _ h1 => (h1.grown hb).frameAdd (g := w.heap.size) (o := .cells z.cells t) (by show (w.alloc _).heap[w.heap.size]? = _; rw [heap_alloc_new]) (fun i hi e => by have := h1.lt hi; omega) (fun k e hk hd ho heq => by have := (h1.rowLt hk hd ho heq).2; omega))
       refine hK _ _ ⟨hclo', am, ⟨by rw [put_size, hmk.size], by rw [put_defers', hmk.df], fun u hu => ?_, hmk.on⟩, .inr ⟨by simp [setL], w.heap.size, z.cells, ?_, hzs, hF, hwr.below.size, hI2, fun h => ?_⟩⟩
       . rw [getD_put, if_neg (fun e => hu (by rw [j2] at e; exact (Option.some.inj e.1).symm))]; exact hmk.off u hu
       . rw [getD_put, if_pos ⟨j2, by rw [<- hmk.size, hsz']; exact H.dn⟩]
       . unfold setL at h; rw [if_neg (fun e => jajs e.symm), hLjs] at h; cases h
     . rw [hL] at hLj; cases hLj
   by_cases his : i = js
   . -- it is written
     subst his
     have hos : o = os := by have := H.hjs; rw [ho] at this; exact Option.some.inj this
     subst hos
     have hLja : L ja = true := by
       obtain ⟨_, e, he, hbd, hon⟩ := djs.looks ja (looksOf ja oj H.hja dd lookD j2)
       rw [<- hon]; exact hr e he hbd
     have hLc : L c = true := ancA_ok hclo ops.size (aftA o) (aftA_ok hr) c H.anc
     rcases hI with ⟨h, _⟩ | ⟨_, g, cur, k1, k2, k3, k4, hI, _⟩
     . rw [h] at hLja; cases hLja
     . obtain ⟨step, last, start, mid⟩ := RR (withF w0 g (.cells cur t (0, 0))) (hG2 g _)
       obtain ⟨ν, hv, hwr⟩ := mid L am w ty hI hLc fun j oB hoB hdst => by
         by_cases hja' : j = ja
         . rw [hja']; exact hLja
         by_cases hjs' : j = i
         . subst hjs'
           rw [getJ j o (.inr rfl) ho] at hoB
           have := Option.some.inj hoB
           rw [<- this] at hdst; cases hdst
         . rw [getO j hja' hjs'] at hoB
           obtain ⟨_, e, he, hbd, hon⟩ := djs.looks j (looksOf j oB hoB ty lookT hdst)
           rw [<- hon]; exact hr e he hbd
       rw [hmk.off ty st3] at hv
       obtain ⟨hne, hcb, hone⟩ := cellsS_ok H.cel hwr
       have hv : a.tmps.getD ty undef = conc ν (look s4.tmps ty) := by
         revert hv hne
         cases look s4.tmps ty <;> intro hv hne <;> first | exact hv | exact absurd rfl hne
       obtain ⟨v, hveq⟩ : ∃ v, a.tmps.getD ty undef = v := ⟨_, rfl⟩
       rw [hveq] at hv
       rw [<- hv] at hcb hone
       have hc : v.cells.size = sz := by
         rw [<- Array.length_toList, <- hcb, <- H.len]; unfold concB; simp
       have hgc : w.heap[g]? = some (.cells cur t (0, 0)) := hwr.fr.here g _ (by show (if g = g then _ else _) = _; rw [if_pos rfl])
       have hsb : storeB E.P t cur.toList 0 v = some v.cells.toList := by
         unfold storeB
         rw [hi0]
         have e1 : v.cells.toList.length = sz := by rw [Array.length_toList, hc]
         have e2 : cur.toList.length = sz := by rw [Array.length_toList, k2]
         have hb : (Nat.beq v.cells.toList.length i0.size && Nat.ble (0 + i0.size) cur.toList.length && v.cells.toList.all Value.oneCell') = true := by
           rw [e1, e2, hsz, hone]
           have : Nat.ble (0 + sz) sz = true := Nat.ble_eq.mpr (by omega)
           rw [this]; simp
         simp only [hb, cond_true]
         unfold putQ
         rw [e1, e2]
         simp
       obtain ⟨w', r1, r2, r3, r4, r5, r6, r7⟩ := run_storeB (e := t) hsb w (by rw [Array.toArray_toList]; exact hgc)
       have hx : a.eval (.tmp dd) = .pointer (some ⟨g, 0, none⟩) := k1
       have hey : a.eval (.tmp ty) = v := hveq
       have hrun : (execOp a.eval o).run E.P w = .ok .skip w' := by
         simp only [execOp, st1, hx, hey, Instr.storeAt, Instr.sureAddr, Sem.run_bind, Sem.run_pure, Result.andThen_ok, r1]
       unfold Oper.wp
       rw [hrun, Oper.upon_skip]
       have hgr : w.grownBy w' (some g) := ⟨r5, r6, r7, by omega, fun k _ hk => r3 k (fun e => hk (by rw [e]))⟩
       have hI2 := (blank _ (hG2 g _) i o L am w (.inr rfl) ho hclo hI hL hr).turn (w1 := withF w0 g (.cells v.cells.toList.toArray t (0, 0))) (w' := w') (fun ν1 own1 hb1 h1 => h1.frameTurn k4 hgr r2 (fun i b hi fl T e acc => by
         rcases hb1 with hb1 | hb1
         . rw [hb1] at hi; exact H.nb i b hi fl T e acc
         . rw [hb1] at hi; exact H.nb3 i b hi fl T e acc))
       have ep : a.put o.dst undef = a := by rw [st2]; rfl
       rw [ep]
       refine hK _ _ ⟨hclo', am, hmk, .inr ⟨by unfold setL; rw [if_neg jajs]; exact hLja, g, v.cells.toList.toArray, k1, by rw [List.size_toArray, Array.length_toList, hc], k3, k4, hI2, fun _ => by rw [hveq]⟩⟩
   . -- any other
     have hoB : opsB[i]? = some o := by rw [getO i hia his]; exact ho
     have dep := depB_ok hd ho
     have hnl : ∀ u ∈ o.looksAt ops, u ≠ dd := fun u hu e => by
       have := H.alone i o his ho
       unfold looksB at this
       rw [H.hja] at this
       have this : (o.looksAt ops).any (dstIs oj) = false := this
       have h2 : (o.looksAt ops).any (dstIs oj) = true := List.any_eq_true.mpr ⟨u, hu, dstIs_iff.mpr (by rw [e]; exact j2)⟩
       rw [h2] at this; cases this
     have hexec : execOp am.eval o = execOp a.eval o := (exec_same (a := a) (b := am) dep.sel fun u hu => hmk.off u (hnl u hu)).symm
     have hdst : o.dst ≠ some dd := fun e => hia (dep.once ja oj dd H.hja e j2)
     have main : ∀ w1, GlobB E w1 -> InvP n c [ja, js] ops.size ops0 ops2 ds ds2 s s3 ν0 a0 w1 L am w -> (∀ v w', InvP n c [ja, js] ops.size ops0 ops2 ds ds2 s s3 ν0 a0 w1 (setL L i) (am.put o.dst v) w' -> K (a.put o.dst v) w') -> o.wp E.P a w K Q := fun w1 hG1 hI hK' => by
       obtain ⟨step, _⟩ := RR w1 hG1
       have hn := step L i o am w (fun _ _ _ => False) (fun a' w' => InvP n c [ja, js] ops.size ops0 ops2 ds ds2 s s3 ν0 a0 w1 (setL L i) a' w') hoB (cloB L hclo) hI hL hr fun _ _ h => h
       unfold wpOp at hn
       rw [hoB] at hn
       have hwtB : Region.wanted o (yielded opsB am.tmps) = true := by simp [Region.wanted, H.grd i o ho]
       simp only [hwtB, if_true] at hn
       rcases hn with hn | ⟨_, _, _, hf⟩
       . exact wp_mask hexec hK' (fun a' w' h => h.wr.2.1) hn
       . exact hf.elim
     have eja : setL L i ja = L ja := by unfold setL; rw [if_neg (fun e => hia e.symm)]
     have ejs : setL L i js = L js := by unfold setL; rw [if_neg (fun e => his e.symm)]
     rcases hI with ⟨hLj, hI⟩ | ⟨hLj, g, cur, k1, k2, k3, k4, hI, k6⟩
     . exact main w0 hG hI fun v w' hI' => hK _ _ ⟨hclo', am.put o.dst v, hmk.put hdst v, .inl ⟨by rw [eja]; exact hLj, hI'⟩⟩
     . refine main _ (hG2 g _) hI fun v w' hI' => hK _ _ ⟨hclo', am.put o.dst v, hmk.put hdst v, .inr ⟨by rw [eja]; exact hLj, g, cur, ?_, k2, k3, k4, hI', fun h => ?_⟩⟩
       . rw [getD_put, if_neg (fun e => hdst e.1)]; exact k1
       . rw [ejs] at h
         rw [getD_put, if_neg (fun e => by
           have := doneJ L hclo h i o ho ty lookT e.1
           rw [hL] at this; cases this)]
         exact k6 h
 . obtain ⟨hclo, am, hmk, hI⟩ := hI
   have hsja := lt H.hja
   have hsjs := lt H.hjs
   rcases hI with ⟨h, _⟩ | ⟨_, g, cur, k1, k2, k3, k4, hI, k6⟩
   . rw [hall ja hsja] at h; cases h
   . obtain ⟨step, last, start, mid⟩ := RR (withF w0 g (.cells cur t (0, 0))) (hG2 g _)
     obtain ⟨ν, q1, q2, q3⟩ := last L am w hall hI
     have hLc : L c = true := hall c (by have := H.cja; omega)
     obtain ⟨ν5, hv5, hwr5⟩ := mid L am w ty hI hLc fun j oB hoB _ => hall j (by rw [<- szB]; rcases Nat.lt_or_ge j opsB.size with h | h; exact h; rw [Array.getElem?_eq_none h] at hoB; cases hoB)
     have hX : a.tmps.getD ty undef = conc ν (look s4.tmps ty) := by
       have := q2.tm ty
       rw [hmk.off ty st3] at this
       have hne : look s4.tmps ty ≠ .any := (cellsS_ok H.cel hwr5).1
       revert this hne
       cases look s4.tmps ty <;> intro hv hne <;> first | exact hv | exact absurd rfl hne
     have hcur : cur.toList = concB ν us := by
       rw [k6 (hall js hsjs), hX]
       exact (cellsS_ok H.cel4 q3).2.1.symm
     have hus : ∀ c ∈ us, okV s4.own.b.length s4.own.l.length c := cellsS_okV H.cel4 (look_ok g4.ok)
     have hext := extL_old ν s4.own.b.length s4.own.l.length g
     refine hQ (extL ν s4.own.b.length g) a w (Agree.trans q1 (extL_old ν s4.own.b.length s4.own.l.length g) (Nat.le_trans l1.len l2.len) (Nat.le_trans l1.llen l2.llen)) ?_ ?_
     . rw [H.eq]
       refine ⟨by rw [<- hmk.size]; exact q2.size, fun u => ?_, by rw [<- hmk.df]; exact q2.df⟩
       show Is _ (bif Nat.beq dd u then SV.inr (s4.own.b.length, 0, none) else look s4.tmps u) _
       cases hu : Nat.beq dd u
       . have hu' : u ≠ dd := fun e => by rw [e] at hu; simp at hu
         have := (q2.move (s' := s4) g4 hext rfl).tm u
         rw [hmk.off u hu'] at this
         exact this
       . have hu' := qB hu
         subst hu'
         show a.tmps.getD dd undef = .pointer (some ⟨(extL ν s4.own.b.length g).l s4.own.b.length, 0, none⟩)
         rw [extL_new]; exact k1
     . rw [H.eq]
       exact q3.frameOwn k3 k4 hcur hus
 . have := List.length_filter_le (fun i => !lstB (Array.replicate ops.size false) i) (List.range ops.size)
   simpa using this
 . rw [rep_false]
   obtain ⟨step, last, start, mid⟩ := RR w0 hG
   exact ⟨fun i o ho hL => (by cases hL), a0, ⟨rfl, rfl, fun _ _ => rfl, rfl⟩, .inl ⟨rfl, start _ hw.drew⟩⟩
theorem tailD_some {E : Env} {cl : Callee} {n : Nat} {ops : Array Oper} {s s' : St} (h : tailD E cl n ops s = some s') : (∃ k, tailN E cl n k ops s = some s') \/ (∃ c, pivE E cl n c ops s = some s') \/ pivJ E n ops s = some s' := by
 unfold tailD at h
 split at h
 . rename_i r hr
   exact .inl ⟨2, hr.trans h⟩
 . split at h
   . rename_i r hr
     exact .inl ⟨3, hr.trans h⟩
   . split at h
     . rename_i r hr
       have h := hr.trans h
       unfold pivD at h
       split at h
       . rename_i c _; exact .inr (.inl ⟨c, h⟩)
       . cases h
     . exact .inr (.inr h)
theorem tailD_st {E : Env} {cl : Callee} (hst : ClSt cl) {n : Nat} {ops : Array Oper} {s s' : St} (h : tailD E cl n ops s = some s') (hm : s.mem = true) (hg : Good s) : Le s s' /\ Good s' /\ s'.mem = true := by
 rcases tailD_some h with ⟨k, h⟩ | ⟨c, h⟩ | h
 . exact tailN_st hst h hm hg
 . exact pivE_st hst h hm hg
 . exact pivJ_st h hm hg
theorem tailD_ok {E : Env} (HC : CallOk E) {cl : Callee} (hst : ClSt cl) {w0 : Base} (hok : ClOk E w0 cl) (hG : GlobB E w0) {id n : Nat} {ops : Array Oper} {s s' : St} (hm : E.P.follows .mixedOrders = true) (hsm : s.mem = true) (h : tailD E cl n ops s = some s') (hg : Good s) (hh : Holds' s') {Q : Exit -> Act -> World -> Prop} {ν0 : Nu} {a0 : Act} {w : World} (ht : TR n ν0 s a0) (hw : WR w0 ν0 s.own true w)
   (hQ : ∀ ν' a' w', Ag s.own ν0 ν' -> TR n ν' s' a' -> WR w0 ν' s'.own true w' -> Q .normal a' w') : (Code.region id ops true).wp E.P Q a0 w := by
 rcases tailD_some h with ⟨k, h⟩ | ⟨c, h⟩ | h
 . exact tailN_ok HC hst hok hG hm hsm h hg hh ht hw hQ
 . exact pivE_ok HC hst hok hG hm hsm h hg hh ht hw hQ
 . exact pivJ_ok HC hG hm hsm h hg hh ht hw hQ
end Go.Proofs.Ytmaffamhjmlonaa.S2
