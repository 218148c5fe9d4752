/- The evaluator with lists answers what the call returns: states and worlds. No word of the program. -/
import Derived.Test.YtmaffamhjmlonaaS2
import Derived.Laws.AppendOwn
import Derived.Laws.OwnMore
import Derived.Lib.OthersKept
set_option linter.unusedVariables false
set_option linter.unusedSimpArgs false
namespace Go.Proofs.Ytmaffamhjmlonaa.S2
open Go Go.RowKit Sim
def Agree (n m : Nat) (ν ν' : Nu) : Prop := (∀ i, i < n -> ν.l i = ν'.l i) /\ ∀ k, k < m -> ν.v k = ν'.v k
abbrev Ag (o : Mem) (ν ν' : Nu) : Prop := Agree o.b.length o.l.length ν ν'
theorem Agree.refl (n m : Nat) (ν : Nu) : Agree n m ν ν := ⟨fun _ _ => rfl, fun _ _ => rfl⟩
theorem Agree.trans {n m n' m' : Nat} {a b c : Nu} (h : Agree n m a b) (k : Agree n' m' b c) (hn : n <= n') (hm : m <= m') : Agree n m a c :=
 ⟨fun i hi => (h.1 i hi).trans (k.1 i (by omega)), fun i hi => (h.2 i hi).trans (k.2 i (by omega))⟩
theorem Agree.mono {n m n' m' : Nat} {a b : Nu} (h : Agree n m a b) (hn : n' <= n) (hm : m' <= m) : Agree n' m' a b := ⟨fun i hi => h.1 i (by omega), fun i hi => h.2 i (by omega)⟩
theorem concC_congr {ν ν' : Nu} {n m : Nat} {x : CV} (h : okC n m x) (hl : Agree n m ν ν') : concC ν x = concC ν' x := by
 cases x with
 | v fl x => rfl
 | a i off => simp [concC, hl.1 i h]
 | l k => exact hl.2 k h
theorem conc_congr {ν ν' : Nu} {n m : Nat} {x : SV} (h : okV n m x) (hl : Agree n m ν ν') : conc ν x = conc ν' x := by
 cases x with
 | inl p => rfl
 | inr p =>
   obtain ⟨i, off, _ | ⟨len, cap⟩⟩ := p
   . simp [conc, hl.1 i h]
   . simp [conc, hl.1 i h]
 | c k => exact hl.2 k h
 | lp k j o sz => simp [conc, hl.2 k h]
 | tp l =>
   simp only [conc, Value.tuple.injEq]
   congr 1
   refine List.map_congr_left fun x hx => ?_
   cases x with
   | inl p => rfl
   | inr k => exact hl.2 k (h _ hx)
   | st cs => exact congrArg (fun l => Value.agg (List.toArray l)) (List.map_congr_left fun c hc => concC_congr (h _ hx c hc) hl)
 | fn f fs cs =>
   simp only [conc]
   rw [List.map_congr_left fun x hx => concC_congr (h.1 x hx) hl, List.map_congr_left fun x hx => concC_congr (h.2 x hx) hl]
 | sub k lo n sz => simp [conc, hl.2 k h]
 | st cs => exact congrArg (fun l => Value.agg (List.toArray l)) (List.map_congr_left fun c hc => concC_congr (h c hc) hl)
 | mp i => simp [conc, hl.1 i h]
 | ia i off len n' => simp [conc, hl.1 i h]
 | rp v e j o => rfl
 | any => rfl
theorem Is_congr {ν ν' : Nu} {n m : Nat} {x : SV} {v : Value} (h : okV n m x) (hl : Agree n m ν ν') (hi : Is ν x v) : Is ν' x v := by
 have := conc_congr h hl
 cases x <;> first | trivial | exact (show v = conc ν _ from hi).trans this
def concB (ν : Nu) (cs : List SV) : List Value := cs.map (conc ν)
def OkB (n m : Nat) (bs : List Blk) : Prop := ∀ (i : Nat) (b : Blk), bs[i]? = some b -> ∀ c ∈ b.cells, okV n m c
theorem concB_congr {ν ν' : Nu} {n m : Nat} {cs : List SV} (h : ∀ c ∈ cs, okV n m c) (hl : Agree n m ν ν') : concB ν cs = concB ν' cs := List.map_congr_left fun c hc => conc_congr (h c hc) hl
theorem okC.mono {n m n' m' : Nat} {x : CV} (h : okC n m x) (hn : n <= n') (hm : m <= m') : okC n' m' x := by
 cases x with
 | v fl x => trivial
 | a i off => exact Nat.lt_of_lt_of_le h hn
 | l k => exact Nat.lt_of_lt_of_le h hm
theorem okT.mono {n m n' m' : Nat} {x : TV} (h : okT n m x) (hn : n <= n') (hm : m <= m') : okT n' m' x := by
 cases x with
 | inl p => trivial
 | inr k => exact Nat.lt_of_lt_of_le h hm
 | st cs => exact fun c hc => (h c hc).mono hn hm
theorem okV.mono {n m n' m' : Nat} {x : SV} (h : okV n m x) (hn : n <= n') (hm : m <= m') : okV n' m' x := by
 cases x with
 | inl p => trivial
 | inr p =>
   obtain ⟨i, off, _ | ⟨len, cap⟩⟩ := p
   . exact Nat.lt_of_lt_of_le h hn
   . exact Nat.lt_of_lt_of_le h hn
 | c k => exact Nat.lt_of_lt_of_le h hm
 | lp k j o sz => exact Nat.lt_of_lt_of_le h hm
 | tp l => exact fun x hx => (h x hx).mono hn hm
 | fn f fs cs => exact ⟨fun x hx => (h.1 x hx).mono hn hm, fun x hx => (h.2 x hx).mono hn hm⟩
 | sub k lo n sz => exact Nat.lt_of_lt_of_le h hm
 | st cs => exact fun c hc => (h c hc).mono hn hm
 | mp i => exact Nat.lt_of_lt_of_le h hn
 | ia i off len n' => exact Nat.lt_of_lt_of_le h hn
 | rp v e j o => trivial
 | any => trivial
theorem OkB.mono {n m n' m' : Nat} {bs : List Blk} (h : OkB n m bs) (hn : n <= n') (hm : m <= m') : OkB n' m' bs := fun i b hi c hc => (h i b hi c hc).mono hn hm
theorem OkB.snoc {n m : Nat} {bs : List Blk} {b : Blk} (h : OkB n m bs) (hb : ∀ c ∈ b.cells, okV n m c) : OkB n m (bs ++ [b]) := fun i b' hi => by
 rcases Nat.lt_trichotomy i bs.length with hl | hl | hl
 . rw [List.getElem?_append_left hl] at hi; exact h i b' hi
 . subst hl
   simp at hi
   subst hi; exact hb
 . rw [List.getElem?_eq_none (by simp; omega)] at hi; cases hi
theorem OkB.set {n m : Nat} {bs : List Blk} {b : Blk} {i : Nat} (h : OkB n m bs) (hb : ∀ c ∈ b.cells, okV n m c) : OkB n m (bs.set i b) := fun j b' hj => by
 by_cases hij : i = j
 . subst hij
   have hl := lt_of_some_list hj
   rw [List.getElem?_set_self (by simpa using hl)] at hj
   simp only [qS] at hj
   subst hj; exact hb
 . rw [List.getElem?_set_ne hij] at hj; exact h j b' hj
theorem okV_mkCells {n m : Nat} : ∀ (vs : List Value) (fl : List Bool), ∀ c ∈ mkCells vs fl, okV n m c
 | [], _, c, h => by cases h
 | v :: r, [], c, h => by
   rcases List.mem_cons.mp (show c ∈ .inl ([false], v) :: mkCells r [] from h) with rfl | h
   . trivial
   . exact okV_mkCells r _ c h
 | v :: r, b :: fl, c, h => by
   rcases List.mem_cons.mp (show c ∈ .inl ([b], v) :: mkCells r fl from h) with rfl | h
   . trivial
   . exact okV_mkCells r _ c h
theorem concB_mkCells (ν : Nu) : ∀ (vs : List Value) (fl : List Bool), concB ν (mkCells vs fl) = vs
 | [], _ => rfl
 | v :: r, [] => by show v :: concB ν (mkCells r []) = _; rw [concB_mkCells ν r]
 | v :: r, b :: fl => by show v :: concB ν (mkCells r fl) = _; rw [concB_mkCells ν r]
theorem okCB_ok {n m : Nat} {l : List CV} (h : l.all (okCB n m) = true) : ∀ x ∈ l, okC n m x := fun x hx => by
 have := List.all_eq_true.mp h x hx
 cases x with
 | v fl x => trivial
 | a i off => simpa [okCB, okC, Nat.blt_eq] using this
 | l k => simpa [okCB, okC, Nat.blt_eq] using this
theorem okVB_ok {n m : Nat} {x : SV} (h : okVB n m x = true) : okV n m x := by
 cases x with
 | inl q => trivial
 | inr q => obtain ⟨i, off, _ | ⟨len, cap⟩⟩ := q <;> simpa [okVB, okV, Nat.blt_eq] using h
 | c k => simpa [okVB, okV, Nat.blt_eq] using h
 | lp k j o sz => simpa [okVB, okV, Nat.blt_eq] using h
 | tp l =>
   intro t ht
   have := List.all_eq_true.mp h t ht
   cases t with
   | inl p => trivial
   | inr k => simpa [okTB, okT, Nat.blt_eq] using this
   | st cs => exact okCB_ok this
 | fn f fs cs =>
   simp only [okVB, Bool.and_eq_true] at h
   exact ⟨okCB_ok h.1, okCB_ok h.2⟩
 | sub k lo n' sz => simpa [okVB, okV, Nat.blt_eq] using h
 | st cs => exact okCB_ok h
 | mp i => simpa [okVB, okV, Nat.blt_eq] using h
 | ia i off len n' => simpa [okVB, okV, Nat.blt_eq] using h
 | rp v e j o => trivial
 | any => trivial
theorem look_ok {n m : Nat} : ∀ {l : List (Nat × SV)} {t : Nat}, (∀ p ∈ l, okV n m p.2) -> okV n m (look l t)
 | [], _, _ => trivial
 | (d, x) :: r, t, h => by
   unfold look
   cases hb : Nat.beq d t
   . exact look_ok fun p hp => h p (List.mem_cons_of_mem _ hp)
   . exact h (d, x) (List.mem_cons_self)
def LE.wf (e : LE) : Prop := 0 < e.size /\ ∀ j, j < e.n -> (e.el j).length = e.size /\ (e.el j).all Value.oneCell' = true
def LE.flat (e : LE) : List Value := (List.range e.n).flatMap e.el
def InB (B : Nat) (w : World) (e : LE) (v : Value) : Prop :=
 e.wf /\ ∃ a cap, v = .slice a e.n cap /\ e.n <= cap /\ (0 < e.n -> ∃ b off, a = some ⟨b, off, none⟩ /\ b < B /\ ∀ j, j < e.n -> ∀ (o : Nat) c, (e.el j)[o]? = some c -> w.cell? ⟨b, off + j * e.size + o, none⟩ = some c)
def OwnB (B : Nat) (w : World) (e : LE) (v : Value) : Prop := e.wf /\ w.ownsRow B e.elT e.size v e.n e.flat
theorem flat_len {f : Nat -> List Value} {s : Nat} : ∀ (n : Nat), (∀ j, j < n -> (f j).length = s) -> ((List.range n).flatMap f).length = n * s
 | 0, _ => by simp
 | n + 1, h => by
   rw [List.range_succ, List.flatMap_append, List.length_append, flat_len n (fun j hj => h j (by omega))]
   simp [h n (by omega), Nat.add_mul]
theorem flat_get {f : Nat -> List Value} {s : Nat} : ∀ (n : Nat), (∀ j, j < n -> (f j).length = s) -> ∀ (j : Nat), j < n -> ∀ (o : Nat), o < s -> ((List.range n).flatMap f)[j * s + o]? = (f j)[o]?
 | 0, _, j, hj, _, _ => by omega
 | n + 1, h, j, hj, o, ho => by
   have hl := flat_len n (fun j hj => h j (by omega))
   rw [List.range_succ, List.flatMap_append]
   by_cases hjn : j < n
   . have : (j + 1) * s <= n * s := Nat.mul_le_mul_right _ hjn
     rw [Nat.add_mul, Nat.one_mul] at this
     rw [List.getElem?_append_left (by rw [hl]; omega), flat_get n (fun j hj => h j (by omega)) j hjn o ho]
   . obtain rfl : j = n := by omega
     rw [List.getElem?_append_right (by rw [hl]; omega), hl]
     simp
theorem OwnB.cell {B : Nat} {w : World} {e : LE} {v : Value} (h : OwnB B w e v) (hn : 0 < e.n) : ∃ g cap, v = .slice (some ⟨g, 0, none⟩) e.n cap /\ v.ownBlock = some g /\ B <= g /\ g < w.heap.size /\ ∀ j, j < e.n -> ∀ (o : Nat) c, (e.el j)[o]? = some c -> w.cell? ⟨g, j * e.size + o, none⟩ = some c := by
 obtain ⟨⟨hs, hwf⟩, hrow⟩ := h
 have hlt := hrow.lt
 have hcells := @World.ownsRow.cells _ _ _ _ _ _ _ hrow
 rcases hrow.2 with ⟨_, h0⟩ | ⟨g, cap, cur, rfl, hb, hg, _⟩
 . omega
 . refine ⟨g, cap, rfl, rfl, hb, (hlt g rfl).2, fun j hj o c hc => ?_⟩
   have ho : o < e.size := by rw [<- (hwf j hj).1]; exact lt_of_some_list hc
   have := hcells (g := g) rfl (j * e.size + o) c (by unfold LE.flat; rw [flat_get e.n (fun j hj => (hwf j hj).1) j hj o ho]; exact hc)
   rwa [add_plain, Nat.zero_add] at this
theorem OwnB.slice {B : Nat} {w : World} {e : LE} {v : Value} (h : OwnB B w e v) : ∃ a cap, v = .slice a e.n cap := by
 rcases h.2.2 with ⟨rfl, h0⟩ | ⟨g, cap, cur, rfl, _⟩
 . exact ⟨none, 0, by rw [h0]⟩
 . exact ⟨_, cap, rfl⟩
theorem OwnB.cap {B : Nat} {w : World} {e : LE} {v : Value} (h : OwnB B w e v) : ∃ a cap, v = .slice a e.n cap /\ e.n <= cap := by
 rcases h.2.2 with ⟨rfl, h0⟩ | ⟨g, cap, cur, rfl, _, _, hc, _⟩
 . exact ⟨none, 0, by rw [h0], by omega⟩
 . exact ⟨_, cap, rfl, hc⟩
theorem OwnB.inB {B : Nat} {w : World} {e : LE} {v : Value} (h : OwnB B w e v) : InB w.heap.size w e v := by
 obtain ⟨a, cap, hv, hle⟩ := h.cap
 refine ⟨h.1, a, cap, hv, hle, fun hn => ?_⟩
 obtain ⟨g, cap', hv', _, _, hg, hc⟩ := h.cell hn
 rw [hv] at hv'
 simp only [Value.slice.injEq] at hv'
 exact ⟨g, 0, hv'.1, hg, fun j hj o c hoc => by rw [Nat.zero_add]; exact hc j hj o c hoc⟩
theorem InB.more {B B' : Nat} {w : World} {e : LE} {v : Value} (h : InB B w e v) (hB : B <= B') : InB B' w e v := by
 obtain ⟨h1, a, cap, hv, hle, hc⟩ := h
 refine ⟨h1, a, cap, hv, hle, fun hn => ?_⟩
 obtain ⟨b, off, ha, hb, hcell⟩ := hc hn
 exact ⟨b, off, ha, by omega, hcell⟩
theorem InB.kept {B : Nat} {w w' : World} {e : LE} {v : Value} (h : InB B w e v) (hk : ∀ b, b < B -> w'.heap[b]? = w.heap[b]?) : InB B w' e v := by
 obtain ⟨h1, a, cap, hv, hle, hc⟩ := h
 refine ⟨h1, a, cap, hv, hle, fun hn => ?_⟩
 obtain ⟨b, off, ha, hb, hcell⟩ := hc hn
 exact ⟨b, off, ha, hb, fun j hj o c hoc => (World.cell?_of_block (w := w) (a := ⟨b, _, none⟩) (hk b hb)).trans (hcell j hj o c hoc)⟩
theorem OwnB.kept {B : Nat} {w w' : World} {e : LE} {v : Value} {row : Option Nat} (h : OwnB B w e v) (hg : w.grownBy w' row) (hne : v.ownBlock = none \/ v.ownBlock ≠ row) : OwnB B w' e v := ⟨h.1, h.2.kept hg hne⟩
theorem OwnB.more {B B' : Nat} {w : World} {e : LE} {v : Value} (h : OwnB B w e v) (hB : B' <= B) : OwnB B' w e v := by
 refine ⟨h.1, h.2.1, ?_⟩
 rcases h.2.2 with h | ⟨g, cap, cur, hv, hb, rest⟩
 . exact .inl h
 . exact .inr ⟨g, cap, cur, hv, by omega, rest⟩
theorem InB.sub {B : Nat} {w : World} {e : LE} {v : Value} (h : InB B w e v) (lo n : Nat) (hle : lo + n <= e.n) (o : Bool) : InB B w ⟨e.elT, e.size, n, fun j => e.el (lo + j), false, false, o⟩ (subOf v lo n e.size) := by
 obtain ⟨⟨h1, h2⟩, a, cap, rfl, hcap, hc⟩ := h
 refine ⟨⟨h1, fun j hj => h2 (lo + j) (by have : j < n := hj; omega)⟩, _, _, rfl, by show n <= cap - lo; omega, fun hn => ?_⟩
 have hn : 0 < n := hn
 obtain ⟨b, off, rfl, hb, hcell⟩ := hc (by omega)
 refine ⟨b, off + lo * e.size, ?_, hb, fun j hj o c hoc => ?_⟩
 . rw [if_neg (by omega)]
   simp [add_plain]
 . have hj : j < n := hj
   have := hcell (lo + j) (by omega) o c hoc
   rw [Nat.add_mul] at this
   rw [show off + lo * e.size + j * e.size + o = off + (lo * e.size + j * e.size) + o by omega]
   exact this
def LOk (B : Nat) (w : World) (e : LE) (v : Value) : Prop := bif e.own then OwnB B w e v else InB B w e v
def BOk (B : Nat) (ν : Nu) (w : World) (a : Nat) (b : Blk) : Prop := match b.kd with
 | .cells => w.heap[a]? = some (.cells (concB ν b.cells).toArray b.elem (0, 0))
 | .iter _ s pos => w.heap[a]? = some (.stringIter s pos)
 | .bld _ T e acc => Lib.IsBuilderF T e B a (Lib.strCells acc) w /\ T ≠ e
 | .shut => w.heap[a]? = some (.cells (concB ν b.cells).toArray b.elem (b.cells.length, b.cells.length + 1))
 | .map _ l => MapL w a l
 | .mapV _ l => MapV w a l
theorem BOk.cells {B : Nat} {ν : Nu} {w : World} {a : Nat} {b : Blk} (h : BOk B ν w a b) (hk : b.kd = .cells) : w.heap[a]? = some (.cells (concB ν b.cells).toArray b.elem (0, 0)) := by
 unfold BOk at h; rw [hk] at h; exact h
theorem isC_kd {b : Blk} (h : isC b = true) : b.kd = .cells := by
 unfold isC at h
 split at h
 . assumption
 . cases h
theorem getB_some {s : St} {i : Nat} {b : Blk} (h : getB s i = some b) : s.own.b[i]? = some b /\ b.kd = .cells := by
 unfold getB at h
 split at h
 . rename_i b' hb
   cases hc : isC b'
   . rw [hc] at h; cases h
   . rw [hc] at h
     simp only [cond_true, qS] at h
     subst h; exact ⟨hb, isC_kd hc⟩
 . cases h
theorem BOk.lt {B : Nat} {ν : Nu} {w : World} {a : Nat} {b : Blk} (h : BOk B ν w a b) : a < w.heap.size := by
 unfold BOk at h
 split at h
 . exact lt_of_some h
 . exact lt_of_some h
 . rcases h.1 with h | h
   . exact h.lt
   . exact h.lt
 . exact lt_of_some h
 . exact h.lt
 . exact h.lt
theorem BOk.congr {B : Nat} {ν ν' : Nu} {w : World} {a : Nat} {b : Blk} {n m : Nat} (h : BOk B ν w a b) (hok : ∀ c ∈ b.cells, okV n m c) (ha : Agree n m ν ν') : BOk B ν' w a b := by
 unfold BOk at *
 split at h
 . rw [<- concB_congr hok ha]; exact h
 . exact h
 . exact h
 . rw [<- concB_congr hok ha]; exact h
 . exact h
 . exact h
theorem bldAt_kept {T e : TypeId} {B a : Nat} {p : Value} {bs : List Value} {w w' : World} {row : Option Nat} (h : Lib.BuilderAtF T e B a p bs w) (hg : w.grownBy w' row) (hne : row ≠ some a) (hr : ∀ g cs fz, row = some g -> w.heap[g]? ≠ some (.cells cs e fz)) : Lib.BuilderAtF T e B a p bs w' := by
 obtain ⟨hB, v, hb, hown, hn⟩ := h
 refine ⟨hB, v, (hg.block a (lt_of_some hb) (fun e => hne e.symm)).trans hb, hown.kept hg ?_, hn⟩
 rcases hown.2 with ⟨rfl, _⟩ | ⟨g, cap, cur, fz, rfl, _, hgg, _⟩
 . exact .inl rfl
 . exact .inr fun heq => hr g cur fz heq.symm hgg
theorem BOk.turn {B : Nat} {ν : Nu} {w w' : World} {a : Nat} {b : Blk} {row : Option Nat} (h : BOk B ν w a b) (hg : w.grownBy w' row) (hne : row ≠ some a)
   (hr : ∀ g cs fz fl T e acc, row = some g -> b.kd = .bld fl T e acc -> w.heap[g]? ≠ some (.cells cs e fz)) : BOk B ν w' a b := by
 have hlt := h.lt
 have hsame := hg.block a hlt (fun e => hne e.symm)
 unfold BOk at *
 split at h
 . rw [hsame]; exact h
 . rw [hsame]; exact h
 . rename_i fl T e acc hk
   refine ⟨?_, h.2⟩
   rcases h.1 with h | h
   . exact .inl (bldAt_kept h hg hne fun g cs fz e1 => hr g cs fz fl T e acc e1 hk)
   . exact .inr (bldAt_kept h hg hne fun g cs fz e1 => hr g cs fz fl T e acc e1 hk)
 . rw [hsame]; exact h
 . exact h.of_heap hsame
 . exact h.of_heap hsame
structure Base extends World where
 F : Nat -> Option Obj
instance : Coe Base World := ⟨Base.toWorld⟩
def base0 (w : World) : Base := ⟨w, fun _ => none⟩
instance : Coe World Base := ⟨base0⟩
structure Fr (F : Nat -> Option Obj) (ν : Nu) (own : Mem) (w : World) : Prop where
 here : ∀ b o, F b = some o -> w.heap[b]? = some o
 offb : ∀ i, i < own.b.length -> F (ν.l i) = none
 offl : ∀ (k : Nat) e, own.l[k]? = some e -> e.dead = false -> e.own = true -> ∀ g, (ν.v k).ownBlock = some g -> F g = none
theorem Fr.void (ν : Nu) (own : Mem) (w : World) : Fr (fun _ => none) ν own w := ⟨fun _ _ h => (by cases h), fun _ _ => rfl, fun _ _ _ _ _ _ _ => rfl⟩
theorem Fr.fresh {F : Nat -> Option Obj} {ν : Nu} {own : Mem} {w : World} (h : Fr F ν own w) {b : Nat} (hb : w.heap.size <= b) : F b = Option.none := by
 cases e : F b with
 | none => rfl
 | some o =>
   have := lt_of_some (h.here b o e)
   omega
theorem Fr.below {F : Nat -> Option Obj} {ν : Nu} {own : Mem} {w w' : World} (h : Fr F ν own w) (hb : Below w.heap.size w w') : Fr F ν own w' :=
 ⟨fun b o e => (hb.block b (lt_of_some (h.here b o e))).trans (h.here b o e), h.offb, h.offl⟩
structure WR (w0 : Base) (ν : Nu) (own : Mem) (mem : Bool) (w : World) : Prop where
 below : Below w0.heap.size w0.toWorld w
 blk : ∀ i b, own.b[i]? = some b -> BOk w0.heap.size ν w (ν.l i) b /\ w0.heap.size <= ν.l i
 okb : OkB own.b.length own.l.length own.b
 inj : ∀ i j, i < own.b.length -> j < own.b.length -> ν.l i = ν.l j -> i = j
 lst : ∀ k e, own.l[k]? = some e -> e.dead = false -> LOk w0.heap.size w e (ν.v k)
 sep : ∀ k e, own.l[k]? = some e -> e.dead = false -> e.own = true -> ∀ g, (ν.v k).ownBlock = some g -> (∀ i, i < own.b.length -> ν.l i ≠ g) /\ ∀ k' e', own.l[k']? = some e' -> e'.dead = false -> e'.own = true -> k' ≠ k -> (ν.v k').ownBlock ≠ some g
 same : mem = false -> w = w0.toWorld
 fr : Fr w0.F ν own w
structure TR (n : Nat) (ν : Nu) (s : St) (a : Act) : Prop where
 size : a.tmps.size = n
 tm : ∀ t, Is ν (look s.tmps t) (a.tmps.getD t undef)
 df : a.defers = []
structure Good (s : St) : Prop where
 lo : s.lo <= s.own.b.length
 llo : s.llo <= s.own.l.length
 ok : ∀ p ∈ s.tmps, okV s.own.b.length s.own.l.length p.2
 okb : OkB s.own.b.length s.own.l.length s.own.b
def Holds' (s : St) : Prop := ∀ p ∈ s.obl, p.1 = p.2
structure Le (s s' : St) : Prop where
 ext : ∀ p ∈ s.obl, p ∈ s'.obl
 len : s.own.b.length <= s'.own.b.length
 llen : s.own.l.length <= s'.own.l.length
 lo : s'.lo = s.lo
 llo : s'.llo = s.llo
 keep : ∀ i, i < s.lo -> s'.own.b[i]? = s.own.b[i]?
 lkeep : ∀ i, i < s.llo -> s'.own.l[i]? = s.own.l[i]?
theorem Le.refl (s : St) : Le s s := ⟨fun _ h => h, Nat.le_refl _, Nat.le_refl _, rfl, rfl, fun _ _ => rfl, fun _ _ => rfl⟩
theorem Le.trans {s t u : St} (h : Le s t) (k : Le t u) : Le s u :=
 ⟨fun p hp => k.ext p (h.ext p hp), Nat.le_trans h.len k.len, Nat.le_trans h.llen k.llen, k.lo.trans h.lo, k.llo.trans h.llo, fun i hi => (k.keep i (by rw [h.lo]; exact hi)).trans (h.keep i hi), fun i hi => (k.lkeep i (by rw [h.llo]; exact hi)).trans (h.lkeep i hi)⟩
theorem Le.holds {s s' : St} (h : Le s s') (k : Holds' s') : Holds' s := fun p hp => k p (h.ext p hp)
abbrev Glob (E : Env) (w : World) : Prop := GlobW E.glob w
structure GlobB (E : Env) (w0 : Base) : Prop where
 glob : GlobW E.glob w0.toWorld
 free : E.bt.isSome = true -> w0.F = fun _ => none
theorem GlobB.below {E : Env} {w0 : Base} {w : World} (h : GlobB E w0) (hb : Below w0.heap.size w0.toWorld w) : Glob E w := GlobW.below h.glob hb
theorem GlobB.of {E : Env} {w : World} (h : Glob E w) : GlobB E (base0 w) := ⟨h, fun _ => rfl⟩
def CellsOk (w : World) : List (Sum Value LE) -> List Value -> Prop
 | [], [] => True
 | .inl x :: r, v :: vs => v = x /\ CellsOk w r vs
 | .inr e :: r, v :: vs => InB w.heap.size w e v /\ CellsOk w r vs
 | _, _ => False
def ArgsOk (w : World) : List XV -> List Value -> Prop
 | [], [] => True
 | .inl x :: r, v :: vs => v = x /\ ArgsOk w r vs
 | .inr e :: r, v :: vs => InB w.heap.size w e v /\ ArgsOk w r vs
 | .st cs :: r, v :: vs => (∃ us : List Value, v = .agg us.toArray /\ CellsOk w cs us) /\ ArgsOk w r vs
 | _, _ => False
def flatX : List XV -> List (Sum Value LE)
 | [] => []
 | .inl x :: r => .inl x :: flatX r
 | .inr e :: r => .inr e :: flatX r
 | .st cs :: r => cs ++ flatX r
def Shape : List XV -> List Value -> List Value -> Prop
 | [], vs, us => vs = [] /\ us = []
 | .inl _ :: r, vs, us => ∃ v vs' us', vs = v :: vs' /\ us = v :: us' /\ Shape r vs' us'
 | .inr _ :: r, vs, us => ∃ v vs' us', vs = v :: vs' /\ us = v :: us' /\ Shape r vs' us'
 | .st cs :: r, vs, us => ∃ a vs' us', vs = .agg a.toArray :: vs' /\ us = a ++ us' /\ a.length = cs.length /\ Shape r vs' us'
def CellsOut (B : Nat) (w : World) : List (Sum Value LE) -> List Value -> Prop
 | [], [] => True
 | .inl x :: r, v :: vs => v = x /\ CellsOut B w r vs
 | .inr e :: r, v :: vs => (OwnB B w e v /\ ∀ g, v.ownBlock = some g -> ∀ u ∈ vs, u.ownBlock ≠ some g) /\ CellsOut B w r vs
 | _, _ => False
def OutOk (B : Nat) (w : World) (res : List XV) (vs : List Value) : Prop := ∃ us, Shape res vs us /\ CellsOut B w (flatX res) us
theorem outOk_v {B : Nat} {w : World} {x : Value} {vs : List Value} (h : OutOk B w [.inl x] vs) : vs = [x] := by
 obtain ⟨us, ⟨v, vs', us', rfl, rfl, rfl, rfl⟩, hc⟩ := h
 have : v = x := hc.1
 rw [this]
theorem outOk_l {B : Nat} {w : World} {e : LE} {vs : List Value} (h : OutOk B w [.inr e] vs) : ∃ u, vs = [u] /\ OwnB B w e u := by
 obtain ⟨us, ⟨v, vs', us', rfl, rfl, rfl, rfl⟩, hc⟩ := h
 exact ⟨v, rfl, hc.1.1⟩
def outV (tup : Bool) (vs : List Value) : Value := bif tup then .tuple vs.toArray else vs.headD undef
def LRet (P : Program) (f : FuncId) (vals : List Value) (tup : Bool) (res : List XV) (w : World) : Prop :=
 Calls P f vals.toArray w fun e w' => ∃ vs, e = .returned (outV tup vs) /\ OutOk w.heap.size w' res vs /\ Below w.heap.size w w'
def BldOk (P : Program) (T e : TypeId) (op : BOp) (f : FuncId) : Prop := ∀ acc args v add, bopR op acc args = some (v, add, true) -> ∀ B b w, Lib.IsBuilderF T e B b (Lib.strCells acc) w -> fitB acc add = true -> B <= w.heap.size ->
 Calls P f ((Value.pointer (some ⟨b, 0, none⟩) :: args).toArray) w fun r w' => r = .returned v /\ Lib.IsBuilderF T e B b (Lib.strCells (accB true acc add)) w' /\ Below B w w' /\ Lib.OthersKept e (some b) w w'
def IsL (ν : Nu) : List SV -> List Value -> Prop
 | [], [] => True
 | x :: r, v :: vs => Is ν x v /\ IsL ν r vs
 | _, _ => False
def SemF (P : Program) (gl : Nat -> Option (List Value)) (f : FuncId) (args : List SV) (own : Mem) (x : SV) (own' : Mem) : Prop := ∀ (w0 : Base), GlobW gl w0.toWorld -> ∀ ν w vs, IsL ν args vs -> WR w0 ν own true w ->
 Calls P f vs.toArray w fun e w' => ∃ ν' v, Ag own ν ν' /\ e = .returned v /\ Is ν' x v /\ WR w0 ν' own' true w'
def EffOk (P : Program) (gl : Nat -> Option (List Value)) (eff : FuncId -> Option (List SV -> Mem -> Option Eff)) : Prop := ∀ f g args own r, eff f = some g -> g args own = some r -> r.ok = true -> SemF P gl f args own r.x (applyE own r)
theorem EffOk.none {P : Program} {gl : Nat -> Option (List Value)} : EffOk P gl fun _ => none := fun _ _ _ _ _ h => by cases h
def CallOk (E : Env) : Prop := (∀ f args v, E.call f args = some v -> ∀ w, Glob E w -> Calls E.P f args w fun e w' => e = .returned v /\ Below w.heap.size w w') /\
 (∀ f args v, E.pcall f args = some (v, true) -> ∀ w, Glob E w -> Calls E.P f args.toArray w fun e w' => e = .returned v /\ Below w.heap.size w w') /\
 (∀ f args tup res, E.lcall f args = some (tup, res, true) -> ∀ w vals, Glob E w -> ArgsOk w args vals -> LRet E.P f vals tup res w) /\
 (∀ f op T e, E.bop f = some op -> E.bt = some (T, e) -> BldOk E.P T e op f) /\
 (∀ f args v, E.acall f args = some (v, true) -> ∀ w, Glob E w -> Calls E.P f args.toArray w fun e w' => (∃ u, e = .returned (.tuple #[v, u])) /\ Below w.heap.size w w') /\
 EffOk E.P E.glob E.eff
theorem grownBy_of {w w' : World} (h : Below w.heap.size w w') (row : Option Nat) : w.grownBy w' row := ⟨h.os, h.tape, h.output, h.size, fun k hk _ => h.block k hk⟩
theorem LOk.kept {B : Nat} {w w' : World} {e : LE} {v : Value} {row : Option Nat} (h : LOk B w e v) (hg : w.grownBy w' row) (hB : B <= w.heap.size) (hr : ∀ g, row = some g -> B <= g) (hne : e.own = true -> v.ownBlock = none \/ v.ownBlock ≠ row) : LOk B w' e v := by
 unfold LOk at *
 cases ho : e.own
 . rw [ho] at h
   exact InB.kept h fun b hb => hg.block b (by omega) fun e => by have := hr b e.symm; omega
 . rw [ho] at h
   exact OwnB.kept h hg (hne ho)
theorem WR.grown {w0 : Base} {ν : Nu} {own : Mem} {mem : Bool} {w w' : World} (h : WR w0 ν own mem w) (hb : Below w.heap.size w w') : WR w0 ν own true w' :=
 ⟨h.below.trans (hb.mono h.below.size), fun i b hi => by
   obtain ⟨h1, h2⟩ := h.blk i b hi
   exact ⟨h1.turn (grownBy_of hb none) (fun e => by cases e) (fun _ _ _ _ _ _ _ e => by cases e), h2⟩, h.okb, h.inj, fun k e hk hd => (h.lst k e hk hd).kept (grownBy_of hb none) h.below.size (fun _ e => by cases e) (fun _ => by cases (ν.v k).ownBlock <;> simp), h.sep, (fun h => by cases h), h.fr.below hb⟩
theorem WR.mem {w0 : Base} {ν : Nu} {own : Mem} {mem : Bool} {w : World} (h : WR w0 ν own mem w) : WR w0 ν own true w := ⟨h.below, h.blk, h.okb, h.inj, h.lst, h.sep, (fun h => by cases h), h.fr⟩
theorem WR.restrict {w0 : Base} {ν ν' : Nu} {own own' : Mem} {mem : Bool} {w : World} (h : WR w0 ν' own' mem w) (hok : OkB own.b.length own.l.length own.b) (ha : Ag own ν ν') (hl : own.b.length <= own'.b.length) (hk : ∀ i, i < own.b.length -> own'.b[i]? = own.b[i]?) (hk' : ∀ i, i < own.l.length -> own'.l[i]? = own.l[i]?) : WR w0 ν own true w :=
 ⟨h.below, fun i b hi => by
   have hlt := lt_of_some_list hi
   rw [ha.1 i hlt]
   obtain ⟨h1, h2⟩ := h.blk i b (by rw [hk i hlt]; exact hi)
   exact ⟨h1.congr (hok i b hi) ⟨fun i hi => (ha.1 i hi).symm, fun i hi => (ha.2 i hi).symm⟩, h2⟩, hok, fun i j hi hj he => h.inj i j (by omega) (by omega) (by rw [<- ha.1 i hi, <- ha.1 j hj]; exact he),
  fun k e he hd => by
   have hlt := lt_of_some_list he
   rw [ha.2 k hlt]
   exact h.lst k e (by rw [hk' k hlt]; exact he) hd,
  fun k e he hd ho g hg => by
   have hlt := lt_of_some_list he
   rw [ha.2 k hlt] at hg
   obtain ⟨s1, s2⟩ := h.sep k e (by rw [hk' k hlt]; exact he) hd ho g hg
   refine ⟨fun i hi => by rw [ha.1 i hi]; exact s1 i (by omega), fun k' e' he' hd' ho' hne => ?_⟩
   have hlt' := lt_of_some_list he'
   rw [ha.2 k' hlt']
   exact s2 k' e' (by rw [hk' k' hlt']; exact he') hd' ho' hne, (fun h => by cases h), ⟨h.fr.here, fun i hi => by rw [ha.1 i hi]; exact h.fr.offb i (by omega), fun k e he hd ho g hg => by
   have hlt := lt_of_some_list he
   rw [ha.2 k hlt] at hg
   exact h.fr.offl k e (by rw [hk' k hlt]; exact he) hd ho g hg⟩⟩
theorem WR.drew {w0 : Base} {ν : Nu} {own : Mem} {mem : Bool} {w : World} (h : WR w0 ν own mem w) : WR w0 ν own true { w with drawn := w.drawn + 1 } :=
 h.grown ⟨rfl, rfl, rfl, Nat.le_refl _, fun _ _ => rfl⟩
theorem getL_some {s : St} {k : Nat} {e : LE} (h : getL s k = some e) : s.own.l[k]? = some e /\ e.dead = false := by
 unfold getL at h
 split at h
 . rename_i e' he
   cases hd : e'.dead
   . rw [hd] at h; simp only [cond_false, qS] at h; subst h; exact ⟨he, hd⟩
   . rw [hd] at h; cases h
 . cases h
theorem WR.inB {w0 : Base} {ν : Nu} {own : Mem} {mem : Bool} {w : World} (h : WR w0 ν own mem w) {k : Nat} {e : LE} (he : own.l[k]? = some e) (hd : e.dead = false) : InB w.heap.size w e (ν.v k) := by
 have := h.lst k e he hd
 unfold LOk at this
 cases ho : e.own
 . rw [ho] at this; exact InB.more this h.below.size
 . rw [ho] at this; exact OwnB.inB this
theorem eval_is {n : Nat} {ν : Nu} {s : St} {a : Act} (h : TR n ν s a) (x : Operand) : Is ν (ev s x) (a.eval x) := by
 cases x with
 | tmp t => exact h.tm t
 | const v => rfl
 | global g => rfl
 | func f => rfl
theorem eval_ev {n : Nat} {ν : Nu} {s : St} {a : Act} (h : TR n ν s a) {x : Operand} {y : SV} (hx : ev s x = y) (hy : y ≠ .any) : a.eval x = conc ν y := by
 have := eval_is h x
 rw [hx] at this
 cases y <;> first | exact this | exact absurd rfl hy
theorem eval_v {n : Nat} {ν : Nu} {s : St} {a : Act} (h : TR n ν s a) {x : Operand} {fl : List Bool} {y : Value} (hx : ev s x = .inl (fl, y)) : a.eval x = y := eval_ev h hx (by simp)
theorem eval_own {n : Nat} {ν : Nu} {s : St} {a : Act} (h : TR n ν s a) {x : Operand} {i off : Nat} (hx : ev s x = .inr (i, off, none)) : a.eval x = .pointer (some ⟨ν.l i, off, none⟩) := eval_ev h hx (by simp)
theorem eval_sl {n : Nat} {ν : Nu} {s : St} {a : Act} (h : TR n ν s a) {x : Operand} {i off len cap : Nat} (hx : ev s x = .inr (i, off, some (len, cap))) : a.eval x = .slice (some ⟨ν.l i, off, none⟩) len cap := eval_ev h hx (by simp)
theorem eval_c {n : Nat} {ν : Nu} {s : St} {a : Act} (h : TR n ν s a) {x : Operand} {k : Nat} (hx : ev s x = .c k) : a.eval x = ν.v k := eval_ev h hx (by simp)
theorem eval_lp {n : Nat} {ν : Nu} {s : St} {a : Act} (h : TR n ν s a) {x : Operand} {k j o sz : Nat} (hx : ev s x = .lp k j o sz) : a.eval x = placeOf (ν.v k) (j * sz + o) := eval_ev h hx (by simp)
theorem eval_tp {n : Nat} {ν : Nu} {s : St} {a : Act} (h : TR n ν s a) {x : Operand} {l : List TV} (hx : ev s x = .tp l) : a.eval x = .tuple (l.map (concT ν)).toArray := eval_ev h hx (by simp)
theorem eval_ia {n : Nat} {ν : Nu} {s : St} {a : Act} (h : TR n ν s a) {x : Operand} {i off len : Nat} {m : Int} (hx : ev s x = .ia i off len m) : a.eval x = .pointer (some ⟨ν.l i, off + m.toNat, none⟩) := eval_ev h hx (by simp)
theorem eval_rp {n : Nat} {ν : Nu} {s : St} {a : Act} (h : TR n ν s a) {x : Operand} {v : Value} {e : LE} {j o : Nat} (hx : ev s x = .rp v e j o) : a.eval x = placeOf v (j * e.size + o) := eval_ev h hx (by simp)
theorem eval_mp {n : Nat} {ν : Nu} {s : St} {a : Act} (h : TR n ν s a) {x : Operand} {i : Nat} (hx : ev s x = .mp i) : a.eval x = .map (some (ν.l i)) := eval_ev h hx (by simp)
theorem eval_fn {n : Nat} {ν : Nu} {s : St} {a : Act} (h : TR n ν s a) {x : Operand} {f : FuncId} {fs cs : List CV} (hx : ev s x = .fn f fs cs) : a.eval x = .func (.func f) (fs.map (concC ν)).toArray (cs.map (concC ν)).toArray := eval_ev h hx (by simp)
theorem eval_rho {n : Nat} {ν : Nu} {s : St} {a : Act} (h : TR n ν s a) {x : Operand} (hx : isV (ev s x) = true) : a.eval x = rho s x := by
 unfold rho
 cases he : ev s x with
 | inl p => exact eval_v h he
 | _ => rw [he] at hx; cases hx
theorem ev_ok {s : St} (h : Good s) (x : Operand) : okV s.own.b.length s.own.l.length (ev s x) := by
 cases x with
 | tmp t => exact look_ok h.ok
 | _ => exact trivial
end Go.Proofs.Ytmaffamhjmlonaa.S2
