/- The evaluator with lists: parts of a memory, renumbered; callees that change the call's own memory. No word of the program. -/
import Derived.Test.YtmaffamhjmlonaaS2F
set_option linter.unusedVariables false
set_option linter.unusedSimpArgs false
namespace Go.Proofs.Ytmaffamhjmlonaa.S2
open Go Go.RowKit Sim
theorem openV_is {ν : Nu} {b : Bool} {x : SV} {v : Value} (h : Is ν x v) : Is ν (openV b x) v := by
 cases x with
 | inl p => cases b <;> exact h
 | _ => exact h
theorem BOk.of {B : Nat} {ν ν' : Nu} {w : World} {a : Nat} {b b0 : Blk} {o : Bool} (h : BOk B ν w a b0) (h1 : concB ν' b.cells = concB ν b0.cells) (h2 : b.elem = b0.elem) (h3 : b.kd = openK o b0.kd) : BOk B ν' w a b := by
 unfold BOk at *
 rw [h3]
 cases hk : b0.kd with
 | cells =>
   rw [hk] at h
   show w.heap[a]? = some (.cells (concB ν' b.cells).toArray b.elem (0, 0))
   rw [h1, h2]; exact h
 | iter fl s p => rw [hk] at h; exact h
 | bld fl T e acc => rw [hk] at h; exact h
 | shut =>
   rw [hk] at h
   have hl : b.cells.length = b0.cells.length := by have := congrArg List.length h1; simpa [concB] using this
   show w.heap[a]? = some (.cells (concB ν' b.cells).toArray b.elem (b.cells.length, b.cells.length + 1))
   rw [h1, h2, hl]; exact h
 | map T l => rw [hk] at h; exact h
 | mapV T l => rw [hk] at h; exact h
theorem posN_ok : ∀ (l : List Nat) (i k : Nat), posN l i = some k -> l[k]? = some i
 | [], i, k, h => by simp [posN] at h
 | x :: r, i, k, h => by
   unfold posN at h
   cases hb : Nat.beq x i
   . rw [hb] at h
     simp only [cond_false] at h
     split at h
     . rename_i k' hk
       simp only [qS] at h
       subst h
       exact posN_ok r i k' hk
     . cases h
   . rw [hb] at h
     simp only [cond_true, qS] at h
     subst h
     rw [qB hb]; rfl
theorem takeL_get {α : Type} {l : List α} : ∀ (is : List Nat) (t : List α), takeL l is = some t -> t.length = is.length /\ ∀ (k i : Nat), is[k]? = some i -> t[k]? = l[i]?
 | [], t, h => by simp only [takeL, qS] at h; subst h; exact ⟨rfl, fun k i h => by simp at h⟩
 | i :: r, t, h => by
   unfold takeL at h
   split at h
   . rename_i x t' hx ht
     simp only [qS] at h
     subst h
     obtain ⟨h1, h2⟩ := takeL_get r t' ht
     refine ⟨by simp [h1], fun k j hk => ?_⟩
     cases k with
     | zero => simp at hk; subst hk; simp [hx]
     | succ k => simp at hk ⊢; exact h2 k j hk
   . cases h
theorem nodupB_ok : ∀ (l : List Nat), nodupB l = true -> ∀ (i j x : Nat), l[i]? = some x -> l[j]? = some x -> i = j
 | [], _, i, j, x, hi, _ => by simp at hi
 | y :: r, h, i, j, x, hi, hj => by
   simp only [nodupB, Bool.and_eq_true, Bool.not_eq_true', List.any_eq_false] at h
   have hn : ∀ z ∈ r, z ≠ y := fun z hz e => h.1 z hz (by rw [e]; simp)
   cases i with
   | zero =>
     cases j with
     | zero => rfl
     | succ j =>
       simp at hi hj
       subst hi
       exact absurd rfl (hn _ (List.mem_of_getElem? hj))
   | succ i =>
     cases j with
     | zero =>
       simp at hi hj
       subst hj
       exact absurd rfl (hn _ (List.mem_of_getElem? hi))
     | succ j =>
       simp at hi hj
       rw [nodupB_ok r h.2 i j x hi hj]
theorem look_map (f : Nat -> SV) (t : Nat) : ∀ (ts : List Nat), look (ts.map fun t => (t, f t)) t = .any \/ look (ts.map fun t => (t, f t)) t = f t
 | [] => .inl rfl
 | t0 :: r => by
   show look ((t0, f t0) :: r.map fun t => (t, f t)) t = .any \/ look ((t0, f t0) :: r.map fun t => (t, f t)) t = f t
   unfold look
   cases hb : Nat.beq t0 t
   . exact look_map f t r
   . rw [qB hb]; exact .inr rfl
def pickNu (p : Pick) (ν : Nu) : Nu := ⟨fun i => ν.l ((p.bs[i]?).getD 0), fun k => ν.v ((p.ls[k]?).getD 0)⟩
theorem pickC_ok {p : Pick} {ν : Nu} {c c' : CV} (hc : pickC p c = some c') : concC (pickNu p ν) c' = concC ν c /\ okC p.bs.length p.ls.length c' := by
 unfold pickC at hc
 split at hc
 . simp only [qS] at hc; subst hc; exact ⟨rfl, trivial⟩
 . split at hc
   . rename_i i off _ i' hp
     simp only [qS] at hc; subst hc
     have hl := posN_ok _ _ _ hp
     have e : (pickNu p ν).l i' = ν.l i := by show ν.l ((p.bs[i']?).getD 0) = _; rw [hl]; rfl
     exact ⟨by simp only [concC, e], lt_of_some_list hl⟩
   . cases hc
 . split at hc
   . rename_i k _ k' hp
     simp only [qS] at hc; subst hc
     have hl := posN_ok _ _ _ hp
     exact ⟨by show ν.v ((p.ls[k']?).getD 0) = _; rw [hl]; rfl, lt_of_some_list hl⟩
   . cases hc
theorem pickCL_ok {p : Pick} {ν : Nu} : ∀ (l l' : List CV), pickCL p l = some l' -> l'.map (concC (pickNu p ν)) = l.map (concC ν) /\ ∀ x ∈ l', okC p.bs.length p.ls.length x
 | [], l', h => by simp only [pickCL, qS] at h; subst h; exact ⟨rfl, fun x hx => by cases hx⟩
 | c :: r, l', h => by
   unfold pickCL at h
   split at h
   . rename_i y t hy ht
     simp only [qS] at h; subst h
     obtain ⟨h1, h2⟩ := pickC_ok (ν := ν) hy
     obtain ⟨h3, h4⟩ := pickCL_ok (ν := ν) r t ht
     refine ⟨by rw [List.map_cons, List.map_cons, h1, h3], fun x hx => ?_⟩
     rcases List.mem_cons.mp hx with rfl | hx
     . exact h2
     . exact h4 x hx
   . cases h
theorem pickV_ok (p : Pick) (ν : Nu) (x : SV) : pickV p x = .any \/ (x ≠ .any /\ conc (pickNu p ν) (pickV p x) = conc ν x /\ okV p.bs.length p.ls.length (pickV p x)) := by
 cases x with
 | inl q => exact .inr ⟨by simp, rfl, trivial⟩
 | inr q =>
   obtain ⟨i, off, r⟩ := q
   unfold pickV
   simp only
   split
   . rename_i i' hp
     have hl := posN_ok _ _ _ hp
     have e : (pickNu p ν).l i' = ν.l i := by show ν.l ((p.bs[i']?).getD 0) = _; rw [hl]; rfl
     rcases r with _ | ⟨len, cap⟩
     . exact .inr ⟨by simp, by simp only [conc, e], lt_of_some_list hl⟩
     . exact .inr ⟨by simp, by simp only [conc, e], lt_of_some_list hl⟩
   . exact .inl rfl
 | c k =>
   unfold pickV
   simp only
   split
   . rename_i k' hp
     have hl := posN_ok _ _ _ hp
     have e : (pickNu p ν).v k' = ν.v k := by show ν.v ((p.ls[k']?).getD 0) = _; rw [hl]; rfl
     exact .inr ⟨by simp, e, lt_of_some_list hl⟩
   . exact .inl rfl
 | lp k j o sz =>
   unfold pickV
   simp only
   split
   . rename_i k' hp
     have hl := posN_ok _ _ _ hp
     have e : (pickNu p ν).v k' = ν.v k := by show ν.v ((p.ls[k']?).getD 0) = _; rw [hl]; rfl
     exact .inr ⟨by simp, by simp only [conc, e], lt_of_some_list hl⟩
   . exact .inl rfl
 | tp l => exact .inl rfl
 | fn f fs cs =>
   unfold pickV
   simp only
   split
   . rename_i fs' cs' hfs hcs
     obtain ⟨h1, h2⟩ := pickCL_ok (ν := ν) fs fs' hfs
     obtain ⟨h3, h4⟩ := pickCL_ok (ν := ν) cs cs' hcs
     exact .inr ⟨by simp, by simp only [conc, h1, h3], h2, h4⟩
   . exact .inl rfl
 | st cs =>
   unfold pickV
   simp only
   split
   . rename_i cs' hcs
     obtain ⟨h1, h2⟩ := pickCL_ok (ν := ν) cs cs' hcs
     exact .inr ⟨by simp, by simp only [conc, h1], h2⟩
   . exact .inl rfl
 | sub k lo n sz =>
   unfold pickV
   simp only
   split
   . rename_i k' hp
     have hl := posN_ok _ _ _ hp
     have e : (pickNu p ν).v k' = ν.v k := by show ν.v ((p.ls[k']?).getD 0) = _; rw [hl]; rfl
     exact .inr ⟨by simp, by simp only [conc, e], lt_of_some_list hl⟩
   . exact .inl rfl
 | mp i =>
   unfold pickV
   simp only
   split
   . rename_i i' hp
     have hl := posN_ok _ _ _ hp
     have e : (pickNu p ν).l i' = ν.l i := by show ν.l ((p.bs[i']?).getD 0) = _; rw [hl]; rfl
     exact .inr ⟨by simp, by simp only [conc, e], lt_of_some_list hl⟩
   . exact .inl rfl
 | rp v e j o => exact .inr ⟨by simp, rfl, trivial⟩
 | ia i off len n =>
   unfold pickV
   simp only
   split
   . rename_i i' hp
     have hl := posN_ok _ _ _ hp
     have e : (pickNu p ν).l i' = ν.l i := by show ν.l ((p.bs[i']?).getD 0) = _; rw [hl]; rfl
     exact .inr ⟨by simp, by simp only [conc, e], lt_of_some_list hl⟩
   . exact .inl rfl
 | any => exact .inl rfl
theorem pickV_is (p : Pick) {ν : Nu} {x : SV} {v : Value} (h : Is ν x v) : Is (pickNu p ν) (pickV p x) v := by
 rcases pickV_ok p ν x with h0 | ⟨h1, h2, _⟩
 . rw [h0]; trivial
 . have e : v = conc ν x := by cases x <;> first | exact h | exact absurd rfl h1
   rw [e, <- h2]
   cases hy : pickV p x with
   | any => trivial
   | _ => rfl
theorem openV_conc (ν : Nu) (o : Bool) (x : SV) : conc ν (openV o x) = conc ν x := by
 cases x with
 | inl p => cases o <;> rfl
 | _ => rfl
theorem openV_ok {n m : Nat} {o : Bool} {x : SV} (h : okV n m x) : okV n m (openV o x) := by
 cases x with
 | inl p => cases o <;> trivial
 | _ => exact h
theorem pickCells_ok {ν : Nu} (p : Pick) {o : Bool} : ∀ (cs cs' : List SV), pickCells p o cs = some cs' -> concB (pickNu p ν) cs' = concB ν cs /\ ∀ c ∈ cs', okV p.bs.length p.ls.length c
 | [], cs', h => by simp only [pickCells, qS] at h; subst h; exact ⟨rfl, fun c hc => by cases hc⟩
 | x :: r, cs', h => by
   unfold pickCells at h
   split at h
   . cases h
   . rename_i y hne
     split at h
     . rename_i l hl
       simp only [qS] at h
       subst h
       obtain ⟨h1, h2⟩ := pickCells_ok (ν := ν) p r l hl
       rcases pickV_ok p ν x with h0 | ⟨_, h3, h4⟩
       . exact absurd h0 hne
       . refine ⟨?_, fun c hc => ?_⟩
         . show conc (pickNu p ν) (openV o (pickV p x)) :: concB (pickNu p ν) l = conc ν x :: concB ν r
           rw [openV_conc, h3, h1]
         . rcases List.mem_cons.mp hc with rfl | hc
           . exact openV_ok h4
           . exact h2 c hc
     . cases h
theorem pickBs_len (p : Pick) : ∀ (bs bs' : List Blk) (n : Nat), pickBs p n bs = some bs' -> bs'.length = bs.length
 | [], bs', n, h => by simp only [pickBs, qS] at h; subst h; rfl
 | b :: r, bs', n, h => by
   unfold pickBs at h
   split at h
   . rename_i cs l hc hl
     simp only [qS] at h
     subst h
     simp [pickBs_len p r l _ hl]
   . cases h
theorem pickBs_get (p : Pick) : ∀ (bs bs' : List Blk) {n : Nat}, pickBs p n bs = some bs' -> ∀ (i : Nat) (b : Blk), bs'[i]? = some b -> ∃ b0, bs[i]? = some b0 /\ pickCells p (p.opb.any fun y => Nat.beq y (n + i)) b0.cells = some b.cells /\ b.elem = b0.elem /\ ∃ o, b.kd = openK o b0.kd
 | [], bs', n, h, i, b, hi => by simp only [pickBs, qS] at h; subst h; simp at hi
 | b0 :: r, bs', n, h, i, b, hi => by
   unfold pickBs at h
   split at h
   . rename_i cs l hc hl
     simp only [qS] at h
     subst h
     cases i with
     | zero => simp at hi; subst hi; exact ⟨b0, rfl, hc, rfl, _, rfl⟩
     | succ i =>
       simp at hi
       obtain ⟨b1, k1, k2, k3⟩ := pickBs_get p r l hl i b hi
       exact ⟨b1, by simpa using k1, by rw [show n + (i + 1) = n + 1 + i by omega]; exact k2, k3⟩
   . cases h
theorem pickM_ok {p : Pick} {own m : Mem} (h : pickM p own = some m) {w0 : Base} {w : World} {ν : Nu} {mem : Bool} (hw : WR w0 ν own mem w) : WR w0 (pickNu p ν) m true w := by
 unfold pickM at h
 split at h
 . rename_i bb l hbb hl
   unfold takeB at hbb
   split at hbb
   rotate_left
   . cases hbb
   rename_i b hb
   have hpb := hbb
   have hpl := pickBs_len p _ _ _ hbb
   cases hd : (nodupB p.bs && nodupB p.ls)
   . rw [hd] at h; cases h
   . rw [hd] at h
     simp only [cond_true, qS] at h
     subst h
     simp only [Bool.and_eq_true] at hd
     obtain ⟨b1, b2⟩ := takeL_get _ _ hb
     obtain ⟨l1, l2⟩ := takeL_get _ _ hl
     let ν' : Nu := pickNu p ν
     have hbi : ∀ i, i < b.length -> ∃ i0, p.bs[i]? = some i0 /\ ν'.l i = ν.l i0 /\ b[i]? = own.b[i0]? := fun i hi => by
       have : i < p.bs.length := by omega
       refine ⟨p.bs[i], by simp [this], ?_, b2 i _ (by simp [this])⟩
       show ν.l ((p.bs[i]?).getD 0) = _
       simp [this]
     have hli : ∀ k, k < l.length -> ∃ k0, p.ls[k]? = some k0 /\ ν'.v k = ν.v k0 /\ l[k]? = own.l[k0]? := fun k hk => by
       have : k < p.ls.length := by omega
       refine ⟨p.ls[k], by simp [this], ?_, l2 k _ (by simp [this])⟩
       show ν.v ((p.ls[k]?).getD 0) = _
       simp [this]
     have hblt : ∀ i i0, p.bs[i]? = some i0 -> i < b.length := fun i i0 h => by rw [b1]; exact lt_of_some_list h
     have hown : ∀ i, i < b.length -> ∃ i0, p.bs[i]? = some i0 /\ ν'.l i = ν.l i0 /\ i0 < own.b.length := fun i hi => by
       obtain ⟨i0, h1, h2, h3⟩ := hbi i hi
       refine ⟨i0, h1, h2, ?_⟩
       rw [List.getElem?_eq_getElem hi] at h3
       exact lt_of_some_list h3.symm
     refine ⟨hw.below, fun i blk hi => ?_, ?_, fun i j hi hj he => ?_, fun k e hk hdead => ?_, fun k e hk hdead ho g hg => ?_, (fun h => by cases h), ⟨hw.fr.here, fun i hi => by
       obtain ⟨i0, h1, h2, h3⟩ := hown i (by rw [<- hpl]; exact hi)
       rw [h2]; exact hw.fr.offb i0 h3, fun k e hk hdead ho g hg => by
       obtain ⟨k0, h1, h2, h3⟩ := hli k (lt_of_some_list hk)
       rw [h2] at hg
       exact hw.fr.offl k0 e (by rw [<- h3]; exact hk) hdead ho g hg⟩⟩
     . obtain ⟨i0, h1, h2, h3⟩ := hbi i (by rw [<- hpl]; exact lt_of_some_list hi)
       obtain ⟨b0, k1, k2, k3⟩ := pickBs_get p _ _ hpb i blk hi
       obtain ⟨k4, k5⟩ := pickCells_ok (ν := ν) p _ _ k2
       rw [h2]
       obtain ⟨m1, m2⟩ := hw.blk i0 b0 (by rw [<- h3]; exact k1)
       exact ⟨m1.of k4 k3.1 k3.2.choose_spec, m2⟩
     . intro i blk hi
       obtain ⟨b0, k1, k2, k3⟩ := pickBs_get p _ _ hpb i blk hi
       intro c hc
       have := (pickCells_ok (ν := ν) p _ _ k2).2 c hc
       rw [<- b1, <- hpl, <- l1] at this
       exact this
     . obtain ⟨i0, h1, h2, h3⟩ := hown i (by rw [<- hpl]; exact hi)
       obtain ⟨j0, k1, k2, k3⟩ := hown j (by rw [<- hpl]; exact hj)
       have : i0 = j0 := hw.inj i0 j0 h3 k3 (by rw [<- h2, <- k2]; exact he)
       subst this
       exact nodupB_ok _ hd.1 i j i0 h1 k1
     . obtain ⟨k0, h1, h2, h3⟩ := hli k (lt_of_some_list hk)
       rw [h2]
       exact hw.lst k0 e (by rw [<- h3]; exact hk) hdead
     . obtain ⟨k0, h1, h2, h3⟩ := hli k (lt_of_some_list hk)
       rw [h2] at hg
       obtain ⟨s1, s2⟩ := hw.sep k0 e (by rw [<- h3]; exact hk) hdead ho g hg
       refine ⟨fun i hi => ?_, fun k' e' hk' hd' ho' hne => ?_⟩
       . obtain ⟨i0, j1, j2, j3⟩ := hown i (by rw [<- hpl]; exact hi)
         rw [j2]; exact s1 i0 j3
       . obtain ⟨m0, m1, m2, m3⟩ := hli k' (lt_of_some_list hk')
         rw [m2]
         refine s2 m0 e' (by rw [<- m3]; exact hk') hd' ho' (fun e0 => hne ?_)
         subst e0
         exact nodupB_ok _ hd.2 k' k m0 m1 h1
 . cases h
theorem setN_len {α : Type} : ∀ (s : List (Nat × α)) (l : List α), (setN l s).length = l.length
 | [], l => rfl
 | (i, x) :: r, l => by show (setN (l.set i x) r).length = _; rw [setN_len r, List.length_set]
theorem setN_other {α : Type} {k : Nat} : ∀ (s : List (Nat × α)) (l : List α), (∀ q ∈ s, q.1 ≠ k) -> (setN l s)[k]? = l[k]?
 | [], l, _ => rfl
 | (i, x) :: r, l, h => by
   show (setN (l.set i x) r)[k]? = _
   rw [setN_other r _ (fun q hq => h q (List.mem_cons_of_mem _ hq)), List.getElem?_set_ne (h (i, x) List.mem_cons_self)]
theorem setN_rel {α : Type} {Rel : α -> α -> Prop} {ps : List Nat} (hn : nodupB ps = true) {n : Nat} {ρ : α -> α} : ∀ (s : List (Nat × α)) (A B : List α), (∀ q ∈ s, Rel q.2 (ρ q.2) /\ q.1 < ps.length) ->
   (∀ (j i : Nat), ps[j]? = some i -> ∀ b, B[i]? = some b -> ∃ a, A[j]? = some a /\ Rel a b) -> ∀ (j i : Nat), ps[j]? = some i -> ∀ b, (setN B (s.map fun q => (renN ps n q.1, ρ q.2)))[i]? = some b -> ∃ a, (setN A s)[j]? = some a /\ Rel a b
 | [], A, B, _, h => h
 | (j0, x) :: r, A, B, hs, h => by
   obtain ⟨hx, hj0⟩ := hs (j0, x) List.mem_cons_self
   have hj0 : j0 < ps.length := hj0
   refine setN_rel hn r (A.set j0 x) (B.set (renN ps n j0) (ρ x)) (fun q hq => hs q (List.mem_cons_of_mem _ hq)) fun j i hji b hb => ?_
   have e0 : ps[j0]? = some ps[j0] := List.getElem?_eq_getElem hj0
   have e1 : renN ps n j0 = ps[j0] := by unfold renN; rw [e0]
   by_cases hij : ps[j0] = i
   . have hjj : j = j0 := nodupB_ok ps hn j j0 i hji (by rw [e0, hij])
     subst hjj
     rw [e1, hij] at hb
     have hl := lt_of_some_list hb
     have hB : i < B.length := by simpa using hl
     rw [List.getElem?_set_self hB] at hb
     cases hb
     obtain ⟨a, ha, _⟩ := h j i hji B[i] (List.getElem?_eq_getElem hB)
     exact ⟨x, List.getElem?_set_self (lt_of_some_list ha), hx⟩
   . rw [e1, List.getElem?_set_ne hij] at hb
     obtain ⟨a, ha, hr⟩ := h j i hji b hb
     refine ⟨a, ?_, hr⟩
     rw [List.getElem?_set_ne (fun e => hij (by subst e; rw [e0] at hji; exact Option.some.inj hji))]
     exact ha
theorem setN_mem {α : Type} : ∀ (s : List (Nat × α)) (l : List α) (x : α), x ∈ setN l s -> x ∈ l \/ ∃ q ∈ s, x = q.2
 | [], l, x, h => .inl h
 | (i, y) :: r, l, x, h => by
   rcases setN_mem r (l.set i y) x h with h | ⟨q, hq, e⟩
   . rcases List.mem_or_eq_of_mem_set h with h | h
     . exact .inl h
     . exact .inr ⟨(i, y), List.mem_cons_self, h⟩
   . exact .inr ⟨q, List.mem_cons_of_mem _ hq, e⟩
theorem pickBs_plain {p : Pick} (ho : p.opb = []) : ∀ (bs bs' : List Blk) (n : Nat), pickBs p n bs = some bs' -> ∀ (i : Nat) (b : Blk), bs'[i]? = some b -> ∃ b0, bs[i]? = some b0 /\ pickCells p false b0.cells = some b.cells /\ b.elem = b0.elem /\ b.kd = b0.kd
 | [], bs', n, h, i, b, hi => by simp only [pickBs, qS] at h; subst h; simp at hi
 | b0 :: r, bs', n, h, i, b, hi => by
   unfold pickBs at h
   rw [ho] at h
   simp only [List.any_nil] at h
   split at h
   . rename_i cs l hc hl
     simp only [qS] at h
     subst h
     cases i with
     | zero =>
       simp at hi; subst hi
       exact ⟨b0, rfl, hc, rfl, by show openK false b0.kd = b0.kd; cases b0.kd <;> rfl⟩
     | succ i =>
       simp at hi
       obtain ⟨b1, k1, k2⟩ := pickBs_plain ho r l (n + 1) hl i b hi
       exact ⟨b1, by simpa using k1, k2⟩
   . cases h
theorem takeL_some {α : Type} {l : List α} : ∀ (is : List Nat) (t : List α), takeL l is = some t -> ∀ i ∈ is, i < l.length
 | [], t, h, i, hi => by cases hi
 | i0 :: r, t, h, i, hi => by
   unfold takeL at h
   split at h
   . rename_i x t' hx ht
     rcases List.mem_cons.mp hi with rfl | hi
     . exact lt_of_some_list hx
     . exact takeL_some r t' ht i hi
   . cases h
theorem pickM_facts {p : Pick} (ho : p.opb = []) {own m : Mem} (h : pickM p own = some m) : nodupB p.bs = true /\ nodupB p.ls = true /\ m.b.length = p.bs.length /\ m.l.length = p.ls.length /\
   (∀ (j i : Nat), p.bs[j]? = some i -> i < own.b.length /\ ∃ b a, own.b[i]? = some b /\ m.b[j]? = some a /\ pickCells p false b.cells = some a.cells /\ a.elem = b.elem /\ a.kd = b.kd) /\
   ∀ (j k : Nat), p.ls[j]? = some k -> k < own.l.length /\ m.l[j]? = own.l[k]? := by
 unfold pickM at h
 split at h
 . rename_i b l hb hl
   unfold takeB at hb
   split at hb
   rotate_left
   . cases hb
   rename_i b0 hb0
   cases hd : (nodupB p.bs && nodupB p.ls)
   . rw [hd] at h; cases h
   . rw [hd] at h
     simp only [cond_true, qS] at h
     subst h
     simp only [Bool.and_eq_true] at hd
     obtain ⟨b1, b2⟩ := takeL_get _ _ hb0
     obtain ⟨l1, l2⟩ := takeL_get _ _ hl
     have hpl := pickBs_len p _ _ _ hb
     refine ⟨hd.1, hd.2, hpl.trans b1, l1, fun j i hj => ?_, fun j k hj => ⟨takeL_some _ _ hl k (List.mem_of_getElem? hj), l2 j k hj⟩⟩
     have hi := takeL_some _ _ hb0 i (List.mem_of_getElem? hj)
     have hjl : j < b.length := by rw [hpl, b1]; exact lt_of_some_list hj
     obtain ⟨c0, k1, k2, k3, k4⟩ := pickBs_plain ho _ _ _ hb j b[j] (List.getElem?_eq_getElem hjl)
     exact ⟨hi, c0, b[j], by rw [<- b2 j i hj]; exact k1, List.getElem?_eq_getElem hjl, k2, k3, k4⟩
 . cases h
theorem renC_conc {ν3 ν2 : Nu} {fb fl : Nat -> Nat} (hb : ∀ i, ν3.l (fb i) = ν2.l i) (hl : ∀ k, ν3.v (fl k) = ν2.v k) (c : CV) : concC ν3 (renC fb fl c) = concC ν2 c := by
 cases c with
 | v g x => rfl
 | a i off => show Value.pointer (some ⟨ν3.l (fb i), off, none⟩) = .pointer (some ⟨ν2.l i, off, none⟩); rw [hb]
 | l k => exact hl k
theorem renC_map {ν3 ν2 : Nu} {fb fl : Nat -> Nat} (hb : ∀ i, ν3.l (fb i) = ν2.l i) (hl : ∀ k, ν3.v (fl k) = ν2.v k) (cs : List CV) : (cs.map (renC fb fl)).map (concC ν3) = cs.map (concC ν2) := by
 rw [List.map_map]
 exact List.map_congr_left fun c _ => renC_conc hb hl c
theorem renV_conc {ν3 ν2 : Nu} {fb fl : Nat -> Nat} (hb : ∀ i, ν3.l (fb i) = ν2.l i) (hl : ∀ k, ν3.v (fl k) = ν2.v k) (x : SV) : conc ν3 (renV fb fl x) = conc ν2 x := by
 cases x with
 | inl p => rfl
 | inr p =>
   obtain ⟨i, off, _ | ⟨len, cap⟩⟩ := p
   . show Value.pointer (some ⟨ν3.l (fb i), off, none⟩) = .pointer (some ⟨ν2.l i, off, none⟩); rw [hb]
   . show Value.slice (some ⟨ν3.l (fb i), off, none⟩) len cap = .slice (some ⟨ν2.l i, off, none⟩) len cap; rw [hb]
 | c k => exact hl k
 | lp k j o sz => show placeOf (ν3.v (fl k)) _ = placeOf (ν2.v k) _; rw [hl]
 | tp l =>
   show Value.tuple ((l.map (renT fb fl)).map (concT ν3)).toArray = .tuple (l.map (concT ν2)).toArray
   rw [List.map_map]
   refine congrArg (fun l => Value.tuple (List.toArray l)) (List.map_congr_left fun t _ => ?_)
   cases t with
   | inl p => rfl
   | inr k => exact hl k
   | st cs => show Value.agg ((cs.map (renC fb fl)).map (concC ν3)).toArray = .agg (cs.map (concC ν2)).toArray; rw [renC_map hb hl]
 | fn f fs cs => show Value.func (.func f) ((fs.map (renC fb fl)).map (concC ν3)).toArray ((cs.map (renC fb fl)).map (concC ν3)).toArray = _; rw [renC_map hb hl, renC_map hb hl]; rfl
 | sub k lo n sz => show subOf (ν3.v (fl k)) _ _ _ = subOf (ν2.v k) _ _ _; rw [hl]
 | st cs => show Value.agg ((cs.map (renC fb fl)).map (concC ν3)).toArray = .agg (cs.map (concC ν2)).toArray; rw [renC_map hb hl]
 | mp i => show Value.map (some (ν3.l (fb i))) = .map (some (ν2.l i)); rw [hb]
 | ia i off len n => show Value.pointer (some ⟨ν3.l (fb i), _, none⟩) = .pointer (some ⟨ν2.l i, _, none⟩); rw [hb]
 | rp v e j o => rfl
 | any => rfl
theorem renC_ok {fb fl : Nat -> Nat} {n m N M : Nat} (hb : ∀ i, i < n -> fb i < N) (hl : ∀ k, k < m -> fl k < M) {c : CV} (h : okC n m c) : okC N M (renC fb fl c) := by
 cases c with
 | v g x => trivial
 | a i off => exact hb i h
 | l k => exact hl k h
theorem renCs_ok {fb fl : Nat -> Nat} {n m N M : Nat} (hb : ∀ i, i < n -> fb i < N) (hl : ∀ k, k < m -> fl k < M) {cs : List CV} (h : ∀ c ∈ cs, okC n m c) : ∀ c ∈ cs.map (renC fb fl), okC N M c := fun c hc => by
 obtain ⟨x, hx, rfl⟩ := List.mem_map.mp hc
 exact renC_ok hb hl (h x hx)
theorem renV_ok {fb fl : Nat -> Nat} {n m N M : Nat} (hb : ∀ i, i < n -> fb i < N) (hl : ∀ k, k < m -> fl k < M) {x : SV} (h : okV n m x) : okV N M (renV fb fl x) := by
 cases x with
 | inl p => trivial
 | inr p =>
   obtain ⟨i, off, _ | ⟨len, cap⟩⟩ := p
   . exact hb i h
   . exact hb i h
 | c k => exact hl k h
 | lp k j o sz => exact hl k h
 | tp l =>
   intro x hx
   obtain ⟨t, ht, rfl⟩ := List.mem_map.mp hx
   have := h t ht
   cases t with
   | inl p => trivial
   | inr k => exact hl k this
   | st cs => exact renCs_ok hb hl this
 | fn f fs cs => exact ⟨renCs_ok hb hl h.1, renCs_ok hb hl h.2⟩
 | sub k lo n sz => exact hl k h
 | st cs => exact renCs_ok hb hl h
 | mp i => exact hb i h
 | ia i off len n => exact hb i h
 | rp v e j o => trivial
 | any => trivial
theorem okRB_ok {n m : Nat} {x : SV} (h : okRB n m x = true) : okV n m x := by
 unfold okRB at h
 split at h
 . rename_i l
   intro t ht
   have := List.all_eq_true.mp h t ht
   cases t with
   | inl p => trivial
   | inr k => simpa [okTB, okT, Nat.blt_eq] using this
   | st cs => exact okCB_ok this
 . exact okVB_ok h
theorem renN_lt {ps : List Nat} {n k : Nat} (h : ∀ (j i : Nat), ps[j]? = some i -> i < n) (i : Nat) (hi : i < ps.length + k) : renN ps n i < n + k := by
 unfold renN
 split
 . rename_i x hx; have := h i x hx; omega
 . rename_i hx
   have : ps.length <= i := by simpa using hx
   omega
theorem BOk.rel {B : Nat} {ν3 ν2 : Nu} {w : World} {A : Nat} {a b : Blk} (h : BOk B ν2 w A a) (h1 : concB ν3 b.cells = concB ν2 a.cells) (h2 : b.elem = a.elem) (h3 : b.kd = a.kd) : BOk B ν3 w A b := by
 have hl : b.cells.length = a.cells.length := by have := congrArg List.length h1; simpa [concB] using this
 unfold BOk at *
 rw [h3, h1, h2, hl]; exact h
theorem frame_ok {w0 : Base} {ν : Nu} {own m : Mem} {mem : Bool} {w : World} {p : Pick} (ho : p.opb = []) (hm : pickM p own = some m) (h : WR w0 ν own mem w) {r : Eff}
   (hsb : ∀ q ∈ r.sb, q.1 < p.bs.length /\ ∀ c ∈ q.2.cells, okV (p.bs.length + r.ab.length) (p.ls.length + r.al.length) c) (hsl : ∀ q ∈ r.sl, q.1 < p.ls.length)
   (hab : ∀ b ∈ r.ab, ∀ c ∈ b.cells, okV (p.bs.length + r.ab.length) (p.ls.length + r.al.length) c) (hnb : ∀ (i : Nat) b, own.b[i]? = some b -> ∀ fl T e acc, b.kd ≠ .bld fl T e acc) :
   ∃ w1 : Base, w1.toWorld = w0.toWorld /\ WR w1 (pickNu p ν) m true w /\ ∀ ν2 w', Ag m (pickNu p ν) ν2 -> WR w1 ν2 (applyE m r) true w' ->
     ∃ ν3, Ag own ν ν3 /\ (∀ i, ν3.l (renN p.bs own.b.length i) = ν2.l i) /\ (∀ k, ν3.v (renN p.ls own.l.length k) = ν2.v k) /\ WR w0 ν3 (applyR own p r) true w' := by
 classical
 have P := pickM_ok hm h
 obtain ⟨nb, nl, lb, ll, gb, gl⟩ := pickM_facts ho hm
 let T : Nat -> Prop := fun g => (∃ j, j < m.b.length /\ (pickNu p ν).l j = g) \/ ∃ (j : Nat) (e : LE), m.l[j]? = some e /\ e.dead = false /\ e.own = true /\ ((pickNu p ν).v j).ownBlock = some g
 let F : Nat -> Option Obj := fun g => if T g then none else w.heap[g]?
 have hF0 : ∀ b o, w0.F b = some o -> F b = some o := fun b o e => by
   have hT : ¬ T b := by
     rintro (⟨j, hj, e1⟩ | ⟨j, e', hj, hd, ho', e1⟩)
     . rw [<- e1, P.fr.offb j hj] at e; cases e
     . rw [P.fr.offl j e' hj hd ho' b e1] at e; cases e
   show (if T b then none else _) = _
   rw [if_neg hT]; exact h.fr.here b o e
 have hF1 : ∀ b, F b = none -> w0.F b = none := fun b e => by
   cases e2 : w0.F b with
   | none => rfl
   | some o => rw [hF0 b o e2] at e; cases e
 refine ⟨⟨w0.toWorld, F⟩, rfl, ⟨P.below, P.blk, P.okb, P.inj, P.lst, P.sep, (fun h => by cases h), ⟨fun b o e => ?_, fun i hi => ?_, fun k e hk hd ho' g hg => ?_⟩⟩, fun ν2 w' ha W => ?_⟩
 . have e : (if T b then none else w.heap[b]?) = some o := e
   by_cases hT : T b
   . rw [if_pos hT] at e; cases e
   . rw [if_neg hT] at e; exact e
 . exact if_pos (.inl ⟨i, hi, rfl⟩)
 . exact if_pos (.inr ⟨k, e, hk, hd, ho', hg⟩)
 let ν3 : Nu := ⟨fun i => if i < own.b.length then ν.l i else ν2.l (p.bs.length + (i - own.b.length)), fun k => if k < own.l.length then ν.v k else ν2.v (p.ls.length + (k - own.l.length))⟩
 have hb : ∀ i, ν3.l (renN p.bs own.b.length i) = ν2.l i := fun i => by
   unfold renN
   split
   . rename_i k hk
     obtain ⟨hk1, _⟩ := gb i k hk
     show (if k < own.b.length then ν.l k else _) = _
     rw [if_pos hk1, <- ha.1 i (by rw [lb]; exact lt_of_some_list hk)]
     show ν.l k = ν.l ((p.bs[i]?).getD 0)
     rw [hk]; rfl
   . rename_i hk
     have hge : p.bs.length <= i := by simpa using hk
     show (if own.b.length + (i - p.bs.length) < own.b.length then _ else ν2.l (p.bs.length + (own.b.length + (i - p.bs.length) - own.b.length))) = _
     rw [if_neg (by omega)]; congr 1; omega
 have hl : ∀ k, ν3.v (renN p.ls own.l.length k) = ν2.v k := fun i => by
   unfold renN
   split
   . rename_i k hk
     obtain ⟨hk1, _⟩ := gl i k hk
     show (if k < own.l.length then ν.v k else _) = _
     rw [if_pos hk1, <- ha.2 i (by rw [ll]; exact lt_of_some_list hk)]
     show ν.v k = ν.v ((p.ls[i]?).getD 0)
     rw [hk]; rfl
   . rename_i hk
     have hge : p.ls.length <= i := by simpa using hk
     show (if own.l.length + (i - p.ls.length) < own.l.length then _ else ν2.v (p.ls.length + (own.l.length + (i - p.ls.length) - own.l.length))) = _
     rw [if_neg (by omega)]; congr 1; omega
 have hold : Ag own ν ν3 := ⟨fun i hi => (if_pos hi).symm, fun k hk => (if_pos hk).symm⟩
 have hN : (applyR own p r).b.length = own.b.length + r.ab.length := by simp [applyR, setN_len]
 have hM : (applyR own p r).l.length = own.l.length + r.al.length := by simp [applyR, setN_len]
 have fbN := fun i => renN_lt (k := r.ab.length) (fun j i h => (gb j i h).1) i
 have flN := fun i => renN_lt (k := r.al.length) (fun j i h => (gl j i h).1) i
 let Rel : Blk -> Blk -> Prop := fun a b => concB ν3 b.cells = concB ν2 a.cells /\ b.elem = a.elem /\ b.kd = a.kd /\ ∀ c ∈ b.cells, okV (own.b.length + r.ab.length) (own.l.length + r.al.length) c
 have relR : ∀ b : Blk, (∀ c ∈ b.cells, okV (p.bs.length + r.ab.length) (p.ls.length + r.al.length) c) -> Rel b (renB (renN p.bs own.b.length) (renN p.ls own.l.length) b) := fun b hbk =>
   ⟨by unfold concB renB; rw [List.map_map]; exact List.map_congr_left fun c _ => renV_conc hb hl c, rfl, rfl, fun c hc => by
     obtain ⟨x, hx, rfl⟩ := List.mem_map.mp hc
     exact renV_ok fbN flN (hbk x hx)⟩
 have cb : ∀ (i : Nat) (b : Blk), (applyR own p r).b[i]? = some b -> (i < own.b.length /\ (∀ j : Nat, p.bs[j]? ≠ some i) /\ own.b[i]? = some b) \/ ∃ (j : Nat) (a : Blk), i = renN p.bs own.b.length j /\ (applyE m r).b[j]? = some a /\ Rel a b := by
   intro i b hi
   have hi : (setN own.b (r.sb.map fun q => (renN p.bs own.b.length q.1, renB (renN p.bs own.b.length) (renN p.ls own.l.length) q.2)) ++ r.ab.map (renB (renN p.bs own.b.length) (renN p.ls own.l.length)))[i]? = some b := hi
   rcases Nat.lt_or_ge i own.b.length with hlt | hge
   . rw [List.getElem?_append_left (by rw [setN_len]; exact hlt)] at hi
     by_cases hex : ∃ j : Nat, p.bs[j]? = some i
     . obtain ⟨j, hj⟩ := hex
       obtain ⟨a, ha1, hr⟩ := setN_rel (Rel := Rel) nb r.sb m.b own.b (fun q hq => ⟨relR q.2 (hsb q hq).2, (hsb q hq).1⟩) (fun j i hji b hb1 => by
         obtain ⟨_, b0, a, k1, k2, k3, k4, k5⟩ := gb j i hji
         rw [hb1] at k1
         obtain rfl := Option.some.inj k1
         refine ⟨a, k2, ?_, k4.symm, k5.symm, fun c hc => (h.okb i b hb1 c hc).mono (by omega) (by omega)⟩
         obtain ⟨e1, e2⟩ := pickCells_ok (ν := ν) p _ _ k3
         exact (concB_congr (h.okb i b hb1) hold).symm.trans (e1.symm.trans (concB_congr e2 (by rw [<- lb, <- ll]; exact ha)))) j i hj b hi
       refine .inr ⟨j, a, by unfold renN; rw [hj], ?_, hr⟩
       show (setN m.b r.sb ++ r.ab)[j]? = some a
       rw [List.getElem?_append_left (lt_of_some_list ha1)]; exact ha1
     . refine .inl ⟨hlt, fun j hj => hex ⟨j, hj⟩, ?_⟩
       rw [setN_other] at hi
       . exact hi
       . intro q hq
         obtain ⟨q0, hq0, rfl⟩ := List.mem_map.mp hq
         have hlt0 := (hsb q0 hq0).1
         show renN p.bs own.b.length q0.1 ≠ i
         intro he
         refine hex ⟨q0.1, ?_⟩
         rw [<- he]
         unfold renN
         rw [List.getElem?_eq_getElem hlt0]
   . rw [List.getElem?_append_right (by rw [setN_len]; exact hge), setN_len, List.getElem?_map] at hi
     obtain ⟨a, ha1, rfl⟩ := Option.map_eq_some_iff.mp hi
     refine .inr ⟨p.bs.length + (i - own.b.length), a, ?_, ?_, relR a (hab a (List.mem_of_getElem? ha1))⟩
     . unfold renN
       rw [List.getElem?_eq_none (by omega)]
       show i = own.b.length + (p.bs.length + (i - own.b.length) - p.bs.length)
       omega
     . show (setN m.b r.sb ++ r.ab)[p.bs.length + (i - own.b.length)]? = some a
       rw [List.getElem?_append_right (by rw [setN_len]; omega), setN_len, show p.bs.length + (i - own.b.length) - m.b.length = i - own.b.length by omega]
       exact ha1
 have cl : ∀ (i : Nat) (b : LE), (applyR own p r).l[i]? = some b -> (i < own.l.length /\ (∀ j : Nat, p.ls[j]? ≠ some i) /\ own.l[i]? = some b) \/ ∃ (j : Nat), i = renN p.ls own.l.length j /\ (applyE m r).l[j]? = some b := by
   intro i b hi
   have hi : (setN own.l (r.sl.map fun q => (renN p.ls own.l.length q.1, q.2)) ++ r.al)[i]? = some b := hi
   rcases Nat.lt_or_ge i own.l.length with hlt | hge
   . rw [List.getElem?_append_left (by rw [setN_len]; exact hlt)] at hi
     by_cases hex : ∃ j : Nat, p.ls[j]? = some i
     . obtain ⟨j, hj⟩ := hex
       obtain ⟨a, ha1, hr⟩ := setN_rel (Rel := fun a b : LE => a = b) (ρ := fun x => x) nl r.sl m.l own.l (fun q hq => ⟨rfl, hsl q hq⟩) (fun j i hji b hb1 => ⟨b, by rw [(gl j i hji).2]; exact hb1, rfl⟩) j i hj b hi
       subst hr
       refine .inr ⟨j, by unfold renN; rw [hj], ?_⟩
       show (setN m.l r.sl ++ r.al)[j]? = some a
       rw [List.getElem?_append_left (lt_of_some_list ha1)]; exact ha1
     . refine .inl ⟨hlt, fun j hj => hex ⟨j, hj⟩, ?_⟩
       rw [setN_other] at hi
       . exact hi
       . intro q hq
         obtain ⟨q0, hq0, rfl⟩ := List.mem_map.mp hq
         have hlt0 := hsl q0 hq0
         show renN p.ls own.l.length q0.1 ≠ i
         intro he
         refine hex ⟨q0.1, ?_⟩
         rw [<- he]
         unfold renN
         rw [List.getElem?_eq_getElem hlt0]
   . rw [List.getElem?_append_right (by rw [setN_len]; exact hge), setN_len] at hi
     refine .inr ⟨p.ls.length + (i - own.l.length), ?_, ?_⟩
     . unfold renN
       rw [List.getElem?_eq_none (by omega)]
       show i = own.l.length + (p.ls.length + (i - own.l.length) - p.ls.length)
       omega
     . show (setN m.l r.sl ++ r.al)[p.ls.length + (i - own.l.length)]? = some b
       rw [List.getElem?_append_right (by rw [setN_len]; omega), setN_len, show p.ls.length + (i - own.l.length) - m.l.length = i - own.l.length by omega]
       exact hi
 have pb : ∀ j, j < m.b.length -> ∃ i0 : Nat, p.bs[j]? = some i0 /\ (pickNu p ν).l j = ν.l i0 /\ i0 < own.b.length := fun j hj => by
   have hj2 : j < p.bs.length := by omega
   have e0 : p.bs[j]? = some p.bs[j] := List.getElem?_eq_getElem hj2
   exact ⟨p.bs[j], e0, by show ν.l ((p.bs[j]?).getD 0) = _; rw [e0]; rfl, (gb j _ e0).1⟩
 have pl : ∀ (j : Nat) (e : LE), m.l[j]? = some e -> ∃ k0 : Nat, p.ls[j]? = some k0 /\ (pickNu p ν).v j = ν.v k0 /\ own.l[k0]? = some e := fun j e hj => by
   have hj2 : j < p.ls.length := by have := lt_of_some_list hj; omega
   have e0 : p.ls[j]? = some p.ls[j] := List.getElem?_eq_getElem hj2
   exact ⟨p.ls[j], e0, by show ν.v ((p.ls[j]?).getD 0) = _; rw [e0]; rfl, by rw [<- (gl j _ e0).2]; exact hj⟩
 have ub : ∀ i, i < own.b.length -> (∀ j : Nat, p.bs[j]? ≠ some i) -> ¬ T (ν.l i) := by
   rintro i hi hne (⟨j, hj, e1⟩ | ⟨j, e', hj, hd, ho', e1⟩)
   . obtain ⟨i0, q1, q2, q3⟩ := pb j hj
     rw [q2] at e1
     exact hne j (by rw [q1, h.inj i0 i q3 hi e1])
   . obtain ⟨k0, q1, q2, q3⟩ := pl j e' hj
     rw [q2] at e1
     exact (h.sep k0 e' q3 hd ho' _ e1).1 i hi rfl
 have ul : ∀ (k : Nat) e, own.l[k]? = some e -> (∀ j : Nat, p.ls[j]? ≠ some k) -> e.dead = false -> e.own = true -> ∀ g, (ν.v k).ownBlock = some g -> ¬ T g := by
   rintro k e hk hne hd ho' g hg (⟨j, hj, e1⟩ | ⟨j, e', hj, hd', ho2, e1⟩)
   . obtain ⟨i0, q1, q2, q3⟩ := pb j hj
     rw [q2] at e1
     exact (h.sep k e hk hd ho' g hg).1 i0 q3 e1
   . obtain ⟨k0, q1, q2, q3⟩ := pl j e' hj
     rw [q2] at e1
     exact (h.sep k e hk hd ho' g hg).2 k0 e' q3 hd' ho2 (fun e => hne j (by rw [q1, e])) e1
 have keep : ∀ g o, ¬ T g -> w.heap[g]? = some o -> F g = some o /\ w'.heap[g]? = some o := fun g o hT hg => by
   have e : F g = some o := by show (if T g then none else _) = _; rw [if_neg hT]; exact hg
   exact ⟨e, W.fr.here g o e⟩
 have e3 : ∀ i, i < own.b.length -> ν3.l i = ν.l i := fun i hi => if_pos hi
 have e4 : ∀ i, i < own.l.length -> ν3.v i = ν.v i := fun i hi => if_pos hi
 have ufb : ∀ i, i < own.b.length -> (∀ j : Nat, p.bs[j]? ≠ some i) -> F (ν.l i) ≠ none := fun i hi hne he => by
   have hs := h.lt hi
   obtain ⟨e, _⟩ := keep (ν.l i) w.heap[ν.l i] (ub i hi hne) (Array.getElem?_eq_getElem hs)
   rw [e] at he; cases he
 have ufl : ∀ (k : Nat) e, own.l[k]? = some e -> (∀ j : Nat, p.ls[j]? ≠ some k) -> e.dead = false -> e.own = true -> ∀ g, (ν.v k).ownBlock = some g -> F g ≠ none := fun k e hk hne hd ho' g hg he => by
   have hs := (h.rowLt hk hd ho' hg).2
   obtain ⟨e1, _⟩ := keep g w.heap[g] (ul k e hk hne hd ho' g hg) (Array.getElem?_eq_getElem hs)
   rw [e1] at he; cases he
 refine ⟨ν3, hold, hb, hl, ⟨W.below, fun i b hi => ?_, fun i b hi c hc => ?_, fun i j hi hj he => ?_, fun k e hk hd => ?_, fun k e hk hd ho' g hg => ?_, (fun h => by cases h), ⟨fun b o e => W.fr.here b o (hF0 b o e), fun i hi => ?_, fun k e hk hd ho' g hg => ?_⟩⟩⟩
 . rcases cb i b hi with ⟨h1, h2, h3⟩ | ⟨j, a, rfl, h2, q1, q2, q3, _⟩
   . obtain ⟨k1, k2⟩ := h.blk i b h3
     rw [e3 i h1]
     refine ⟨?_, k2⟩
     have hk : ∀ o, w.heap[ν.l i]? = some o -> w'.heap[ν.l i]? = some o := fun o hg => (keep _ o (ub i h1 h2) hg).2
     unfold BOk at *
     split at k1
     . rename_i hkd
       rw [<- concB_congr (h.okb i b h3) hold]
       exact hk _ k1
     . exact hk _ k1
     . rename_i fl T e acc hkd
       exact absurd hkd (hnb i b h3 fl T e acc)
     . rw [<- concB_congr (h.okb i b h3) hold]
       exact hk _ k1
     . exact k1.of_heap ((hk _ (Array.getElem?_eq_getElem k1.lt)).trans (Array.getElem?_eq_getElem k1.lt).symm)
     . exact k1.of_heap ((hk _ (Array.getElem?_eq_getElem k1.lt)).trans (Array.getElem?_eq_getElem k1.lt).symm)
   . rw [hb j]
     obtain ⟨k1, k2⟩ := W.blk j a h2
     exact ⟨BOk.rel k1 q1 q2 q3, k2⟩
 . rw [hN, hM]
   rcases cb i b hi with ⟨h1, h2, h3⟩ | ⟨j, a, rfl, h2, q1, q2, q3, q4⟩
   . exact (h.okb i b h3 c hc).mono (by omega) (by omega)
   . exact q4 c hc
 . have hi' := List.getElem?_eq_getElem hi
   have hj' := List.getElem?_eq_getElem hj
   rcases cb i _ hi' with ⟨h1, h2, h3⟩ | ⟨j1, a, rfl, h2, _⟩
   . rcases cb j _ hj' with ⟨k1, k2, k3⟩ | ⟨j2, a2, rfl, k2, _⟩
     . rw [e3 i h1, e3 j k1] at he
       exact h.inj i j h1 k1 he
     . rw [e3 i h1, hb j2] at he
       have := W.fr.offb j2 (lt_of_some_list k2)
       rw [<- he] at this
       exact absurd this (ufb i h1 h2)
   . rcases cb j _ hj' with ⟨k1, k2, k3⟩ | ⟨j2, a2, rfl, k2, _⟩
     . rw [e3 j k1, hb j1] at he
       have := W.fr.offb j1 (lt_of_some_list h2)
       rw [he] at this
       exact absurd this (ufb j k1 k2)
     . rw [hb j1, hb j2] at he
       rw [W.inj j1 j2 (lt_of_some_list h2) (lt_of_some_list k2) he]
 . rcases cl k e hk with ⟨h1, h2, h3⟩ | ⟨j, rfl, h2⟩
   . rw [e4 k h1]
     have := h.lst k e h3 hd
     unfold LOk at *
     cases ho' : e.own
     . rw [ho'] at this
       exact InB.kept this fun b hb => by
         rw [W.below.block b hb, h.below.block b hb]
     . rw [ho'] at this
       refine ⟨this.1, ?_⟩
       have hrow := (show OwnB w0.heap.size w e (ν.v k) from this).2
       refine ⟨hrow.1, ?_⟩
       rcases hrow.2 with hr | ⟨g, cap, cur, hv, hge, hcell, hrest⟩
       . exact .inl hr
       . refine .inr ⟨g, cap, cur, hv, hge, ?_, hrest⟩
         exact (keep g _ (ul k e h3 h2 hd ho' g (by rw [hv]; rfl)) hcell).2
   . rw [hl j]
     exact W.lst j e h2 hd
 . rcases cl k e hk with ⟨h1, h2, h3⟩ | ⟨j, rfl, h2⟩
   . rw [e4 k h1] at hg
     obtain ⟨s1, s2⟩ := h.sep k e h3 hd ho' g hg
     have hne := ufl k e h3 h2 hd ho' g hg
     refine ⟨fun i hi => ?_, fun k' e' hk' hd' ho2 hkk => ?_⟩
     . rcases cb i _ (List.getElem?_eq_getElem hi) with ⟨k1, k2, k3⟩ | ⟨j1, a, rfl, k2, _⟩
       . rw [e3 i k1]; exact s1 i k1
       . rw [hb j1]
         intro he
         have := W.fr.offb j1 (lt_of_some_list k2)
         rw [he] at this
         exact hne this
     . rcases cl k' e' hk' with ⟨k1, k2, k3⟩ | ⟨j1, rfl, k2⟩
       . rw [e4 k' k1]; exact s2 k' e' k3 hd' ho2 hkk
       . rw [hl j1]
         intro he
         exact hne (W.fr.offl j1 e' k2 hd' ho2 g he)
   . rw [hl j] at hg
     obtain ⟨s1, s2⟩ := W.sep j e h2 hd ho' g hg
     have hno := W.fr.offl j e h2 hd ho' g hg
     refine ⟨fun i hi => ?_, fun k' e' hk' hd' ho2 hkk => ?_⟩
     . rcases cb i _ (List.getElem?_eq_getElem hi) with ⟨k1, k2, k3⟩ | ⟨j1, a, rfl, k2, _⟩
       . rw [e3 i k1]
         intro he
         rw [<- he] at hno
         exact ufb i k1 k2 hno
       . rw [hb j1]; exact s1 j1 (lt_of_some_list k2)
     . rcases cl k' e' hk' with ⟨k1, k2, k3⟩ | ⟨j1, rfl, k2⟩
       . rw [e4 k' k1]
         intro he
         exact ufl k' e' k3 k2 hd' ho2 g he hno
       . rw [hl j1]
         exact s2 j1 e' k2 hd' ho2 (fun e => hkk (by rw [e]))
 . rcases cb i _ (List.getElem?_eq_getElem hi) with ⟨k1, k2, k3⟩ | ⟨j1, a, rfl, k2, _⟩
   . rw [e3 i k1]; exact h.fr.offb i k1
   . rw [hb j1]; exact hF1 _ (W.fr.offb j1 (lt_of_some_list k2))
 . rcases cl k e hk with ⟨h1, h2, h3⟩ | ⟨j, rfl, h2⟩
   . rw [e4 k h1] at hg
     exact h.fr.offl k e h3 hd ho' g hg
   . rw [hl j] at hg
     exact hF1 _ (W.fr.offl j e h2 hd ho' g hg)
theorem effS_some {E : Env} {f : FuncId} {args : List SV} {s s' : St} {x : SV} (h : effS E f args s = some (x, s')) : ∃ g p args' m r fn, E.eff f = some g ∧ p.opb = [] ∧ pickCells p false args = some args' ∧ pickM p s.own = some m ∧ g args' m = some r ∧ E.P.funcs[f]? = some fn ∧ (fn.name == "runtime.NumGoroutine") = false ∧ fn.body.isNone = false ∧ fitE s p r = true ∧
   x = renV (renN p.bs s.own.b.length) (renN p.ls s.own.l.length) r.x /\ s' = { s with own := applyR s.own p r, mem := true, obl := (r.ok, true) :: s.obl } := by
 unfold effS at h
 split at h
 . cases h
 . rename_i g hg
   split at h
   . rename_i args' m ha hm
     split at h
     . rename_i r fn hr hf
       cases hb : (fn.name == "runtime.NumGoroutine" || fn.body.isNone || !fitE s (reachP s.own args) r)
       . rw [hb] at h
         simp only [cond_false, qS, qP] at h
         simp only [Bool.or_eq_false_iff, Bool.not_eq_false'] at hb
         exact ⟨g, reachP s.own args, args', m, r, fn, hg, rfl, ha, hm, hr, hf, hb.1.1, hb.1.2, hb.2, h.1.symm, h.2.symm⟩
       . rw [hb] at h; cases h
     . cases h
   . cases h
structure FitE (s : St) (p : Pick) (r : Eff) : Prop where
 sb : ∀ q ∈ r.sb, q.1 < p.bs.length /\ ∀ c ∈ q.2.cells, okV (p.bs.length + r.ab.length) (p.ls.length + r.al.length) c
 sl : ∀ q ∈ r.sl, q.1 < p.ls.length
 ab : ∀ b ∈ r.ab, ∀ c ∈ b.cells, okV (p.bs.length + r.ab.length) (p.ls.length + r.al.length) c
 nb : ∀ (i : Nat) b, s.own.b[i]? = some b -> ∀ fl T e acc, b.kd ≠ .bld fl T e acc
 x : okV (p.bs.length + r.ab.length) (p.ls.length + r.al.length) r.x
 lo : ∀ q ∈ r.sb, ∀ i, p.bs[q.1]? = some i -> s.lo <= i
 llo : ∀ q ∈ r.sl, ∀ i, p.ls[q.1]? = some i -> s.llo <= i
theorem fitE_ok {s : St} {p : Pick} {r : Eff} (h : fitE s p r = true) : FitE s p r := by
 unfold fitE at h
 simp only [Bool.and_eq_true, List.all_eq_true] at h
 obtain ⟨⟨⟨⟨⟨h1, h2⟩, h3⟩, h4⟩, h5⟩, h6⟩ := h
 refine ⟨fun q hq => ⟨?_, fun c hc => okVB_ok (h4 q hq c hc)⟩, fun q hq => ?_, fun b hb c hc => okVB_ok (h5 b hb c hc), fun i b hi fl T e acc hk => ?_, okRB_ok h3, fun q hq i hi => ?_, fun q hq i hi => ?_⟩
 . have := h1 q hq
   split at this
   . rename_i i hi; exact lt_of_some_list hi
   . cases this
 . have := h2 q hq
   split at this
   . rename_i i hi; exact lt_of_some_list hi
   . cases this
 . have := h6 b (List.mem_of_getElem? hi)
   rw [hk] at this; cases this
 . have := h1 q hq
   rw [hi] at this
   exact Nat.le_of_ble_eq_true this
 . have := h2 q hq
   rw [hi] at this
   exact Nat.le_of_ble_eq_true this
theorem pickCells_isL {p : Pick} {ν : Nu} : ∀ {l l' : List SV} {vs : List Value}, pickCells p false l = some l' -> IsL ν l vs -> IsL (pickNu p ν) l' vs
 | [], l', vs, h, hv => by
   simp only [pickCells, qS] at h
   subst h
   cases vs with
   | nil => trivial
   | cons _ _ => exact hv.elim
 | x :: r, l', [], h, hv => hv.elim
 | x :: r, l', v :: vs, h, hv => by
   unfold pickCells at h
   split at h
   . cases h
   . rename_i y hne
     split at h
     . rename_i l hl
       simp only [qS] at h
       subst h
       refine ⟨?_, pickCells_isL hl hv.2⟩
       have := pickV_is p hv.1
       exact openV_is this
     . cases h
theorem applyR_len (own : Mem) (p : Pick) (r : Eff) : (applyR own p r).b.length = own.b.length + r.ab.length /\ (applyR own p r).l.length = own.l.length + r.al.length := by simp [applyR, setN_len]
theorem applyR_keep {own : Mem} {p : Pick} {r : Eff} {n : Nat} (hn : n <= own.b.length) (h : ∀ q ∈ r.sb, q.1 < p.bs.length /\ ∀ i, p.bs[q.1]? = some i -> n <= i) (i : Nat) (hi : i < n) : (applyR own p r).b[i]? = own.b[i]? := by
 show (setN own.b _ ++ _)[i]? = _
 rw [List.getElem?_append_left (by rw [setN_len]; omega), setN_other]
 intro q hq
 obtain ⟨q0, hq0, rfl⟩ := List.mem_map.mp hq
 obtain ⟨h1, h2⟩ := h q0 hq0
 have e0 : p.bs[q0.1]? = some p.bs[q0.1] := List.getElem?_eq_getElem h1
 have := h2 _ e0
 show renN p.bs own.b.length q0.1 ≠ i
 unfold renN
 rw [e0]
 show p.bs[q0.1] ≠ i
 omega
theorem applyR_lkeep {own : Mem} {p : Pick} {r : Eff} {n : Nat} (hn : n <= own.l.length) (h : ∀ q ∈ r.sl, q.1 < p.ls.length /\ ∀ i, p.ls[q.1]? = some i -> n <= i) (i : Nat) (hi : i < n) : (applyR own p r).l[i]? = own.l[i]? := by
 show (setN own.l _ ++ _)[i]? = _
 rw [List.getElem?_append_left (by rw [setN_len]; omega), setN_other]
 intro q hq
 obtain ⟨q0, hq0, rfl⟩ := List.mem_map.mp hq
 obtain ⟨h1, h2⟩ := h q0 hq0
 have e0 : p.ls[q0.1]? = some p.ls[q0.1] := List.getElem?_eq_getElem h1
 have := h2 _ e0
 show renN p.ls own.l.length q0.1 ≠ i
 unfold renN
 rw [e0]
 show p.ls[q0.1] ≠ i
 omega
theorem effS_st {E : Env} : ClSt (effS E) := fun f args s x s' hlo hllo hokb hargs h => by
 obtain ⟨g, p, args', m, r, fn, hg, ho, ha, hm, hr, hf, hn, hbody, hfit, rfl, rfl⟩ := effS_some h
 have F := fitE_ok hfit
 obtain ⟨_, _, lb, ll, gb, gl⟩ := pickM_facts ho hm
 obtain ⟨k1, k2⟩ := applyR_len s.own p r
 have fbN := fun i => renN_lt (k := r.ab.length) (fun j i h => (gb j i h).1) i
 have flN := fun i => renN_lt (k := r.al.length) (fun j i h => (gl j i h).1) i
 refine ⟨⟨fun q hq => List.mem_cons_of_mem _ hq, by show _ <= (applyR s.own p r).b.length; omega, by show _ <= (applyR s.own p r).l.length; omega, rfl, rfl, fun i hi => applyR_keep hlo (fun q hq => ⟨(F.sb q hq).1, F.lo q hq⟩) i hi, fun i hi => applyR_lkeep hllo (fun q hq => ⟨F.sl q hq, F.llo q hq⟩) i hi⟩, ?_, fun i b hi c hc => ?_⟩
 . show okV (applyR s.own p r).b.length (applyR s.own p r).l.length _
   rw [k1, k2]
   exact renV_ok fbN flN F.x
 . show okV (applyR s.own p r).b.length (applyR s.own p r).l.length c
   rw [k1, k2]
   have hi : (setN s.own.b (r.sb.map fun q => (renN p.bs s.own.b.length q.1, renB (renN p.bs s.own.b.length) (renN p.ls s.own.l.length) q.2)) ++ r.ab.map (renB (renN p.bs s.own.b.length) (renN p.ls s.own.l.length)))[i]? = some b := hi
   have key : b ∈ s.own.b \/ (∃ q ∈ r.sb, b = renB (renN p.bs s.own.b.length) (renN p.ls s.own.l.length) q.2) \/ ∃ a ∈ r.ab, b = renB (renN p.bs s.own.b.length) (renN p.ls s.own.l.length) a := by
     rcases List.mem_append.mp (List.mem_of_getElem? hi) with hb | hb
     . rcases setN_mem _ _ _ hb with hb | ⟨q, hq, rfl⟩
       . exact .inl hb
       . obtain ⟨q0, hq0, rfl⟩ := List.mem_map.mp hq
         exact .inr (.inl ⟨q0, hq0, rfl⟩)
     . obtain ⟨a, ha1, rfl⟩ := List.mem_map.mp hb
       exact .inr (.inr ⟨a, ha1, rfl⟩)
   rcases key with hb | ⟨q, hq, rfl⟩ | ⟨a, ha1, rfl⟩
   . obtain ⟨i0, hi0⟩ := List.getElem?_of_mem hb
     exact (hokb i0 b hi0 c hc).mono (by omega) (by omega)
   . obtain ⟨y, hy, rfl⟩ := List.mem_map.mp hc
     exact renV_ok fbN flN ((F.sb q hq).2 y hy)
   . obtain ⟨y, hy, rfl⟩ := List.mem_map.mp hc
     exact renV_ok fbN flN (F.ab a ha1 y hy)
theorem effS_ok {E : Env} (hE : EffOk E.P E.glob E.eff) {w0 : Base} (hG : GlobB E w0) : ClOk E w0 (effS E) := fun f args s x s' hlo hllo hargs h hh ν w vs hvs hw => by
 obtain ⟨g, p, args', m, r, fn, hg, ho, ha, hm, hr, hf, hn, hbody, hfit, rfl, rfl⟩ := effS_some h
 have F := fitE_ok hfit
 refine ⟨⟨fn, hf, hn, hbody⟩, ?_⟩
 have e : r.ok = true := hh (r.ok, true) List.mem_cons_self
 obtain ⟨w1, e1, W1, back⟩ := frame_ok ho hm hw F.sb F.sl F.ab F.nb
 refine (hE f g args' m r hg hr e w1 (by rw [e1]; exact hG.glob) (pickNu p ν) w vs (pickCells_isL ha hvs) W1).mono fun r' w' ⟨ν2, v, h1, h2, h3, h4⟩ => ?_
 obtain ⟨ν3, k1, k2, k3, k4⟩ := back ν2 w' h1 h4
 refine ⟨ν3, v, k1, h2, ?_, k4⟩
 have hc := renV_conc k2 k3 r.x
 cases hx : r.x with
 | any => trivial
 | _ =>
   rw [hx] at h3 hc
   exact (show v = conc ν2 _ from h3).trans hc.symm
theorem takeL_more {α : Type} {l ex : List α} : ∀ (is : List Nat) (t : List α), takeL l is = some t -> takeL (l ++ ex) is = some t
 | [], t, h => h
 | i :: r, t, h => by
   unfold takeL at h ⊢
   split at h
   . rename_i x t' hx ht
     rw [List.getElem?_append_left (lt_of_some_list hx), hx, takeL_more r t' ht]; exact h
   . cases h
theorem pickM_more {p : Pick} {own m : Mem} {ex : List LE} (h : pickM p own = some m) : pickM p { own with l := own.l ++ ex } = some m := by
 unfold pickM at h ⊢
 split at h
 . rename_i b l hb hl
   rw [show takeB p ({ own with l := own.l ++ ex } : Mem).b = some b from hb, show takeL ({ own with l := own.l ++ ex } : Mem).l p.ls = some l from takeL_more _ _ hl]
   exact h
 . cases h
theorem effP_some {E : Env} {f : FuncId} {args : List SV} {own : Mem} {q : List Bool × Value} {b : Bool} (h : effP E f args own = some (q, b)) : ∃ g p args' m r fn, E.eff f = some g ∧ p.opb = [] ∧ pickCells p false args = some args' ∧ pickM p own = some m ∧ g args' m = some r ∧ E.P.funcs[f]? = some fn ∧ (fn.name == "runtime.NumGoroutine") = false ∧ fn.body.isNone = false ∧
   r.sb = [] /\ r.sl = [] /\ r.ab = [] /\ r.al = [] /\ (∀ (i : Nat) b, own.b[i]? = some b -> ∀ fl T e acc, b.kd ≠ .bld fl T e acc) /\ r.x = .inl q /\ r.ok = b := by
 unfold effP at h
 split at h
 . cases h
 . rename_i g hg
   split at h
   . rename_i args' m ha hm
     split at h
     . rename_i r fn hr hf
       simp only [cond_eq_ite] at h
       split at h
       . cases h
       . rename_i hc
         simp only [Bool.or_eq_true, not_or, Bool.not_eq_true, Bool.not_eq_false', Bool.and_eq_true, List.isEmpty_iff, List.all_eq_true] at hc
         split at h
         . rename_i q' hx
           simp only [qS, qP] at h
           obtain ⟨rfl, rfl⟩ := h
           refine ⟨g, reachP own args, args', m, r, fn, hg, rfl, ha, hm, hr, hf, hc.1.1.1, hc.1.1.2, hc.1.2.1.1.1, hc.1.2.1.1.2, hc.1.2.1.2, hc.1.2.2, fun i b hi fl T e acc hk => ?_, hx, rfl⟩
           have := hc.2 b (List.mem_of_getElem? hi)
           rw [hk] at this; cases this
         . cases h
     . cases h
   . cases h
theorem effP_ok {E : Env} (hE : EffOk E.P E.glob E.eff) {w0 : Base} (hG : GlobB E w0) {f : FuncId} {args : List SV} {own : Mem} {q : List Bool × Value} (h : effP E f args own = some (q, true)) {ex : List LE} {ν : Nu} {w : World} {vs : List Value} (hvs : IsL ν args vs) (hw : WR w0 ν { own with l := own.l ++ ex } true w) :
   (∃ fn, E.P.funcs[f]? = some fn ∧ (fn.name == "runtime.NumGoroutine") = false ∧ fn.body.isNone = false) ∧
   Calls E.P f vs.toArray w fun e w' => ∃ ν', Agree own.b.length (own.l.length + ex.length) ν ν' /\ e = .returned q.2 /\ WR w0 ν' { own with l := own.l ++ ex } true w' := by
 obtain ⟨g, p, args', m, r, fn, hg, ho, ha, hm, hr, hf, hn, hbody, hsb, hsl, hab, hal, hnb, hx, hok⟩ := effP_some h
 refine ⟨⟨fn, hf, hn, hbody⟩, ?_⟩
 obtain ⟨w1, e1, W1, back⟩ := frame_ok (r := r) ho (pickM_more (ex := ex) hm) hw (by rw [hsb]; exact fun q hq => by cases hq) (by rw [hsl]; exact fun q hq => by cases hq) (by rw [hab]; exact fun q hq => by cases hq) hnb
 refine (hE f g args' m r hg hr hok w1 (by rw [e1]; exact hG.glob) (pickNu p ν) w vs (pickCells_isL ha hvs) W1).mono fun r' w' ⟨ν2, v, h1, h2, h3, h4⟩ => ?_
 obtain ⟨ν3, k1, _, _, k4⟩ := back ν2 w' h1 h4
 refine ⟨ν3, ?_, ?_, ?_⟩
 . have k1 : Agree own.b.length (own.l ++ ex).length ν ν3 := k1
   rw [List.length_append] at k1; exact k1
 . rw [hx] at h3
   have h3 : v = q.2 := h3
   rw [h2, h3]
 . have e2 : applyR { own with l := own.l ++ ex } p r = { own with l := own.l ++ ex } := by
     unfold applyR
     rw [hsb, hsl, hab, hal]
     simp [setN]
   rw [e2] at k4; exact k4
end Go.Proofs.Ytmaffamhjmlonaa.S2
