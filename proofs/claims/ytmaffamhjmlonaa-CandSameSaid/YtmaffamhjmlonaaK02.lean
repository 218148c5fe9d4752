/- S2I, SimV. -/
import Derived.Test.YtmaffamhjmlonaaS2J
import Derived.Scope
set_option linter.unusedVariables false
set_option linter.unusedSimpArgs false
namespace Go.Proofs.Ytmaffamhjmlonaa.S2
open Go Go.RowKit Sim
theorem simC_zero (E : Env) : simC E 0 = fun _ _ _ => none := rfl
theorem simC_succ (E : Env) (k n : Nat) (c : Code) (s : St) : simC E (k + 1) n c s = stepC E (simC E k) n c s := rfl
theorem simC_st (E : Env) : ∀ (fuel : Nat), RunSt (simC E fuel)
 | 0 => fun n c s x s' _ h => by rw [simC_zero] at h; cases h
 | k + 1 => fun n c s x s' hg h => by
   have ih := simC_st E k
   have hcl := enterS_st (E := E) ih
   rw [simC_succ] at h
   unfold stepC at h
   split at h
   . simp only [qS, qP] at h
     obtain ⟨_, rfl⟩ := h; exact ⟨Le.refl _, hg⟩
   . simp only [qS, qP] at h
     obtain ⟨_, rfl⟩ := h; exact ⟨Le.refl _, hg⟩
   . exact ih _ _ _ _ _ hg h
   . split at h
     . rename_i s1 hs
       simp only [qS, qP] at h
       obtain ⟨_, rfl⟩ := h
       obtain ⟨a, b, _⟩ := simOps_st hcl _ _ _ hg hs
       exact ⟨a, b⟩
     . cases h
   . rename_i id ops
     cases hb : (E.P.follows .mixedOrders && Region.lexB .any ops)
     . rw [hb] at h; cases h
     . rw [hb] at h
       simp only [cond_true] at h
       split at h
       . rename_i s1 hs
         simp only [qS, qP] at h
         obtain ⟨_, rfl⟩ := h
         obtain ⟨a, b, _⟩ := simOps_st hcl _ { s with mem := true } _ ⟨hg.lo, hg.llo, hg.ok, hg.okb⟩ hs
         exact ⟨⟨a.ext, a.len, a.llen, a.lo, a.llo, a.keep, a.lkeep⟩, b⟩
       . split at h
         . rename_i s1 hs
           simp only [qS, qP] at h
           obtain ⟨_, rfl⟩ := h
           obtain ⟨a, b, _⟩ := regionD_st hs ⟨hg.lo, hg.llo, hg.ok, hg.okb⟩
           exact ⟨⟨a.ext, a.len, a.llen, a.lo, a.llo, a.keep, a.lkeep⟩, b⟩
         . split at h
           . rename_i s1 hs
             simp only [qS, qP] at h
             obtain ⟨rfl, rfl⟩ := h
             obtain ⟨a, b, _⟩ := lastD_st hs ⟨hg.lo, hg.llo, hg.ok, hg.okb⟩
             exact ⟨⟨a.ext, a.len, a.llen, a.lo, a.llo, a.keep, a.lkeep⟩, b⟩
           . split at h
             . rename_i s1 hs
               simp only [qS, qP] at h
               obtain ⟨rfl, rfl⟩ := h
               obtain ⟨a, b, _⟩ := regionJ_st hs ⟨hg.lo, hg.llo, hg.ok, hg.okb⟩
               exact ⟨⟨a.ext, a.len, a.llen, a.lo, a.llo, a.keep, a.lkeep⟩, b⟩
             . split at h
               . rename_i s1 hs
                 simp only [qS, qP] at h
                 obtain ⟨rfl, rfl⟩ := h
                 obtain ⟨a, b, _⟩ := tailD_st hcl hs rfl ⟨hg.lo, hg.llo, hg.ok, hg.okb⟩
                 exact ⟨⟨a.ext, a.len, a.llen, a.lo, a.llo, a.keep, a.lkeep⟩, b⟩
               . cases h
   . split at h
     . rename_i s1 h1
       obtain ⟨l1, g1⟩ := ih _ _ _ _ _ hg h1
       obtain ⟨l2, g2⟩ := ih _ _ _ _ _ g1 h
       exact ⟨l1.trans l2, g2⟩
     . exact ih _ _ _ _ _ hg h
   . rename_i c c1 c2
     split at h
     . rename_i fl b hev
       split at h
       . rename_i s1 hask
         obtain ⟨b1, _, _, b4, _⟩ := askC_ok (n := n) hev hask
         obtain ⟨l1, g1⟩ := ih _ _ _ _ _ (b4 hg) h
         exact ⟨b1.trans l1, g1⟩
       . rename_i s1 hask
         obtain ⟨b1, _, _, b4, _⟩ := askC_ok (n := n) hev hask
         obtain ⟨l1, g1⟩ := ih _ _ _ _ _ (b4 hg) h
         exact ⟨b1.trans l1, g1⟩
     . cases h
   . split at h
     . rename_i i s1 h1
       obtain ⟨l1, g1⟩ := ih _ _ _ _ _ hg h1
       revert h
       cases Nat.beq i _ <;> intro h <;> simp only [cond_true, cond_false, qS, qP] at h <;> (obtain ⟨_, rfl⟩ := h; exact ⟨l1, g1⟩)
     . exact ih _ _ _ _ _ hg h
   . split at h
     . rename_i s1 h1
       obtain ⟨l1, g1⟩ := ih _ _ _ _ _ hg h1
       obtain ⟨l2, g2⟩ := ih _ _ _ _ _ g1 h
       exact ⟨l1.trans l2, g2⟩
     . exact ih _ _ _ _ _ hg h
   . simp only [qS, qP] at h
     obtain ⟨_, rfl⟩ := h; exact ⟨Le.refl _, hg⟩
   . simp only [qS, qP] at h
     obtain ⟨_, rfl⟩ := h; exact ⟨Le.refl _, hg⟩
   . cases h
theorem simC_ok {E : Env} (HC : CallOk E) {w0 : Base} (hG : GlobB E w0) : ∀ (fuel : Nat), RunOk E w0 fuel (simC E fuel)
 | 0 => fun n c s x s' _ h => by rw [simC_zero] at h; cases h
 | k + 1 => fun n c s x s' hg h hh Q ν a w ht hw hQ => by
   have st := simC_st E k
   have ih := simC_ok HC hG k
   have hst := enterS_st (E := E) st
   have hok := enterS_ok (E := E) HC hG st ih
   rw [simC_succ] at h
   unfold stepC at h
   split at h
   . simp only [qS, qP] at h
     obtain ⟨rfl, rfl⟩ := h
     exact wp_skip (hQ _ _ _ (Agree.refl _ _ _) ht hw)
   . simp only [qS, qP] at h
     obtain ⟨rfl, rfl⟩ := h
     exact wp_label (hQ _ _ _ (Agree.refl _ _ _) ht hw)
   . refine wp_scope_straight (ih _ _ _ _ _ hg h hh _ ν a w ht hw fun ν' a' w' ha ht' hw' => ?_).wp
     rcases x with _ | _ | i
     . exact hQ _ _ _ ha ht' hw'
     . exact hQ _ _ _ ha ht' hw'
     . exact hQ _ _ _ ha ht' hw'
   . rename_i id ops
     split at h
     . rename_i s1 hs
       simp only [qS, qP] at h
       obtain ⟨rfl, rfl⟩ := h
       exact wp_region_list (simOps_wp HC hst hok hG _ _ _ hs hg hh ν a w ht hw hQ)
     . cases h
   . rename_i id ops
     cases hb : (E.P.follows .mixedOrders && Region.lexB .any ops)
     . rw [hb] at h; cases h
     . rw [hb] at h
       simp only [cond_true] at h
       simp only [Bool.and_eq_true] at hb
       split at h
       . rename_i s1 hs
         simp only [qS, qP] at h
         obtain ⟨rfl, rfl⟩ := h
         have hown := (simOps_st hst _ { s with mem := true } _ ⟨hg.lo, hg.llo, hg.ok, hg.okb⟩ hs).2.2 rfl
         refine wp_region_quiet (C := fun w => WR w0 ν s.own true w) hb.1 hb.2 hw.drew ?_
         exact simOps_quiet HC hst hok hG _ _ _ hs ⟨hg.lo, hg.llo, hg.ok, hg.okb⟩ hh rfl rfl a (ht.of rfl) fun e2 a' ht' w' hw' => hQ ν a' w' (Agree.refl _ _ _) ht' (by rw [hown, e2]; exact hw')
       . split at h
         . rename_i s1 hs
           simp only [qS, qP] at h
           obtain ⟨rfl, rfl⟩ := h
           have hmem := (regionD_st hs ⟨hg.lo, hg.llo, hg.ok, hg.okb⟩).2.2
           exact regionD_ok (ν0 := ν) HC hG hb.1 hs ⟨hg.lo, hg.llo, hg.ok, hg.okb⟩ hh (ht.of rfl) (hw.mem) fun ν' a' w' ha ht' hw' => hQ ν' a' w' ha ht' (by rw [hmem]; exact hw')
         . split at h
           . rename_i s1 hs
             simp only [qS, qP] at h
             obtain ⟨rfl, rfl⟩ := h
             have hmem := (lastD_st hs ⟨hg.lo, hg.llo, hg.ok, hg.okb⟩).2.2
             exact lastD_ok (ν0 := ν) HC hG hb.1 rfl hs ⟨hg.lo, hg.llo, hg.ok, hg.okb⟩ hh (ht.of rfl) (hw.mem) fun ν' a' w' ha ht' hw' => hQ ν' a' w' ha ht' (by rw [hmem]; exact hw')
           . split at h
             . rename_i s1 hs
               simp only [qS, qP] at h
               obtain ⟨rfl, rfl⟩ := h
               have hmem := (regionJ_st hs ⟨hg.lo, hg.llo, hg.ok, hg.okb⟩).2.2
               exact regionJ_ok (ν0 := ν) HC hG hb.1 hs ⟨hg.lo, hg.llo, hg.ok, hg.okb⟩ hh (ht.of rfl) (hw.mem) fun ν' a' w' ha ht' hw' => hQ ν' a' w' ha ht' (by rw [hmem]; exact hw')
             . split at h
               . rename_i s1 hs
                 simp only [qS, qP] at h
                 obtain ⟨rfl, rfl⟩ := h
                 have hmem := (tailD_st hst hs rfl ⟨hg.lo, hg.llo, hg.ok, hg.okb⟩).2.2
                 exact tailD_ok (ν0 := ν) HC hst hok hG hb.1 rfl hs ⟨hg.lo, hg.llo, hg.ok, hg.okb⟩ hh (ht.of rfl) (hw.mem) fun ν' a' w' ha ht' hw' => hQ ν' a' w' ha ht' (by rw [hmem]; exact hw')
               . cases h
   . rename_i c1 c2
     split at h
     . rename_i s1 h1
       obtain ⟨l1, g1⟩ := st _ _ _ _ _ hg h1
       obtain ⟨l2, g2⟩ := st _ _ _ _ _ g1 h
       exact wp_seq (ih _ _ _ _ _ hg h1 (l2.holds hh) _ ν a w ht hw fun ν' a' w' ha ht' hw' =>
         (ih _ _ _ _ _ g1 h hh Q ν' a' w' ht' hw' fun ν'' a'' w'' ha' => hQ ν'' a'' w'' (Agree.trans ha ha' l1.len l1.llen)).wp).wp
     . rename_i hne
       refine wp_seq (ih _ _ _ _ _ hg h hh _ ν a w ht hw fun ν' a' w' ha ht' hw' => ?_).wp
       rcases x with _ | _ | i
       . exact absurd h (hne _)
       . exact hQ _ _ _ ha ht' hw'
       . exact hQ _ _ _ ha ht' hw'
   . rename_i c c1 c2
     split at h
     . rename_i fl b hev
       split at h
       . rename_i s1 hask
         obtain ⟨b1, b2, b3, b4, b5⟩ := askC_ok (n := n) hev hask
         have g1 := b4 hg
         obtain ⟨l1, _⟩ := st _ _ _ _ _ g1 h
         obtain ⟨hb, ht1⟩ := b5 (l1.holds hh)
         exact wp_cond_true (by rw [eval_v ht hev, hb]) (ih _ _ _ _ _ g1 h hh Q ν a w (ht1 ν a ht) (by rw [b2, b3]; exact hw) fun ν' a' w' ha => hQ ν' a' w' (by rw [<- b2]; exact ha)).wp
       . rename_i s1 hask
         obtain ⟨b1, b2, b3, b4, b5⟩ := askC_ok (n := n) hev hask
         have g1 := b4 hg
         obtain ⟨l1, _⟩ := st _ _ _ _ _ g1 h
         obtain ⟨hb, ht1⟩ := b5 (l1.holds hh)
         exact wp_cond_false (by rw [eval_v ht hev, hb]) (ih _ _ _ _ _ g1 h hh Q ν a w (ht1 ν a ht) (by rw [b2, b3]; exact hw) fun ν' a' w' ha => hQ ν' a' w' (by rw [<- b2]; exact ha)).wp
     . cases h
   . rename_i id c1
     split at h
     . rename_i i s1 h1
       cases hb : Nat.beq i id
       . rw [hb] at h
         simp only [cond_false, qS, qP] at h
         obtain ⟨rfl, rfl⟩ := h
         have hne : i ≠ id := fun e => by rw [e] at hb; simp at hb
         refine wp_block (ih _ _ _ _ _ hg h1 hh _ ν a w ht hw fun ν' a' w' ha ht' hw' => ?_).wp
         simp only [X.toExit, Exit.inBlock, if_neg hne]
         exact hQ _ _ _ ha ht' hw'
       . rw [hb] at h
         simp only [cond_true, qS, qP] at h
         obtain ⟨rfl, rfl⟩ := h
         have heq : i = id := qB hb
         refine wp_block (ih _ _ _ _ _ hg h1 hh _ ν a w ht hw fun ν' a' w' ha ht' hw' => ?_).wp
         simp only [X.toExit, Exit.inBlock, if_pos heq]
         exact hQ _ _ _ ha ht' hw'
     . rename_i hne
       refine wp_block (ih _ _ _ _ _ hg h hh _ ν a w ht hw fun ν' a' w' ha ht' hw' => ?_).wp
       rcases x with _ | _ | i
       . exact hQ _ _ _ ha ht' hw'
       . exact hQ _ _ _ ha ht' hw'
       . exact absurd h (hne _ _)
   . rename_i c1
     split at h
     . rename_i s1 h1
       obtain ⟨l1, g1⟩ := st _ _ _ _ _ hg h1
       obtain ⟨l2, g2⟩ := st _ _ _ _ _ g1 h
       show Code.rounds _ _ _ (k + 1) _ _
       rw [rounds_succ]
       exact (ih _ _ _ _ _ hg h1 (l2.holds hh) _ ν a w ht hw fun ν' a' w' ha ht' hw' => ih _ _ _ _ _ g1 h hh Q ν' a' w' ht' hw' fun ν'' a'' w'' ha' => hQ ν'' a'' w'' (Agree.trans ha ha' l1.len l1.llen)).wp
     . rename_i hne
       show Code.rounds _ _ _ (k + 1) _ _
       rw [rounds_succ]
       refine (ih _ _ _ _ _ hg h hh _ ν a w ht hw fun ν' a' w' ha ht' hw' => ?_).wp
       rcases x with _ | _ | i
       . exact absurd h (hne _)
       . exact hQ _ _ _ ha ht' hw'
       . exact hQ _ _ _ ha ht' hw'
   . simp only [qS, qP] at h
     obtain ⟨rfl, rfl⟩ := h
     exact wp_exit (hQ _ _ _ (Agree.refl _ _ _) ht hw)
   . simp only [qS, qP] at h
     obtain ⟨rfl, rfl⟩ := h
     exact wp_ret (hQ _ _ _ (Agree.refl _ _ _) ht hw)
   . cases h
end Go.Proofs.Ytmaffamhjmlonaa.S2
namespace Go.Proofs.Ytmaffamhjmlonaa.S2
open Go Go.RowKit Sim
def SemA (E : Env) (w0 : Base) (nb nl n : Nat) (c : Code) (s : St) (x : X) (s' : St) : Prop :=
 ∀ Q ν a w, TR n ν s a -> WR w0 ν s.own s.mem w -> (∀ ν' a' w', Agree nb nl ν ν' -> TR n ν' s' a' -> WR w0 ν' s'.own s'.mem w' -> Q x.toExit a' w') -> c.wp E.P Q a w
abbrev Sem (E : Env) (w0 : Base) (n : Nat) (c : Code) (s : St) (x : X) (s' : St) : Prop := SemA E w0 0 0 n c s x s'
structure Deep (nb nl : Nat) (s : St) : Prop where
 b : nb <= s.own.b.length
 l : nl <= s.own.l.length
theorem Deep.zero (s : St) : Deep 0 0 s := ⟨Nat.zero_le _, Nat.zero_le _⟩
theorem sem_runA {E : Env} (HC : CallOk E) {w0 : Base} (hG : GlobB E w0) {nb nl fuel n : Nat} {c : Code} {s s' : St} {x : X} (hD : Deep nb nl s) (hg : Good s) (h : simC E fuel n c s = some (x, s')) (hh : Holds' s') : SemA E w0 nb nl n c s x s' :=
 fun Q ν a w ht hw hQ => (simC_ok HC hG fuel n c s x s' hg h hh Q ν a w ht hw fun ν' a' w' ha => hQ ν' a' w' (ha.mono hD.b hD.l)).wp
def nilS (t : Nat) (e : TypeId) (size : Nat) (el : Nat -> List Value) (s : St) : Option St := match look s.tmps t with
 | .inl (_, .slice none 0 0) => bif Nat.blt 0 size then some { s with tmps := (t, .c s.own.l.length) :: s.tmps, own := { s.own with l := s.own.l ++ [⟨e, size, 0, el, true, false, true⟩] }, mem := true } else none
 | _ => none
def nilL : List (Nat × TypeId × Nat × (Nat -> List Value)) -> St -> Option St
 | [], s => some s
 | (t, e, size, el) :: r, s => match nilS t e size el s with
   | some s1 => nilL r s1
   | none => none
def pickS0 (p : Pick) (s : St) : Option St := match pickM p s.own with
 | some m => some { tmps := p.ts.map fun t => (t, openV (p.opn.any fun y => Nat.beq y t) (pickV p (look s.tmps t))), own := m, lo := 0, llo := 0, mem := true, orc := [], obl := [] }
 | none => none
def mvS (t : Nat) (s : St) : Option St := match look s.tmps t with
 | .c k => match getL s k with
   | some e => bif e.own && bldFree s e.elT then some { s with tmps := (t, .c s.own.l.length) :: s.tmps, own := { s.own with l := killL s.own.l (some k) ++ [e] }, mem := true } else none
   | none => none
 | _ => none
def mvL : List Nat -> St -> Option St
 | [], s => some s
 | t :: r, s => match mvS t s with
   | some s1 => mvL r s1
   | none => none
def cpN (k n i : Nat) : Nat := bif Nat.beq i k then n else i
def cpS (k : Nat) (s : St) : Option St := match getL s k with
 | some e => bif e.own then none else some { s with tmps := s.tmps.map fun p => (p.1, renV (fun i => i) (cpN k s.own.l.length) p.2), own := ⟨s.own.b.map (renB (fun i => i) (cpN k s.own.l.length)), s.own.l ++ [e]⟩, mem := true }
 | none => none
def cpL : List Nat -> St -> Option St
 | [], s => some s
 | k :: r, s => match cpS k s with
   | some s1 => cpL r s1
   | none => none
def nibS (i off : Nat) (e : TypeId) (size : Nat) (el : Nat -> List Value) (s : St) : Option St := match s.own.b[i]? with
 | some b => match b.kd, b.cells[off]? with
   | .cells, some (.inl (_, .slice none 0 0)) => bif Nat.blt 0 size then some { s with own := ⟨s.own.b.set i ⟨b.cells.set off (.c s.own.l.length), b.elem, .cells⟩, s.own.l ++ [⟨e, size, 0, el, true, false, true⟩]⟩, mem := true } else none
   | _, _ => none
 | none => none
def nibL : List (Nat × Nat × TypeId × Nat × (Nat -> List Value)) -> St -> Option St
 | [], s => some s
 | (i, off, e, size, el) :: r, s => match nibS i off e size el s with
   | some s1 => nibL r s1
   | none => none
def cpnL (p : Pick) (s : St) : Option St := match cpL p.cp s with
 | some s1 => nibL p.nib s1
 | none => none
def pickS (p : Pick) (s : St) : Option St := match cpnL p s with
 | some sc => match mvL p.mv sc with
   | some s0 => match nilL p.nil s0 with
     | some s1 => pickS0 p s1
     | none => none
   | none => none
 | none => none
def prefB (n : Nat) (l : List Nat) : Bool := (List.range n).all fun i => match l[i]? with
 | some j => Nat.beq i j
 | none => false
theorem prefB_ok {n : Nat} {l : List Nat} (h : prefB n l = true) (i : Nat) (hi : i < n) : l[i]? = some i := by
 have := List.all_eq_true.mp h i (List.mem_range.mpr hi)
 split at this
 . rename_i j hj
   rw [hj, qB this]
 . cases this
theorem pick0_ok {p : Pick} {s s' : St} (h : pickS0 p s = some s') {n : Nat} {w0 : Base} {w : World} {ν : Nu} {a : Act} (ht : TR n ν s a) (hw : WR w0 ν s.own s.mem w) : TR n (pickNu p ν) s' a /\ WR w0 (pickNu p ν) s'.own s'.mem w := by
 unfold pickS0 at h
 split at h
 . rename_i m hm
   simp only [qS] at h
   subst h
   refine ⟨⟨ht.size, fun t => ?_, ht.df⟩, pickM_ok hm hw⟩
   show Is (pickNu p ν) (look (p.ts.map fun t => (t, openV (p.opn.any fun y => Nat.beq y t) (pickV p (look s.tmps t)))) t) _
   have hlook := look_map (fun t => openV (p.opn.any fun y => Nat.beq y t) (pickV p (look s.tmps t))) t
   rcases hlook p.ts with h | h
   . rw [h]; trivial
   . rw [h]
     exact openV_is (pickV_is p (ht.tm t))
 . cases h
theorem nil_ok {t : Nat} {e : TypeId} {size : Nat} {el : Nat -> List Value} {s s' : St} (h : nilS t e size el s = some s') {n : Nat} {w0 : Base} {w : World} {ν : Nu} {a : Act} (ht : TR n ν s a) (hg : ∀ p ∈ s.tmps, okV s.own.b.length s.own.l.length p.2) (hw : WR w0 ν s.own s.mem w) :
   ∃ ν', Agree s.own.b.length s.own.l.length ν ν' /\ s.own.l.length <= s'.own.l.length /\ s'.own.b = s.own.b /\ TR n ν' s' a /\ (∀ p ∈ s'.tmps, okV s'.own.b.length s'.own.l.length p.2) /\ WR w0 ν' s'.own s'.mem w := by
 unfold nilS at h
 split at h
 . rename_i fl hl
   cases hb : Nat.blt 0 size
   . rw [hb] at h; cases h
   . rw [hb] at h
     simp only [cond_true, qS] at h
     subst h
     have hsz : 0 < size := by simpa [Nat.blt_eq] using hb
     have h0 : a.tmps.getD t undef = .slice none 0 0 := by have := ht.tm t; rw [hl] at this; exact this
     refine ⟨extV ν s.own.l.length (.slice none 0 0), extV_old _ _ _ _, by simp, rfl, ⟨ht.size, fun t' => ?_, ht.df⟩, fun p hp => ?_, hw.addRow (e := ⟨e, size, 0, el, true, false, true⟩) rfl ⟨⟨hsz, fun j hj => absurd hj (by simp)⟩, by simp [LE.flat], .inl ⟨rfl, rfl⟩⟩ (fun g hg => by cases hg) (fun g hg => by cases hg)⟩
     . show Is _ (look ((t, .c s.own.l.length) :: s.tmps) t') _
       unfold look
       cases hb : Nat.beq t t'
       . exact Is_congr (look_ok hg) (extV_old ν _ _ _) (ht.tm t')
       . rw [<- qB hb]
         show a.tmps.getD t undef = (extV ν s.own.l.length (.slice none 0 0)).v s.own.l.length
         rw [extV_new]; exact h0
     . have hlen : (s.own.l ++ [(⟨e, size, 0, el, true, false, true⟩ : LE)]).length = s.own.l.length + 1 := by simp
       show okV s.own.b.length (s.own.l ++ [(⟨e, size, 0, el, true, false, true⟩ : LE)]).length p.2
       rw [hlen]
       rcases List.mem_cons.mp hp with rfl | hp
       . show s.own.l.length < _; omega
       . exact (hg p hp).mono (Nat.le_refl _) (by omega)
 . cases h
theorem nilL_ok : ∀ (l : List (Nat × TypeId × Nat × (Nat -> List Value))) {s s' : St}, nilL l s = some s' -> ∀ {n : Nat} {w0 : Base} {w : World} {ν : Nu} {a : Act}, TR n ν s a -> (∀ p ∈ s.tmps, okV s.own.b.length s.own.l.length p.2) -> WR w0 ν s.own s.mem w -> ∃ ν', Agree s.own.b.length s.own.l.length ν ν' /\ TR n ν' s' a /\ WR w0 ν' s'.own s'.mem w
 | [], s, s', h, n, w0, w, ν, a, ht, _, hw => by simp only [nilL, qS] at h; subst h; exact ⟨ν, .refl _ _ _, ht, hw⟩
 | (t, e, size, el) :: r, s, s', h, n, w0, w, ν, a, ht, hg, hw => by
   unfold nilL at h
   split at h
   . rename_i s1 h1
     obtain ⟨ν1, a1, l1, b1, t1, g1, w1⟩ := nil_ok h1 ht hg hw
     obtain ⟨ν2, a2, t2, w2⟩ := nilL_ok r h t1 g1 w1
     exact ⟨ν2, Agree.trans a1 a2 (by rw [b1]; exact Nat.le_refl _) l1, t2, w2⟩
   . cases h
theorem OwnB.elTy {B : Nat} {w : World} {e : LE} {v : Value} (h : OwnB B w e v) {g : Nat} {cs : Array Value} {ty : TypeId} {fz : Nat × Nat} (hg : v.ownBlock = some g) (hc : w.heap[g]? = some (.cells cs ty fz)) : ty = e.elT := by
 rcases h.2.2 with ⟨rfl, _⟩ | ⟨g', cap, cur, rfl, _, hb, _⟩
 . cases hg
 . cases hg
   rw [hb] at hc
   simp only [qS, Obj.cells.injEq] at hc
   exact hc.2.1.symm
theorem mv_ok {t : Nat} {s s' : St} (h : mvS t s = some s') {n : Nat} {w0 : Base} {w : World} {ν : Nu} {a : Act} (ht : TR n ν s a) (hg : ∀ p ∈ s.tmps, okV s.own.b.length s.own.l.length p.2) (hw : WR w0 ν s.own s.mem w) :
   ∃ ν', Agree s.own.b.length s.own.l.length ν ν' /\ s.own.l.length <= s'.own.l.length /\ s'.own.b = s.own.b /\ TR n ν' s' a /\ (∀ p ∈ s'.tmps, okV s'.own.b.length s'.own.l.length p.2) /\ WR w0 ν' s'.own s'.mem w := by
 unfold mvS at h
 split at h
 . rename_i k hl
   split at h
   . rename_i e he
     cases hb : (e.own && bldFree s e.elT)
     . rw [hb] at h; cases h
     . rw [hb] at h
       simp only [cond_true, qS] at h
       subst h
       simp only [Bool.and_eq_true] at hb
       obtain ⟨hk, hd⟩ := getL_some he
       have h0 : a.tmps.getD t undef = ν.v k := by have := ht.tm t; rw [hl] at this; exact this
       have hlen : (killL s.own.l (some k) ++ [e]).length = s.own.l.length + 1 := by rw [List.length_append, killL_len]; rfl
       have hrow := hw.row hk hd hb.1
       refine ⟨extV ν s.own.l.length (ν.v k), extV_old _ _ _ _, by show _ <= (killL s.own.l (some k) ++ [e]).length; omega, rfl, ⟨ht.size, fun t' => ?_, ht.df⟩, fun p hp => ?_, ?_⟩
       . show Is _ (look ((t, .c s.own.l.length) :: s.tmps) t') _
         unfold look
         cases hb : Nat.beq t t'
         . exact Is_congr (look_ok hg) (extV_old ν _ _ _) (ht.tm t')
         . rw [<- qB hb]
           show a.tmps.getD t undef = (extV ν s.own.l.length (ν.v k)).v s.own.l.length
           rw [extV_new]; exact h0
       . show okV s.own.b.length (killL s.own.l (some k) ++ [e]).length p.2
         rw [hlen]
         rcases List.mem_cons.mp hp with rfl | hp
         . show s.own.l.length < _; omega
         . exact (hg p hp).mono (Nat.le_refl _) (by omega)
       . refine hw.append (k? := some k) (v := ν.v k) (v' := ν.v k) (ne := e) hrow hb.1 (fun g hg => ⟨k, e, rfl, hk, hd, hb.1, hg⟩) ⟨rfl, rfl, rfl, Nat.le_refl _, fun _ _ _ => rfl⟩ (.inl rfl) fun j c fl T e2 acc hj hkd g cs fz hg heq => ?_
         exact bldFree_ok hb.2 j c fl T e2 acc hj hkd (OwnB.elTy hrow hg heq)
   . cases h
 . cases h
theorem mvL_ok : ∀ (l : List Nat) {s s' : St}, mvL l s = some s' -> ∀ {n : Nat} {w0 : Base} {w : World} {ν : Nu} {a : Act}, TR n ν s a -> (∀ p ∈ s.tmps, okV s.own.b.length s.own.l.length p.2) -> WR w0 ν s.own s.mem w -> ∃ ν', Agree s.own.b.length s.own.l.length ν ν' /\ s.own.l.length <= s'.own.l.length /\ s'.own.b = s.own.b /\ TR n ν' s' a /\ (∀ p ∈ s'.tmps, okV s'.own.b.length s'.own.l.length p.2) /\ WR w0 ν' s'.own s'.mem w
 | [], s, s', h, n, w0, w, ν, a, ht, hg, hw => by simp only [mvL, qS] at h; subst h; exact ⟨ν, .refl _ _ _, Nat.le_refl _, rfl, ht, hg, hw⟩
 | t :: r, s, s', h, n, w0, w, ν, a, ht, hg, hw => by
   unfold mvL at h
   split at h
   . rename_i s1 h1
     obtain ⟨ν1, a1, l1, b1, t1, g1, w1⟩ := mv_ok h1 ht hg hw
     obtain ⟨ν2, a2, l2, b2, t2, g2, w2⟩ := mvL_ok r h t1 g1 w1
     exact ⟨ν2, Agree.trans a1 a2 (by rw [b1]; exact Nat.le_refl _) l1, Nat.le_trans l1 l2, b2.trans b1, t2, g2, w2⟩
   . cases h
theorem look_ren (f : SV -> SV) (hf : f .any = .any) (t : Nat) : ∀ (l : List (Nat × SV)), look (l.map fun p => (p.1, f p.2)) t = f (look l t)
 | [] => hf.symm
 | (d, x) :: r => by
   show look ((d, f x) :: r.map fun p => (p.1, f p.2)) t = f (look ((d, x) :: r) t)
   unfold look
   cases Nat.beq d t
   . exact look_ren f hf t r
   . rfl
theorem WR.reblk {w0 : Base} {ν : Nu} {own own' : Mem} {mem : Bool} {w : World} (h : WR w0 ν own mem w) (hl : own'.l = own.l) (hn : own'.b.length = own.b.length) (hb : ∀ (i : Nat) b', own'.b[i]? = some b' -> ∃ b, own.b[i]? = some b /\ concB ν b'.cells = concB ν b.cells /\ b'.elem = b.elem /\ b'.kd = b.kd)
   (hok : OkB own'.b.length own'.l.length own'.b) : WR w0 ν own' mem w :=
 ⟨h.below, fun i b' hi => by
   obtain ⟨b, h1, h2, h3, h4⟩ := hb i b' hi
   obtain ⟨k1, k2⟩ := h.blk i b h1
   exact ⟨BOk.rel k1 h2 h3 h4, k2⟩, hok, fun i j hi hj => h.inj i j (by rw [<- hn]; exact hi) (by rw [<- hn]; exact hj), fun k e hk => h.lst k e (by rw [<- hl]; exact hk), fun k e hk hd ho g hg => by
   obtain ⟨s1, s2⟩ := h.sep k e (by rw [<- hl]; exact hk) hd ho g hg
   exact ⟨fun i hi => s1 i (by rw [<- hn]; exact hi), fun k' e' hk' => s2 k' e' (by rw [<- hl]; exact hk')⟩, h.same, ⟨h.fr.here, fun i hi => h.fr.offb i (by rw [<- hn]; exact hi), fun k e hk => h.fr.offl k e (by rw [<- hl]; exact hk)⟩⟩
theorem cp_ok {k : Nat} {s s' : St} (h : cpS k s = some s') {n : Nat} {w0 : Base} {w : World} {ν : Nu} {a : Act} (ht : TR n ν s a) (hg : ∀ p ∈ s.tmps, okV s.own.b.length s.own.l.length p.2) (hw : WR w0 ν s.own s.mem w) :
   ∃ ν', Agree s.own.b.length s.own.l.length ν ν' /\ s.own.l.length <= s'.own.l.length /\ s'.own.b.length = s.own.b.length /\ TR n ν' s' a /\ (∀ p ∈ s'.tmps, okV s'.own.b.length s'.own.l.length p.2) /\ WR w0 ν' s'.own s'.mem w := by
 unfold cpS at h
 split at h
 . rename_i e he
   cases ho : e.own
   . rw [ho] at h
     simp only [cond_false, qS] at h
     subst h
     obtain ⟨hk, hd⟩ := getL_some he
     have hkl := lt_of_some_list hk
     have hin := hw.lst k e hk hd
     unfold LOk at hin
     rw [ho] at hin
     have hadd := hw.addIn (e := e) (v := ν.v k) ho hin
     have hv : ∀ i, i < s.own.l.length -> (extV ν s.own.l.length (ν.v k)).v (cpN k s.own.l.length i) = ν.v i := fun i hi => by
       unfold cpN
       cases hb : Nat.beq i k
       . exact ((extV_old ν 0 s.own.l.length (ν.v k)).2 i hi).symm
       . rw [qB hb]
         exact extV_new _ _ _
     have key : ∀ x : SV, okV s.own.b.length s.own.l.length x -> conc (extV ν s.own.l.length (ν.v k)) (renV (fun i => i) (cpN k s.own.l.length) x) = conc ν x /\ okV s.own.b.length (s.own.l.length + 1) (renV (fun i => i) (cpN k s.own.l.length) x) := fun x hx => by
       refine ⟨?_, renV_ok (fun i hi => hi) (fun i hi => ?_) hx⟩
       . let ν2 : Nu := ⟨ν.l, fun i => (extV ν s.own.l.length (ν.v k)).v (cpN k s.own.l.length i)⟩
         rw [renV_conc (ν3 := extV ν s.own.l.length (ν.v k)) (ν2 := ν2) (fb := fun i => i) (fl := cpN k s.own.l.length) (fun i => rfl) (fun i => rfl) x]
         exact conc_congr hx ⟨fun i _ => rfl, fun i hi => hv i hi⟩
       . unfold cpN
         cases Nat.beq i k
         . show i < _; omega
         . show s.own.l.length < _; omega
     refine ⟨extV ν s.own.l.length (ν.v k), extV_old _ _ _ _, by simp, by simp, ⟨ht.size, fun t => ?_, ht.df⟩, fun p hp => ?_, hadd.reblk rfl (by simp) (fun i b' hi => ?_) fun i b' hi c hc => ?_⟩
     . show Is _ (look (s.tmps.map fun p => (p.1, renV (fun i => i) (cpN k s.own.l.length) p.2)) t) _
       rw [look_ren _ rfl]
       have h0 := ht.tm t
       have hx := look_ok (t := t) hg
       cases hy : look s.tmps t with
       | any => trivial
       | _ =>
         rw [hy] at h0 hx
         exact (show _ = conc ν _ from h0).trans (key _ hx).1.symm
     . obtain ⟨p0, hp0, rfl⟩ := List.mem_map.mp hp
       have := (key p0.2 (hg p0 hp0)).2
       simpa using this
     . rw [List.getElem?_map] at hi
       obtain ⟨b, hb, rfl⟩ := Option.map_eq_some_iff.mp hi
       refine ⟨b, hb, ?_, rfl, rfl⟩
       show concB _ (b.cells.map _) = concB _ b.cells
       unfold concB
       rw [List.map_map]
       refine List.map_congr_left fun c hc => ?_
       exact ((key c (hw.okb i b hb c hc)).1).trans (conc_congr (hw.okb i b hb c hc) (extV_old _ _ _ _))
     . rw [List.getElem?_map] at hi
       obtain ⟨b, hb, rfl⟩ := Option.map_eq_some_iff.mp hi
       obtain ⟨c0, hc0, rfl⟩ := List.mem_map.mp hc
       have := (key c0 (hw.okb i b hb c0 hc0)).2
       simpa using this
   . rw [ho] at h; cases h
 . cases h
theorem cpL_ok : ∀ (l : List Nat) {s s' : St}, cpL l s = some s' -> ∀ {n : Nat} {w0 : Base} {w : World} {ν : Nu} {a : Act}, TR n ν s a -> (∀ p ∈ s.tmps, okV s.own.b.length s.own.l.length p.2) -> WR w0 ν s.own s.mem w -> ∃ ν', Agree s.own.b.length s.own.l.length ν ν' /\ s.own.l.length <= s'.own.l.length /\ s'.own.b.length = s.own.b.length /\ TR n ν' s' a /\ (∀ p ∈ s'.tmps, okV s'.own.b.length s'.own.l.length p.2) /\ WR w0 ν' s'.own s'.mem w
 | [], s, s', h, n, w0, w, ν, a, ht, hg, hw => by simp only [cpL, qS] at h; subst h; exact ⟨ν, .refl _ _ _, Nat.le_refl _, rfl, ht, hg, hw⟩
 | t :: r, s, s', h, n, w0, w, ν, a, ht, hg, hw => by
   unfold cpL at h
   split at h
   . rename_i s1 h1
     obtain ⟨ν1, a1, l1, b1, t1, g1, w1⟩ := cp_ok h1 ht hg hw
     obtain ⟨ν2, a2, l2, b2, t2, g2, w2⟩ := cpL_ok r h t1 g1 w1
     exact ⟨ν2, Agree.trans a1 a2 (by rw [b1]; exact Nat.le_refl _) l1, Nat.le_trans l1 l2, b2.trans b1, t2, g2, w2⟩
   . cases h
theorem nib_ok {i off : Nat} {e : TypeId} {size : Nat} {el : Nat -> List Value} {s s' : St} (h : nibS i off e size el s = some s') {n : Nat} {w0 : Base} {w : World} {ν : Nu} {a : Act} (ht : TR n ν s a) (hg : ∀ p ∈ s.tmps, okV s.own.b.length s.own.l.length p.2) (hw : WR w0 ν s.own s.mem w) :
   ∃ ν', Agree s.own.b.length s.own.l.length ν ν' /\ s.own.l.length <= s'.own.l.length /\ s'.own.b.length = s.own.b.length /\ TR n ν' s' a /\ (∀ p ∈ s'.tmps, okV s'.own.b.length s'.own.l.length p.2) /\ WR w0 ν' s'.own s'.mem w := by
 unfold nibS at h
 split at h
 . rename_i b hbi
   split at h
   . rename_i fl hk hc
     cases hb : Nat.blt 0 size
     . rw [hb] at h; cases h
     . rw [hb] at h
       simp only [cond_true, qS] at h
       subst h
       have hsz : 0 < size := by simpa [Nat.blt_eq] using hb
       have hadd := hw.addRow (v := .slice none 0 0) (e := ⟨e, size, 0, el, true, false, true⟩) rfl ⟨⟨hsz, fun j hj => absurd hj (by simp)⟩, by simp [LE.flat], .inl ⟨rfl, rfl⟩⟩ (fun g hg => by cases hg) (fun g hg => by cases hg)
       have hag : Agree s.own.b.length s.own.l.length ν (extV ν s.own.l.length (.slice none 0 0)) := extV_old _ _ _ _
       have hlen : (s.own.l ++ [(⟨e, size, 0, el, true, false, true⟩ : LE)]).length = s.own.l.length + 1 := by simp
       refine ⟨extV ν s.own.l.length (.slice none 0 0), hag, by show _ <= (s.own.l ++ [_]).length; omega, by simp, ⟨ht.size, fun t => Is_congr (look_ok hg) hag (ht.tm t), ht.df⟩, fun p hp => ?_, hadd.reblk rfl (by simp) (fun j b' hj => ?_) fun j b' hj c hcm => ?_⟩
       . show okV (s.own.b.set i _).length (s.own.l ++ [_]).length p.2
         rw [hlen, List.length_set]
         exact (hg p hp).mono (Nat.le_refl _) (by omega)
       . by_cases hij : i = j
         . subst hij
           have hi' : i < s.own.b.length := lt_of_some_list hbi
           have hj : (s.own.b.set i ⟨b.cells.set off (.c s.own.l.length), b.elem, .cells⟩)[i]? = some b' := hj
           rw [List.getElem?_set_self hi'] at hj
           simp only [qS] at hj
           subst hj
           refine ⟨b, hbi, ?_, rfl, hk.symm⟩
           show concB _ (b.cells.set off _) = concB _ b.cells
           unfold concB
           rw [List.map_set]
           refine List.ext_getElem? fun m => ?_
           by_cases hm : off = m
           . subst hm
             rw [List.getElem?_set_self (by rw [List.length_map]; exact lt_of_some_list hc), List.getElem?_map, hc]
             show some ((extV ν s.own.l.length (.slice none 0 0)).v s.own.l.length) = _
             rw [extV_new]; rfl
           . rw [List.getElem?_set_ne hm]
         . have hj : (s.own.b.set i ⟨b.cells.set off (.c s.own.l.length), b.elem, .cells⟩)[j]? = some b' := hj
           rw [List.getElem?_set_ne hij] at hj
           exact ⟨b', hj, rfl, rfl, rfl⟩
       . show okV (s.own.b.set i _).length (s.own.l ++ [_]).length c
         rw [hlen, List.length_set]
         by_cases hij : i = j
         . subst hij
           have hi' : i < s.own.b.length := lt_of_some_list hbi
           have hj : (s.own.b.set i ⟨b.cells.set off (.c s.own.l.length), b.elem, .cells⟩)[i]? = some b' := hj
           rw [List.getElem?_set_self hi'] at hj
           simp only [qS] at hj
           subst hj
           rcases List.mem_or_eq_of_mem_set hcm with hcm | rfl
           . exact (hw.okb i b hbi c hcm).mono (Nat.le_refl _) (by omega)
           . show s.own.l.length < _; omega
         . have hj : (s.own.b.set i ⟨b.cells.set off (.c s.own.l.length), b.elem, .cells⟩)[j]? = some b' := hj
           rw [List.getElem?_set_ne hij] at hj
           exact (hw.okb j b' hj c hcm).mono (Nat.le_refl _) (by omega)
   . cases h
 . cases h
theorem nibL_ok : ∀ (l : List (Nat × Nat × TypeId × Nat × (Nat -> List Value))) {s s' : St}, nibL l s = some s' -> ∀ {n : Nat} {w0 : Base} {w : World} {ν : Nu} {a : Act}, TR n ν s a -> (∀ p ∈ s.tmps, okV s.own.b.length s.own.l.length p.2) -> WR w0 ν s.own s.mem w -> ∃ ν', Agree s.own.b.length s.own.l.length ν ν' /\ s.own.l.length <= s'.own.l.length /\ s'.own.b.length = s.own.b.length /\ TR n ν' s' a /\ (∀ p ∈ s'.tmps, okV s'.own.b.length s'.own.l.length p.2) /\ WR w0 ν' s'.own s'.mem w
 | [], s, s', h, n, w0, w, ν, a, ht, hg, hw => by simp only [nibL, qS] at h; subst h; exact ⟨ν, .refl _ _ _, Nat.le_refl _, rfl, ht, hg, hw⟩
 | (i, off, e, size, el) :: r, s, s', h, n, w0, w, ν, a, ht, hg, hw => by
   unfold nibL at h
   split at h
   . rename_i s1 h1
     obtain ⟨ν1, a1, l1, b1, t1, g1, w1⟩ := nib_ok h1 ht hg hw
     obtain ⟨ν2, a2, l2, b2, t2, g2, w2⟩ := nibL_ok r h t1 g1 w1
     exact ⟨ν2, Agree.trans a1 a2 (by rw [b1]; exact Nat.le_refl _) l1, Nat.le_trans l1 l2, b2.trans b1, t2, g2, w2⟩
   . cases h
theorem cpnL_ok (p : Pick) {s s' : St} (h : cpnL p s = some s') {n : Nat} {w0 : Base} {w : World} {ν : Nu} {a : Act} (ht : TR n ν s a) (hg : ∀ p ∈ s.tmps, okV s.own.b.length s.own.l.length p.2) (hw : WR w0 ν s.own s.mem w) :
   ∃ ν', Agree s.own.b.length s.own.l.length ν ν' /\ s.own.l.length <= s'.own.l.length /\ s'.own.b.length = s.own.b.length /\ TR n ν' s' a /\ (∀ p ∈ s'.tmps, okV s'.own.b.length s'.own.l.length p.2) /\ WR w0 ν' s'.own s'.mem w := by
 unfold cpnL at h
 split at h
 . rename_i s1 h1
   obtain ⟨ν1, a1, l1, b1, t1, g1, w1⟩ := cpL_ok p.cp h1 ht hg hw
   obtain ⟨ν2, a2, l2, b2, t2, g2, w2⟩ := nibL_ok p.nib h t1 g1 w1
   exact ⟨ν2, Agree.trans a1 a2 (by rw [b1]; exact Nat.le_refl _) l1, Nat.le_trans l1 l2, b2.trans b1, t2, g2, w2⟩
 . cases h
theorem pickNu_agree {p : Pick} {nb nl : Nat} (hb : prefB nb p.bs = true) (hl : prefB nl p.ls = true) (ν : Nu) : Agree nb nl ν (pickNu p ν) := ⟨fun i hi => by
   show ν.l i = ν.l ((p.bs[i]?).getD 0); rw [prefB_ok hb i hi]; rfl, fun k hk => by
   show ν.v k = ν.v ((p.ls[k]?).getD 0); rw [prefB_ok hl k hk]; rfl⟩
theorem pick_okA {p : Pick} {s s' : St} {nb nl : Nat} (hD : Deep nb nl s) (hb : prefB nb p.bs = true) (hl : prefB nl p.ls = true) (h : pickS p s = some s') (hg : Good s) {n : Nat} {w0 : Base} {w : World} {ν : Nu} {a : Act} (ht : TR n ν s a) (hw : WR w0 ν s.own s.mem w) : ∃ ν', Agree nb nl ν ν' /\ TR n ν' s' a /\ WR w0 ν' s'.own s'.mem w := by
 unfold pickS at h
 split at h
 . rename_i sc hc
   split at h
   . rename_i s0 h0
     split at h
     . rename_i s1 h1
       obtain ⟨νc, ac, lc, bc, tc, gc, wc⟩ := cpnL_ok p hc ht hg.ok hw
       obtain ⟨ν0, a0, l0, b0, t0, g0, w0'⟩ := mvL_ok p.mv h0 tc gc wc
       obtain ⟨ν1, a1, t1, w1⟩ := nilL_ok p.nil h1 t0 g0 w0'
       obtain ⟨t2, w2⟩ := pick0_ok h t1 w1
       have a2 := pickNu_agree hb hl ν1
       have c1 := ac.mono hD.b hD.l
       have c2 := a0.mono (show nb <= _ by rw [bc]; exact hD.b) (Nat.le_trans hD.l lc)
       have c3 := a1.mono (show nb <= _ by rw [b0, bc]; exact hD.b) (Nat.le_trans (Nat.le_trans hD.l lc) l0)
       exact ⟨_, Agree.trans (Agree.trans (Agree.trans c1 c2 (Nat.le_refl _) (Nat.le_refl _)) c3 (Nat.le_refl _) (Nat.le_refl _)) a2 (Nat.le_refl _) (Nat.le_refl _), t2, w2⟩
     . cases h
   . cases h
 . cases h
theorem SemA.pre {E : Env} {w0 : Base} {nb nl n : Nat} {c : Code} {s s1 s' : St} {x : X} {p : Pick} (hD : Deep nb nl s) (hb : prefB nb p.bs = true) (hl : prefB nl p.ls = true) (hp : pickS p s = some s1) (hg : Good s) (h : SemA E w0 nb nl n c s1 x s') : SemA E w0 nb nl n c s x s' := fun Q ν a w ht hw hQ => by
 obtain ⟨ν', ha, ht', hw'⟩ := pick_okA hD hb hl hp hg ht hw
 exact h Q ν' a w ht' hw' fun ν2 a2 w2 ha2 => hQ ν2 a2 w2 (Agree.trans ha ha2 (Nat.le_refl _) (Nat.le_refl _))
theorem SemA.post {E : Env} {w0 : Base} {nb nl n : Nat} {c : Code} {s s1 s' : St} {x : X} {p : Pick} (hD : Deep nb nl s1) (hb : prefB nb p.bs = true) (hl : prefB nl p.ls = true) (hp : pickS p s1 = some s') (hg : Good s1) (h : SemA E w0 nb nl n c s x s1) : SemA E w0 nb nl n c s x s' := fun Q ν a w ht hw hQ =>
 h Q ν a w ht hw fun ν' a' w' ha ht' hw' => by
   obtain ⟨ν'', ha2, ht'', hw''⟩ := pick_okA hD hb hl hp hg ht' hw'
   exact hQ ν'' a' w' (Agree.trans ha ha2 (Nat.le_refl _) (Nat.le_refl _)) ht'' hw''
theorem SemA.of {E : Env} {w0 : Base} {nb nl n : Nat} {c : Code} {s t s' t' : St} {x : X} (h : SemA E w0 nb nl n c s x s') (h1 : t.tmps = s.tmps) (h2 : t.own = s.own) (h3 : t.mem = s.mem) (k1 : s'.tmps = t'.tmps) (k2 : s'.own = t'.own) (k3 : s'.mem = t'.mem) : SemA E w0 nb nl n c t x t' := fun Q ν a w ht hw hQ =>
 h Q ν a w (ht.of h1.symm) (by rw [<- h2, <- h3]; exact hw) fun ν' a' w' ha ht' hw' => hQ ν' a' w' ha (ht'.of k1.symm) (by rw [<- k2, <- k3]; exact hw')
def sameE (e e' : LE) : Prop := e.elT = e'.elT /\ e.size = e'.size /\ e.n = e'.n /\ e.own = e'.own /\ e.dead = e'.dead /\ ∀ i, i < e.n -> e.el i = e'.el i
def sameL : List LE -> List LE -> Prop
 | [], [] => True
 | e :: r, e' :: r' => sameE e e' /\ sameL r r'
 | _, _ => False
theorem sameE.refl (e : LE) : sameE e e := ⟨rfl, rfl, rfl, rfl, rfl, fun _ _ => rfl⟩
theorem sameL.refl : ∀ (l : List LE), sameL l l
 | [] => trivial
 | e :: r => ⟨.refl e, sameL.refl r⟩
theorem sameL_len : ∀ {l l' : List LE}, sameL l l' -> l.length = l'.length
 | [], [], _ => rfl
 | e :: r, e2 :: r', h => by simp [sameL_len h.2]
 | [], _ :: _, h => h.elim
 | _ :: _, [], h => h.elim
theorem sameL_get : ∀ {l l' : List LE}, sameL l l' -> ∀ (k : Nat) (e' : LE), l'[k]? = some e' -> ∃ e, l[k]? = some e /\ sameE e e'
 | [], [], _, k, e', h => by simp at h
 | e :: r, e2 :: r', h, k, e', hk => by
   cases k with
   | zero => simp at hk; subst hk; exact ⟨e, by simp, h.1⟩
   | succ k => simp at hk ⊢; exact sameL_get h.2 k e' hk
 | [], _ :: _, h, _, _, _ => h.elim
 | _ :: _, [], h, _, _, _ => h.elim
theorem InB.same {B : Nat} {w : World} {e e' : LE} {v : Value} (h : InB B w e v) (hs : sameE e e') : InB B w e' v := by
 obtain ⟨_, h2, h3, _, _, h6⟩ := hs
 obtain ⟨⟨hw1, hw2⟩, a, cap, hv, hle, hc⟩ := h
 refine ⟨⟨by rw [<- h2]; exact hw1, fun j hj => by rw [<- h6 j (by rw [h3]; exact hj), <- h2]; exact hw2 j (by rw [h3]; exact hj)⟩, a, cap, by rw [<- h3]; exact hv, by rw [<- h3]; exact hle, fun hn => ?_⟩
 obtain ⟨b, off, ha, hb, hcell⟩ := hc (by rw [h3]; exact hn)
 exact ⟨b, off, ha, hb, fun j hj o c hoc => by rw [<- h2]; exact hcell j (by rw [h3]; exact hj) o c (by rw [h6 j (by rw [h3]; exact hj)]; exact hoc)⟩
theorem OwnB.same {B : Nat} {w : World} {e e' : LE} {v : Value} (h : OwnB B w e v) (hs : sameE e e') : OwnB B w e' v := by
 obtain ⟨h1, h2, h3, _, _, h6⟩ := hs
 obtain ⟨⟨hw1, hw2⟩, hrow⟩ := h
 refine ⟨⟨by rw [<- h2]; exact hw1, fun j hj => by rw [<- h6 j (by rw [h3]; exact hj), <- h2]; exact hw2 j (by rw [h3]; exact hj)⟩, ?_⟩
 have hf : e.flat = e'.flat := by
   unfold LE.flat
   rw [h3]
   unfold List.flatMap
   congr 1
   exact List.map_congr_left fun i hi => h6 i (by rw [h3]; exact List.mem_range.mp hi)
 rw [<- hf, <- h1, <- h2, <- h3]; exact hrow
theorem WR.alike {w0 : Base} {ν : Nu} {own own' : Mem} {mem : Bool} {w : World} (h : WR w0 ν own mem w) (hb : own.b = own'.b) (hl : sameL own.l own'.l) : WR w0 ν own' mem w := by
 refine ⟨h.below, fun i b hi => h.blk i b (by rw [hb]; exact hi), by rw [<- hb, <- sameL_len hl]; exact h.okb, fun i j hi hj => h.inj i j (by rw [hb]; exact hi) (by rw [hb]; exact hj), fun k e' hk hd => ?_, fun k e' hk hd ho g hg => ?_, h.same, ⟨h.fr.here, fun i hi => h.fr.offb i (by rw [hb]; exact hi), fun k e' hk hd ho g hg => by
   obtain ⟨e, he, hs⟩ := sameL_get hl k e' hk
   exact h.fr.offl k e he (by rw [hs.2.2.2.2.1]; exact hd) (by rw [hs.2.2.2.1]; exact ho) g hg⟩⟩
 . obtain ⟨e, he, hs⟩ := sameL_get hl k e' hk
   have hd0 : e.dead = false := by rw [hs.2.2.2.2.1]; exact hd
   have := h.lst k e he hd0
   unfold LOk at *
   rw [<- hs.2.2.2.1]
   cases ho : e.own
   . rw [ho] at this; exact InB.same this hs
   . rw [ho] at this; exact OwnB.same this hs
 . obtain ⟨e, he, hs⟩ := sameL_get hl k e' hk
   obtain ⟨s1, s2⟩ := h.sep k e he (by rw [hs.2.2.2.2.1]; exact hd) (by rw [hs.2.2.2.1]; exact ho) g hg
   refine ⟨fun i hi => s1 i (by rw [hb]; exact hi), fun k' e2 hk' hd' ho' hne => ?_⟩
   obtain ⟨e3, he3, hs3⟩ := sameL_get hl k' e2 hk'
   exact s2 k' e3 he3 (by rw [hs3.2.2.2.2.1]; exact hd') (by rw [hs3.2.2.2.1]; exact ho') hne
theorem SemA.same {E : Env} {w0 : Base} {nb nl n : Nat} {c : Code} {s s1 s2 : St} {x : X} (h : SemA E w0 nb nl n c s x s1) (h1 : s1.tmps = s2.tmps) (h2 : s1.own.b = s2.own.b) (h3 : sameL s1.own.l s2.own.l) (h4 : s2.mem = s1.mem) : SemA E w0 nb nl n c s x s2 := fun Q ν a w ht hw hQ =>
 h Q ν a w ht hw fun ν' a' w' ha ht' hw' => hQ ν' a' w' ha (ht'.of h1.symm) (by rw [h4]; exact hw'.alike h2 h3)
theorem SemA.alike {E : Env} {w0 : Base} {nb nl n : Nat} {c : Code} {s1 s2 s' : St} {x : X} (h : SemA E w0 nb nl n c s1 x s') (h1 : s1.tmps = s2.tmps) (h2 : s2.own.b = s1.own.b) (h3 : sameL s2.own.l s1.own.l) (h4 : s1.mem = s2.mem) : SemA E w0 nb nl n c s2 x s' := fun Q ν a w ht hw hQ =>
 h Q ν a w (ht.of h1) (by rw [h4]; exact hw.alike h2 h3) hQ
theorem sem_loop {E : Env} {w0 : Base} {nb nl n : Nat} {c : Code} {x : X} {s' : St} (S : Nat -> St) (N : Nat) (hx : x ≠ none) (body : ∀ j, j < N -> SemA E w0 nb nl n c (S j) none (S (j + 1))) (last : SemA E w0 nb nl n c (S N) x s') : SemA E w0 nb nl n (.loop c) (S 0) x s' := fun Q ν a w ht hw hQ => by
 refine wp_loop_rounds (N + 1) ?_
 have key : ∀ k j, j + k = N -> ∀ ν1 a w, Agree nb nl ν ν1 -> TR n ν1 (S j) a -> WR w0 ν1 (S j).own (S j).mem w -> Code.rounds E.P c Q (k + 1) a w := by
   intro k
   induction k with
   | zero =>
     intro j hj ν1 a w ha ht hw
     obtain rfl : j = N := by omega
     rw [rounds_succ]
     refine last _ ν1 a w ht hw fun ν' a' w' ha' ht' hw' => ?_
     have ha2 := Agree.trans ha ha' (Nat.le_refl _) (Nat.le_refl _)
     rcases x with _ | _ | i
     . exact absurd rfl hx
     . exact hQ ν' a' w' ha2 ht' hw'
     . exact hQ ν' a' w' ha2 ht' hw'
   | succ k ih =>
     intro j hj ν1 a w ha ht hw
     rw [rounds_succ]
     exact body j (by omega) _ ν1 a w ht hw fun ν' a' w' ha' ht' hw' => ih (j + 1) (by omega) ν' a' w' (Agree.trans ha ha' (Nat.le_refl _) (Nat.le_refl _)) ht' hw'
 exact key N 0 (by omega) ν a w (.refl _ _ _) ht hw
noncomputable def iter (E : Env) (fuel n : Nat) (c : Code) (p : Pick) (orc : List Bool) (s : St) : Option (X × St × List (Bool × Bool)) := match simC E fuel n c { s with orc := orc, obl := [] } with
 | some (x, s') => match pickS p s' with
   | some s2 => some (x, s2, s'.obl)
   | none => none
 | none => none
def goodB (s : St) : Bool := Nat.ble s.lo s.own.b.length && Nat.ble s.llo s.own.l.length && (s.tmps.all fun p => okVB s.own.b.length s.own.l.length p.2) && s.own.b.all fun b => b.cells.all (okVB s.own.b.length s.own.l.length)
theorem goodB_ok {s : St} (h : goodB s = true) : Good s := by
 unfold goodB at h
 simp only [Bool.and_eq_true, List.all_eq_true] at h
 exact ⟨Nat.le_of_ble_eq_true h.1.1.1, Nat.le_of_ble_eq_true h.1.1.2, fun p hp => okVB_ok (h.1.2 p hp), fun i b hi c hc => okVB_ok (h.2 b (List.mem_of_getElem? hi) c hc)⟩
theorem semA_iter {E : Env} (HC : CallOk E) {w0 : Base} (hG : GlobB E w0) {nb nl fuel n : Nat} {c : Code} {p : Pick} {s s' : St} {x : X} (orc : List Bool) (l : List (Bool × Bool)) (hg : (goodB s && Nat.ble nb s.own.b.length && Nat.ble nl s.own.l.length && prefB nb p.bs && prefB nl p.ls) = true) (h : iter E fuel n c p orc s = some (x, s', l)) (hl : ∀ p ∈ l, p.1 = p.2) : SemA E w0 nb nl n c s x s' := by
 simp only [Bool.and_eq_true] at hg
 obtain ⟨⟨⟨⟨hg, hb1⟩, hl1⟩, hb2⟩, hl2⟩ := hg
 have hD : Deep nb nl s := ⟨Nat.le_of_ble_eq_true hb1, Nat.le_of_ble_eq_true hl1⟩
 unfold iter at h
 split at h
 . rename_i x1 s1 h1
   split at h
   . rename_i s2 h2
     simp only [qS, qP] at h
     obtain ⟨rfl, rfl, rfl⟩ := h
     have g := goodB_ok hg
     have := sem_runA HC hG (s := { s with orc := orc, obl := [] }) ⟨hD.b, hD.l⟩ ⟨g.lo, g.llo, g.ok, g.okb⟩ h1 hl
     have h3 : SemA E w0 nb nl n c s x1 s1 := SemA.of (t := s) this rfl rfl rfl rfl rfl rfl
     obtain ⟨k1, k2⟩ := simC_st E fuel n c { s with orc := orc, obl := [] } x1 s1 ⟨g.lo, g.llo, g.ok, g.okb⟩ h1
     exact h3.post ⟨Nat.le_trans hD.b k1.len, Nat.le_trans hD.l k1.llen⟩ hb2 hl2 h2 k2
   . cases h
 . cases h
theorem sem_iter {E : Env} (HC : CallOk E) {w0 : World} (hG : Glob E w0) {fuel n : Nat} {c : Code} {p : Pick} {s s' : St} {x : X} (orc : List Bool) (l : List (Bool × Bool)) (hg : goodB s = true) (h : iter E fuel n c p orc s = some (x, s', l)) (hl : ∀ p ∈ l, p.1 = p.2) : Sem E w0 n c s x s' :=
 semA_iter HC (.of hG) orc l (by rw [hg]; rfl) h hl
structure Stop where
 path : List Nat
 pick : Pick
 x : X
 s : St
structure Told where
 c : Code
 s : St
 x : X
 s' : St
def pathB : List Nat -> List Nat -> Bool
 | [], [] => true
 | x :: r, y :: t => Nat.beq x y && pathB r t
 | _, _ => false
def opens (p q : List Nat) : Bool := pathB p (q.drop (q.length - p.length)) && Nat.ble p.length q.length
abbrev Out := X × St × List Stop × List Told
noncomputable def simP (E : Env) (fuel n : Nat) : Nat -> List Stop -> List Nat -> Code -> St -> Option Out
 | 0, _, _, _, _ => none
 | d + 1, plan, path, c, s =>
   match plan with
   | [] => match simC E fuel n c s with
     | some (x, s') => some (x, s', [], [])
     | none => none
   | st :: rest => bif pathB path st.path then
       (match pickS st.pick s with
       | some s1 => bif goodB st.s then some (st.x, { st.s with obl := s.obl, orc := s.orc, lo := 0, llo := 0 }, rest, [⟨c, s1, st.x, st.s⟩]) else none
       | none => none)
     else bif opens path st.path then
       (match c with
       | .seq x y => match simP E fuel n d plan (0 :: path) x s with
         | some (none, s', plan', tr) => match simP E fuel n d plan' (1 :: path) y s' with
           | some (e, s2, plan2, tr2) => some (e, s2, plan2, tr ++ tr2)
           | none => none
         | r => r
       | .cond b x y => match ev s b with
         | .inl (fl, (.bool v)) => match askC s b fl v with
           | (true, s') => simP E fuel n d plan (0 :: path) x s'
           | (false, s') => simP E fuel n d plan (1 :: path) y s'
         | _ => none
       | .block id x => match simP E fuel n d plan (0 :: path) x s with
         | some (some (some i), s', plan', tr) => bif Nat.beq i id then some (none, s', plan', tr) else some (some (some i), s', plan', tr)
         | r => r
       | .scope x => simP E fuel n d plan (0 :: path) x s
       | _ => none)
     else (match simC E fuel n c s with
       | some (x, s') => some (x, s', plan, [])
       | none => none)
def okStop (nb nl : Nat) (st : Stop) : Bool := prefB nb st.pick.bs && prefB nl st.pick.ls && Nat.ble nb st.s.own.b.length && Nat.ble nl st.s.own.l.length
theorem okStop_zero (plan : List Stop) : ∀ st ∈ plan, okStop 0 0 st = true := fun st _ => rfl
theorem simP_okA {E : Env} (HC : CallOk E) {w0 : Base} (hG : GlobB E w0) {nb nl fuel n : Nat} : ∀ (d : Nat) (plan : List Stop) (path : List Nat) (c : Code) (s : St) (x : X) (s' : St) (plan' : List Stop) (tr : List Told),
   Good s -> Deep nb nl s -> (∀ st ∈ plan, okStop nb nl st = true) -> simP E fuel n d plan path c s = some (x, s', plan', tr) -> (∀ p ∈ s.obl, p ∈ s'.obl) /\ Good s' /\ (Deep nb nl s' /\ ∀ st ∈ plan', okStop nb nl st = true) /\ (Holds' s' -> (∀ t ∈ tr, SemA E w0 nb nl n t.c t.s t.x t.s') -> SemA E w0 nb nl n c s x s')
 | 0, _, _, _, _, _, _, _, _, _, _, _, h => by simp [simP] at h
 | d + 1, plan, path, c, s, x, s', plan', tr, hg, hD, hP, h => by
   have run : ∀ {x s'} (plan' : List Stop), (∀ st ∈ plan', okStop nb nl st = true) -> simC E fuel n c s = some (x, s') -> (∀ p ∈ s.obl, p ∈ s'.obl) /\ Good s' /\ (Deep nb nl s' /\ ∀ st ∈ plan', okStop nb nl st = true) /\ (Holds' s' -> (∀ t ∈ tr, SemA E w0 nb nl n t.c t.s t.x t.s') -> SemA E w0 nb nl n c s x s') := fun {x s'} plan' hP' h1 => by
     obtain ⟨l1, g1⟩ := simC_st E fuel n c s x s' hg h1
     exact ⟨l1.ext, g1, ⟨⟨Nat.le_trans hD.b l1.len, Nat.le_trans hD.l l1.llen⟩, hP'⟩, fun hh _ => sem_runA HC hG hD hg h1 hh⟩
   unfold simP at h
   split at h
   . split at h
     . rename_i x1 s1 h1
       simp only [qS, qP] at h
       obtain ⟨rfl, rfl, rfl, rfl⟩ := h
       exact run [] (fun st hst => by cases hst) h1
     . cases h
   . rename_i st rest
     cases hpb : pathB path st.path
     . rw [hpb] at h
       simp only [cond_false] at h
       cases hop : opens path st.path
       . rw [hop] at h
         simp only [cond_false] at h
         split at h
         . rename_i x1 s1 h1
           simp only [qS, qP] at h
           obtain ⟨rfl, rfl, rfl, rfl⟩ := h
           exact run _ hP h1
         . cases h
       . rw [hop] at h
         simp only [cond_true] at h
         split at h
         . rename_i c1 c2
           split at h
           . rename_i s1 plan1 tr1 h1
             obtain ⟨e1, g1, D1, k1⟩ := simP_okA HC hG d _ _ _ _ _ _ _ _ hg hD hP h1
             split at h
             . rename_i e s2 plan2 tr2 h2
               simp only [qS, qP] at h
               obtain ⟨rfl, rfl, rfl, rfl⟩ := h
               obtain ⟨e2, g2, D2, k2⟩ := simP_okA HC hG d _ _ _ _ _ _ _ _ g1 D1.1 D1.2 h2
               refine ⟨fun p hp => e2 p (e1 p hp), g2, D2, fun hh htr => ?_⟩
               have m1 := k1 (fun p hp => hh p (e2 p hp)) (fun t ht => htr t (List.mem_append_left _ ht))
               have m2 := k2 hh (fun t ht => htr t (List.mem_append_right _ ht))
               exact fun Q ν a w ht hw hQ => wp_seq (m1 _ ν a w ht hw fun ν' a' w' ha ht' hw' => m2 Q ν' a' w' ht' hw' fun ν2 a2 w2 ha2 => hQ ν2 a2 w2 (Agree.trans ha ha2 (Nat.le_refl _) (Nat.le_refl _)))
             . cases h
           . rename_i hne
             obtain ⟨e1, g1, D1, k1⟩ := simP_okA HC hG d _ _ _ _ _ _ _ _ hg hD hP h
             refine ⟨e1, g1, D1, fun hh htr => ?_⟩
             have m1 := k1 hh htr
             refine fun Q ν a w ht hw hQ => wp_seq (m1 _ ν a w ht hw fun ν' a' w' ha ht' hw' => ?_)
             rcases x with _ | _ | i
             . exact absurd h (hne _ _ _)
             . exact hQ _ _ _ ha ht' hw'
             . exact hQ _ _ _ ha ht' hw'
         . rename_i b c1 c2
           split at h
           . rename_i fl v hev
             split at h
             . rename_i s1 hask
               obtain ⟨b1, b2, b3, b4, b5⟩ := askC_ok (n := n) hev hask
               obtain ⟨e1, g1, D1, k1⟩ := simP_okA HC hG d _ _ _ _ _ _ _ _ (b4 hg) ⟨by rw [b2]; exact hD.b, by rw [b2]; exact hD.l⟩ hP h
               refine ⟨fun p hp => e1 p (b1.ext p hp), g1, D1, fun hh htr => ?_⟩
               obtain ⟨hb, ht1⟩ := b5 (fun p hp => hh p (e1 p hp))
               exact fun Q ν a w ht hw hQ => wp_cond_true (by rw [eval_v ht hev, hb]) (k1 hh htr Q ν a w (ht1 ν a ht) (by rw [b2, b3]; exact hw) hQ)
             . rename_i s1 hask
               obtain ⟨b1, b2, b3, b4, b5⟩ := askC_ok (n := n) hev hask
               obtain ⟨e1, g1, D1, k1⟩ := simP_okA HC hG d _ _ _ _ _ _ _ _ (b4 hg) ⟨by rw [b2]; exact hD.b, by rw [b2]; exact hD.l⟩ hP h
               refine ⟨fun p hp => e1 p (b1.ext p hp), g1, D1, fun hh htr => ?_⟩
               obtain ⟨hb, ht1⟩ := b5 (fun p hp => hh p (e1 p hp))
               exact fun Q ν a w ht hw hQ => wp_cond_false (by rw [eval_v ht hev, hb]) (k1 hh htr Q ν a w (ht1 ν a ht) (by rw [b2, b3]; exact hw) hQ)
           . cases h
         . rename_i id c1
           split at h
           . rename_i i s1 plan1 tr1 h1
             obtain ⟨e1, g1, D1, k1⟩ := simP_okA HC hG d _ _ _ _ _ _ _ _ hg hD hP h1
             cases hb : Nat.beq i id
             . rw [hb] at h
               simp only [cond_false, qS, qP] at h
               obtain ⟨rfl, rfl, rfl, rfl⟩ := h
               have hne : i ≠ id := fun e => by rw [e] at hb; simp at hb
               refine ⟨e1, g1, D1, fun hh htr Q ν a w ht hw hQ => wp_block (k1 hh htr _ ν a w ht hw fun ν' a' w' ha ht' hw' => ?_)⟩
               simp only [X.toExit, Exit.inBlock, if_neg hne]
               exact hQ _ _ _ ha ht' hw'
             . rw [hb] at h
               simp only [cond_true, qS, qP] at h
               obtain ⟨rfl, rfl, rfl, rfl⟩ := h
               have heq : i = id := qB hb
               refine ⟨e1, g1, D1, fun hh htr Q ν a w ht hw hQ => wp_block (k1 hh htr _ ν a w ht hw fun ν' a' w' ha ht' hw' => ?_)⟩
               simp only [X.toExit, Exit.inBlock, if_pos heq]
               exact hQ _ _ _ ha ht' hw'
           . rename_i hne
             obtain ⟨e1, g1, D1, k1⟩ := simP_okA HC hG d _ _ _ _ _ _ _ _ hg hD hP h
             refine ⟨e1, g1, D1, fun hh htr Q ν a w ht hw hQ => wp_block (k1 hh htr _ ν a w ht hw fun ν' a' w' ha ht' hw' => ?_)⟩
             rcases x with _ | _ | i
             . exact hQ _ _ _ ha ht' hw'
             . exact hQ _ _ _ ha ht' hw'
             . exact absurd h (hne _ _ _ _)
         . obtain ⟨e1, g1, D1, k1⟩ := simP_okA HC hG d _ _ _ _ _ _ _ _ hg hD hP h
           refine ⟨e1, g1, D1, fun hh htr Q ν a w ht hw hQ => wp_scope_straight (k1 hh htr _ ν a w ht hw fun ν' a' w' ha ht' hw' => ?_)⟩
           rcases x with _ | _ | i
           . exact hQ _ _ _ ha ht' hw'
           . exact hQ _ _ _ ha ht' hw'
           . exact hQ _ _ _ ha ht' hw'
         . cases h
     . rw [hpb] at h
       simp only [cond_true] at h
       split at h
       . rename_i s1 hp
         cases hgb : goodB st.s
         . rw [hgb] at h; cases h
         . rw [hgb] at h
           simp only [cond_true, qS, qP] at h
           obtain ⟨rfl, rfl, rfl, rfl⟩ := h
           have g := goodB_ok hgb
           have ho := hP st List.mem_cons_self
           unfold okStop at ho
           simp only [Bool.and_eq_true] at ho
           refine ⟨fun p hp => hp, ⟨Nat.zero_le _, Nat.zero_le _, g.ok, g.okb⟩, ⟨⟨Nat.le_of_ble_eq_true ho.1.2, Nat.le_of_ble_eq_true ho.2⟩, fun st' hst' => hP st' (List.mem_cons_of_mem _ hst')⟩, fun hh htr => ?_⟩
           have := htr ⟨c, s1, st.x, st.s⟩ (by simp)
           exact (this.pre hD ho.1.1.1 ho.1.1.2 hp hg).of rfl rfl rfl rfl rfl rfl
       . cases h
end Go.Proofs.Ytmaffamhjmlonaa.S2
namespace Go.Proofs.Ytmaffamhjmlonaa.S2
open Go Go.RowKit Sim
def initC (fl : List Bool) : Nat -> Nat -> List (Sum Value LE) -> List CV × List LE
 | _, _, [] => ([], [])
 | k, m, .inl v :: r => (.v [(fl[k]?).getD false] v :: (initC fl (k + 1) m r).1, (initC fl (k + 1) m r).2)
 | k, m, .inr e :: r => (.l m :: (initC fl (k + 1) (m + 1) r).1, { e with own := false, dead := false } :: (initC fl (k + 1) (m + 1) r).2)
def initX (fls : List (List Bool)) : Nat -> Nat -> List XV -> List SV × List LE
 | _, _, [] => ([], [])
 | i, m, .inl v :: r => (.inl ((fls[i]?).getD [], v) :: (initX fls (i + 1) m r).1, (initX fls (i + 1) m r).2)
 | i, m, .inr e :: r => (.c m :: (initX fls (i + 1) (m + 1) r).1, { e with own := false, dead := false } :: (initX fls (i + 1) (m + 1) r).2)
 | i, m, .st cs :: r => (.st (initC ((fls[i]?).getD []) 0 m cs).1 :: (initX fls (i + 1) (m + (initC ((fls[i]?).getD []) 0 m cs).2.length) r).1, (initC ((fls[i]?).getD []) 0 m cs).2 ++ (initX fls (i + 1) (m + (initC ((fls[i]?).getD []) 0 m cs).2.length) r).2)
def notSl : Value -> Bool
 | .slice _ _ _ => false
 | _ => true
def outK (s : St) (ks0 : List Nat) : List CV -> Option (List (Sum Value LE) × List Nat)
 | [] => some ([], ks0)
 | .v _ v :: r => bif notSl v then (match outK s ks0 r with
   | some (l, ks) => some (.inl v :: l, ks)
   | none => none) else none
 | .l k :: r => match getL s k, outK s ks0 r with
   | some e, some (l, ks) => bif e.own && !(ks.any fun y => Nat.beq k y) then some (.inr e :: l, k :: ks) else none
   | _, _ => none
 | .a _ _ :: _ => none
def cvT : TV -> List CV
 | .inl (fl, v) => [.v fl v]
 | .inr k => [.l k]
 | .st cs => cs
def mkX : TV -> List (Sum Value LE) -> Option XV
 | .inl _, [.inl v] => some (.inl v)
 | .inr _, [.inr e] => some (.inr e)
 | .st _, l => some (.st l)
 | _, _ => none
def outT (s : St) : List TV -> Option (List XV × List Nat)
 | [] => some ([], [])
 | x :: r => match outT s r with
   | some (l, ks) => match outK s ks (cvT x) with
     | some (c, ks') => match mkX x c with
       | some y => some (y :: l, ks')
       | none => none
     | none => none
   | none => none
def outS (s : St) : SV -> Option (Bool × List XV)
 | .inl (_, v) => some (false, [.inl v])
 | .c k => match outT s [.inr k] with
   | some (l, _) => some (false, l)
   | none => none
 | .tp l => match outT s l with
   | some (l, _) => some (true, l)
   | none => none
 | .st cs => match outT s [.st cs] with
   | some (l, _) => some (false, l)
   | none => none
 | _ => none
abbrev Res := Bool × List XV × List (Bool × Bool) × List Told
noncomputable def simF (E : Env) (fuel d : Nat) (plan : List Stop) (orc : List Bool) (f : FuncId) (fls : List (List Bool)) (args : List XV) : Option Res :=
 match E.P.funcs[f]? with
 | some fn => match fn.body with
   | some c => match simP E fuel (args.length + (fn.ntmps - args.length)) d plan [] c { tmps := initS 0 (initX fls 0 0 args).1, own := ⟨[], (initX fls 0 0 args).2⟩, lo := 0, llo := (initX fls 0 0 args).2.length, mem := false, orc := orc, obl := [] } with
     | some (x, s', [], tr) => bif (match x with | some (some _) => false | _ => true) then (match simRes E.P fn s' with
       | some r => match outS s' r with
         | some (tup, res) => some (tup, res, s'.obl, tr)
         | none => none
       | none => none) else none
     | _ => none
   | none => none
 | none => none
def listValsC : List (Sum Value LE) -> List Value -> List Value
 | .inl _ :: r, _ :: vs => listValsC r vs
 | .inr _ :: r, v :: vs => v :: listValsC r vs
 | _, _ => []
def listVals : List XV -> List Value -> List Value
 | .inl _ :: r, _ :: vs => listVals r vs
 | .inr _ :: r, v :: vs => v :: listVals r vs
 | .st cs :: r, v :: vs => listValsC cs v.cells.toList ++ listVals r vs
 | _, _ => []
theorem initC_ok {fl : List Bool} {w : World} {ν : Nu} : ∀ (cs : List (Sum Value LE)) (us : List Value) (k m : Nat), CellsOk w cs us -> (∀ (j : Nat) v, (listValsC cs us)[j]? = some v -> ν.v (m + j) = v) ->
   (initC fl k m cs).1.map (concC ν) = us /\ (∀ (j : Nat) e, (initC fl k m cs).2[j]? = some e -> e.own = false /\ InB w.heap.size w e (ν.v (m + j))) /\ (∀ y ∈ (initC fl k m cs).1, okC 0 (m + (initC fl k m cs).2.length) y) /\ (initC fl k m cs).2.length = (listValsC cs us).length
 | [], [], k, m, _, _ => ⟨rfl, fun j e h => by simp [initC] at h, fun y hy => by simp [initC] at hy, rfl⟩
 | [], _ :: _, _, _, h, _ => h.elim
 | .inl x :: r, [], _, _, h, _ => h.elim
 | .inr e :: r, [], _, _, h, _ => h.elim
 | .inl x :: r, v :: vs, k, m, h, hν => by
   obtain ⟨h1, h2, h3, h4⟩ := initC_ok (fl := fl) r vs (k + 1) m h.2 hν
   refine ⟨?_, h2, fun y hy => ?_, h4⟩
   . show x :: (initC fl (k + 1) m r).1.map (concC ν) = _
     rw [h1, show v = x from h.1]
   . rcases List.mem_cons.mp (show y ∈ .v [(fl[k]?).getD false] x :: (initC fl (k + 1) m r).1 from hy) with rfl | hy
     . trivial
     . exact h3 y hy
 | .inr e :: r, v :: vs, k, m, h, hν => by
   obtain ⟨h1, h2, h3, h4⟩ := initC_ok (fl := fl) (ν := ν) r vs (k + 1) (m + 1) h.2 (fun j u hj => by
     have := hν (j + 1) u (by simpa [listValsC] using hj)
     rw [<- this]; congr 1; omega)
   have hv : ν.v m = v := hν 0 v rfl
   refine ⟨?_, fun j e' hj => ?_, fun y hy => ?_, ?_⟩
   . show ν.v m :: (initC fl (k + 1) (m + 1) r).1.map (concC ν) = _
     rw [h1, hv]
   . cases j with
     | zero =>
       have : e' = { e with own := false, dead := false } := by
         have : some ({ e with own := false, dead := false } : LE) = some e' := hj
         simpa using this.symm
       subst this
       refine ⟨rfl, ?_⟩
       rw [Nat.add_zero, hv]; exact h.1
     | succ j =>
       obtain ⟨k1, k2⟩ := h2 j e' hj
       exact ⟨k1, by rw [show m + (j + 1) = m + 1 + j by omega]; exact k2⟩
   . rcases List.mem_cons.mp (show y ∈ .l m :: (initC fl (k + 1) (m + 1) r).1 from hy) with rfl | hy
     . show m < m + ((initC fl (k + 1) (m + 1) r).2.length + 1); omega
     . exact (h3 y hy).mono (Nat.le_refl _) (by show m + 1 + _ <= m + ((initC fl (k + 1) (m + 1) r).2.length + 1); omega)
   . show (initC fl (k + 1) (m + 1) r).2.length + 1 = (listValsC r vs).length + 1
     rw [h4]
theorem initX_ok {fls : List (List Bool)} {w : World} {ν : Nu} : ∀ (args : List XV) (vals : List Value) (i m : Nat), ArgsOk w args vals -> (∀ (j : Nat) v, (listVals args vals)[j]? = some v -> ν.v (m + j) = v) ->
   IsL ν (initX fls i m args).1 vals /\ (∀ (j : Nat) e, (initX fls i m args).2[j]? = some e -> e.own = false /\ InB w.heap.size w e (ν.v (m + j))) /\ (∀ y ∈ (initX fls i m args).1, okV 0 (m + (initX fls i m args).2.length) y) /\ (initX fls i m args).1.length = args.length
 | [], [], i, m, _, _ => ⟨trivial, fun j e h => by simp [initX] at h, fun y hy => by simp [initX] at hy, rfl⟩
 | [], _ :: _, _, _, h, _ => h.elim
 | .inl x :: r, [], _, _, h, _ => h.elim
 | .inr e :: r, [], _, _, h, _ => h.elim
 | .st cs :: r, [], _, _, h, _ => h.elim
 | .st cs :: r, v :: vs, i, m, h, hν => by
   obtain ⟨⟨us, rfl, hc⟩, hr⟩ := h
   have hcells : (Value.agg us.toArray).cells.toList = us := rfl
   obtain ⟨c1, c2, c3, c4⟩ := initC_ok (fl := (fls[i]?).getD []) (ν := ν) cs us 0 m hc (fun j u hj => hν j u (by
     show (listValsC cs us ++ listVals r vs)[j]? = some u
     rw [List.getElem?_append_left (lt_of_some_list hj)]; exact hj))
   obtain ⟨h1, h2, h3, h4⟩ := initX_ok (fls := fls) (ν := ν) r vs (i + 1) (m + (initC ((fls[i]?).getD []) 0 m cs).2.length) hr (fun j u hj => by
     have := hν ((listValsC cs us).length + j) u (by
       show (listValsC cs us ++ listVals r vs)[_]? = some u
       rw [List.getElem?_append_right (by omega), Nat.add_sub_cancel_left]; exact hj)
     rw [<- this, c4]; congr 1; omega)
   refine ⟨⟨?_, h1⟩, fun j e' hj => ?_, fun y hy => ?_, ?_⟩
   . show Value.agg us.toArray = .agg ((initC ((fls[i]?).getD []) 0 m cs).1.map (concC ν)).toArray
     rw [c1]
   . have hj : ((initC ((fls[i]?).getD []) 0 m cs).2 ++ (initX fls (i + 1) (m + (initC ((fls[i]?).getD []) 0 m cs).2.length) r).2)[j]? = some e' := hj
     rcases Nat.lt_or_ge j (initC ((fls[i]?).getD []) 0 m cs).2.length with hl | hl
     . rw [List.getElem?_append_left hl] at hj; exact c2 j e' hj
     . rw [List.getElem?_append_right hl] at hj
       obtain ⟨k1, k2⟩ := h2 _ e' hj
       exact ⟨k1, by rw [show m + j = m + (initC ((fls[i]?).getD []) 0 m cs).2.length + (j - (initC ((fls[i]?).getD []) 0 m cs).2.length) by omega]; exact k2⟩
   . have hle : m + ((initC ((fls[i]?).getD []) 0 m cs).2 ++ (initX fls (i + 1) (m + (initC ((fls[i]?).getD []) 0 m cs).2.length) r).2).length = m + (initC ((fls[i]?).getD []) 0 m cs).2.length + (initX fls (i + 1) (m + (initC ((fls[i]?).getD []) 0 m cs).2.length) r).2.length := by rw [List.length_append]; omega
     show okV 0 (m + ((initC ((fls[i]?).getD []) 0 m cs).2 ++ (initX fls (i + 1) (m + (initC ((fls[i]?).getD []) 0 m cs).2.length) r).2).length) y
     rw [hle]
     rcases List.mem_cons.mp (show y ∈ .st (initC ((fls[i]?).getD []) 0 m cs).1 :: (initX fls (i + 1) (m + (initC ((fls[i]?).getD []) 0 m cs).2.length) r).1 from hy) with rfl | hy
     . exact fun c hc => (c3 c hc).mono (Nat.le_refl _) (by omega)
     . exact h3 y hy
   . show ((initX fls (i + 1) (m + (initC ((fls[i]?).getD []) 0 m cs).2.length) r).1.length + 1) = _
     rw [h4]; rfl
 | .inl x :: r, v :: vs, i, m, h, hν => by
   obtain ⟨h1, h2, h3, h4⟩ := initX_ok (fls := fls) r vs (i + 1) m h.2 hν
   refine ⟨⟨h.1, h1⟩, h2, fun y hy => ?_, ?_⟩
   . rcases List.mem_cons.mp (show y ∈ .inl ((fls[i]?).getD [], x) :: (initX fls (i + 1) m r).1 from hy) with rfl | hy
     . trivial
     . exact h3 y hy
   . show ((initX fls (i + 1) m r).1.length + 1) = _
     rw [h4]; rfl
 | .inr e :: r, v :: vs, i, m, h, hν => by
   obtain ⟨h1, h2, h3, h4⟩ := initX_ok (fls := fls) (ν := ν) r vs (i + 1) (m + 1) h.2 (fun j u hj => by
     have := hν (j + 1) u (by simpa [listVals] using hj)
     rw [<- this]; congr 1; omega)
   have hv : ν.v m = v := hν 0 v rfl
   refine ⟨⟨hv.symm, h1⟩, fun j e' hj => ?_, fun y hy => ?_, ?_⟩
   . cases j with
     | zero =>
       have : e' = { e with own := false, dead := false } := by
         have : some ({ e with own := false, dead := false } : LE) = some e' := hj
         simpa using this.symm
       subst this
       refine ⟨rfl, ?_⟩
       rw [Nat.add_zero, hv]; exact h.1
     | succ j =>
       obtain ⟨k1, k2⟩ := h2 j e' hj
       exact ⟨k1, by rw [show m + (j + 1) = m + 1 + j by omega]; exact k2⟩
   . rcases List.mem_cons.mp (show y ∈ .c m :: (initX fls (i + 1) (m + 1) r).1 from hy) with rfl | hy
     . show m < m + ((initX fls (i + 1) (m + 1) r).2.length + 1); omega
     . exact (h3 y hy).mono (Nat.le_refl _) (by show m + 1 + _ <= m + ((initX fls (i + 1) (m + 1) r).2.length + 1); omega)
   . show ((initX fls (i + 1) (m + 1) r).1.length + 1) = _
     rw [h4]; rfl
def Given (s : St) (ν : Nu) (us : List Value) (ks : List Nat) : Prop := ∀ u ∈ us, ∀ g, u.ownBlock = some g -> ∃ k ∈ ks, ν.v k = u /\ ∃ e, s.own.l[k]? = some e /\ e.dead = false /\ e.own = true
theorem outK_ok {s : St} {w0 : Base} {w : World} {ν : Nu} {mem : Bool} (hw : WR w0 ν s.own mem w) {ks0 : List Nat} {c0 : List (Sum Value LE)} {us0 : List Value} (h0 : CellsOut w0.heap.size w c0 us0) (g0 : Given s ν us0 ks0) :
   ∀ (l : List CV) (c : List (Sum Value LE)) (ks : List Nat), outK s ks0 l = some (c, ks) -> CellsOut w0.heap.size w (c ++ c0) (l.map (concC ν) ++ us0) /\ Given s ν (l.map (concC ν) ++ us0) ks /\ c.length = l.length
 | [], c, ks, h => by simp only [outK, qS, qP] at h; obtain ⟨rfl, rfl⟩ := h; exact ⟨h0, g0, rfl⟩
 | .v fl v :: r, c, ks, h => by
   unfold outK at h
   cases hn : notSl v
   . rw [hn] at h; cases h
   . rw [hn] at h
     simp only [cond_true] at h
     split at h
     . rename_i l ks' hr
       simp only [qS, qP] at h
       obtain ⟨rfl, rfl⟩ := h
       obtain ⟨h1, h2, h3⟩ := outK_ok hw h0 g0 r l ks' hr
       refine ⟨⟨rfl, h1⟩, fun u hu g hg => ?_, by simp [h3]⟩
       rcases List.mem_cons.mp (show u ∈ v :: (r.map (concC ν) ++ us0) from hu) with rfl | hu
       . exfalso
         cases u <;> first | (cases hg; done) | (cases hn; done)
       . exact h2 u hu g hg
     . cases h
 | .l k :: r, c, ks, h => by
   unfold outK at h
   split at h
   . rename_i e l ks' he hr
     cases hb : (e.own && !(ks'.any fun y => Nat.beq k y))
     . rw [hb] at h; cases h
     . rw [hb] at h
       simp only [cond_true, qS, qP] at h
       obtain ⟨rfl, rfl⟩ := h
       simp only [Bool.and_eq_true, Bool.not_eq_true', List.any_eq_false] at hb
       obtain ⟨hk, hd⟩ := getL_some he
       obtain ⟨h1, h2, h3⟩ := outK_ok hw h0 g0 r l ks' hr
       refine ⟨⟨⟨hw.row hk hd hb.1, fun g hg u hu hug => ?_⟩, h1⟩, fun u hu g hg => ?_, by simp [h3]⟩
       . obtain ⟨k', hk', hv', e', he', hd', ho'⟩ := h2 u hu g hug
         have hne : k' ≠ k := fun e => hb.2 k' hk' (by rw [e]; simp)
         refine (hw.sep k e hk hd hb.1 g hg).2 k' e' he' hd' ho' hne ?_
         rw [hv']; exact hug
       . rcases List.mem_cons.mp (show u ∈ ν.v k :: (r.map (concC ν) ++ us0) from hu) with rfl | hu
         . exact ⟨k, List.mem_cons_self, rfl, e, hk, hd, hb.1⟩
         . obtain ⟨k', hk', rest⟩ := h2 u hu g hg
           exact ⟨k', List.mem_cons_of_mem _ hk', rest⟩
   . cases h
 | .a _ _ :: r, c, ks, h => by simp [outK] at h
theorem outT_ok {s : St} {w0 : Base} {w : World} {ν : Nu} {mem : Bool} (hw : WR w0 ν s.own mem w) : ∀ (l : List TV) (xs : List XV) (ks : List Nat), outT s l = some (xs, ks) ->
   ∃ us, Shape xs (l.map (concT ν)) us /\ CellsOut w0.heap.size w (flatX xs) us /\ Given s ν us ks
 | [], xs, ks, h => by
   simp only [outT, qS, qP] at h
   obtain ⟨rfl, rfl⟩ := h
   exact ⟨[], ⟨rfl, rfl⟩, trivial, fun u hu => by cases hu⟩
 | x :: r, xs, ks, h => by
   unfold outT at h
   split at h
   . rename_i l ks1 hr
     split at h
     . rename_i c ks2 hc
       split at h
       . rename_i y hy
         simp only [qS, qP] at h
         obtain ⟨rfl, rfl⟩ := h
         obtain ⟨us, s1, s2, s3⟩ := outT_ok hw r l ks1 hr
         obtain ⟨k1, k2, k3⟩ := outK_ok hw s2 s3 (cvT x) c ks2 hc
         refine ⟨(cvT x).map (concC ν) ++ us, ?_, ?_, k2⟩
         . cases x with
           | inl p =>
             unfold mkX at hy
             split at hy <;> first | (cases hy; done) | skip
             all_goals (simp only [qS] at hy; subst hy)
             . exact ⟨_, _, _, rfl, rfl, s1⟩
             . rename_i heq; cases heq
             . rename_i heq; cases heq
           | inr k =>
             unfold mkX at hy
             split at hy <;> first | (cases hy; done) | skip
             all_goals (simp only [qS] at hy; subst hy)
             . rename_i heq; cases heq
             . exact ⟨_, _, _, rfl, rfl, s1⟩
             . rename_i heq; cases heq
           | st cs =>
             simp only [mkX, qS] at hy
             subst hy
             exact ⟨cs.map (concC ν), _, _, rfl, rfl, by rw [List.length_map]; exact k3.symm, s1⟩
         . have hf : flatX (y :: l) = c ++ flatX l := by
             unfold mkX at hy
             split at hy <;> first | (cases hy; done) | skip
             all_goals (simp only [qS] at hy; subst hy; rfl)
           rw [hf]; exact k1
       . cases h
     . cases h
   . cases h
theorem outS_ok {s : St} {w0 : Base} {w : World} {ν : Nu} {mem : Bool} (hw : WR w0 ν s.own mem w) {x : SV} {tup : Bool} {xs : List XV} (h : outS s x = some (tup, xs)) {v : Value} (hv : Is ν x v) : ∃ vs, v = outV tup vs /\ OutOk w0.heap.size w xs vs := by
 unfold outS at h
 split at h
 . rename_i u
   simp only [qS, qP] at h
   obtain ⟨rfl, rfl⟩ := h
   exact ⟨[v], rfl, [v], ⟨v, [], [], rfl, rfl, rfl, rfl⟩, hv, trivial⟩
 . rename_i k
   split at h
   . rename_i l ks hl
     simp only [qS, qP] at h
     obtain ⟨rfl, rfl⟩ := h
     obtain ⟨us, s1, s2, _⟩ := outT_ok hw _ _ _ hl
     exact ⟨[ν.v k], hv, us, s1, s2⟩
   . cases h
 . rename_i l
   split at h
   . rename_i l' ks hl
     simp only [qS, qP] at h
     obtain ⟨rfl, rfl⟩ := h
     obtain ⟨us, s1, s2, _⟩ := outT_ok hw _ _ _ hl
     exact ⟨l.map (concT ν), hv, us, s1, s2⟩
   . cases h
 . rename_i cs
   split at h
   . rename_i l ks hl
     simp only [qS, qP] at h
     obtain ⟨rfl, rfl⟩ := h
     obtain ⟨us, s1, s2, _⟩ := outT_ok hw _ _ _ hl
     exact ⟨[.agg (cs.map (concC ν)).toArray], hv, us, s1, s2⟩
   . cases h
 . cases h
theorem fn_ok {E : Env} (HC : CallOk E) {fuel d : Nat} {plan : List Stop} {orc : List Bool} {f : FuncId} {fls : List (List Bool)} {args : List XV} {tup : Bool} {res : List XV} {l : List (Bool × Bool)} {tr : List Told}
   (h : simF E fuel d plan orc f fls args = some (tup, res, l, tr)) (hl : ∀ p ∈ l, p.1 = p.2) {fn : Func} (hfn : E.P.funcs[f]? = some fn) (w : World) (vals : List Value) (hG : Glob E w) (ha : ArgsOk w args vals)
   (htr : ∀ t ∈ tr, Sem E w (args.length + (fn.ntmps - args.length)) t.c t.s t.x t.s') : LRet E.P f vals tup res w := by
 unfold simF at h
 split at h
 . rename_i fn' hf
   rw [hfn] at hf
   obtain rfl := Option.some.inj hf
   split at h
   . rename_i c hbody
     split at h
     . rename_i x s' tr' hs
       cases hx : (match x with | some (some _) => false | _ => true)
       . rw [hx] at h; cases h
       . rw [hx] at h
         simp only [cond_true] at h
         split at h
         . rename_i r hr
           split at h
           . rename_i tup' res' hout
             simp only [qS, qP] at h
             obtain ⟨rfl, rfl, rfl, rfl⟩ := h
             let ν : Nu := ⟨fun _ => 0, fun k => ((listVals args vals)[k]?).getD undef⟩
             obtain ⟨i1, i2, i3, i4⟩ := initX_ok (fls := fls) (ν := ν) args vals 0 0 ha (fun j v hj => by show ((listVals args vals)[0 + j]?).getD undef = v; rw [Nat.zero_add, hj]; rfl)
             simp only [Nat.zero_add] at i2 i3
             have hg : Good { tmps := initS 0 (initX fls 0 0 args).1, own := ⟨[], (initX fls 0 0 args).2⟩, lo := 0, llo := (initX fls 0 0 args).2.length, mem := false, orc := orc, obl := [] } :=
               ⟨Nat.le_refl _, Nat.le_refl _, fun p hp => i3 _ (initS_mem' _ _ p hp), fun i b hi => by simp at hi⟩
             have hwr : WR (base0 w) ν ⟨[], (initX fls 0 0 args).2⟩ false w :=
               ⟨Below.refl _ _, fun i b hi => by simp at hi, fun i b hi => by simp at hi, fun i j hi => by simp at hi, fun k e hk hd => (by
                 obtain ⟨k1, k2⟩ := i2 k e hk
                 unfold LOk
                 rw [k1]; exact k2), fun k e hk hd ho => (by
                 rw [(i2 k e hk).1] at ho; exact absurd ho (by simp)), (fun _ => rfl), .void _ _ _⟩
             obtain ⟨_, _, _, hsem⟩ := simP_okA (w0 := base0 w) HC (.of hG) d plan [] c _ x s' [] tr' hg (.zero _) (okStop_zero _) hs
             have htr' := tr_init (args := (initX fls 0 0 args).1) i1 fn.ntmps { tmps := initS 0 (initX fls 0 0 args).1, own := ⟨[], (initX fls 0 0 args).2⟩, lo := 0, llo := (initX fls 0 0 args).2.length, mem := false, orc := orc, obl := [] }
             rw [i4] at htr'
             refine calls_of_wp hfn hbody (hsem hl htr _ ν _ w htr' hwr fun ν' a' w' _ ht' hw' => ?_)
             obtain ⟨v, hv, hres⟩ := simRes_ok hr ht' hw'
             obtain ⟨vs, rfl, hok⟩ := outS_ok hw' hout hv
             rcases x with _ | _ | i
             . exact bodyPost_end hres ht'.df ⟨vs, rfl, hok, hw'.below⟩
             . exact bodyPost_ret hres ht'.df ⟨vs, rfl, hok, hw'.below⟩
             . cases hx
           . cases h
         . cases h
     . cases h
   . cases h
 . cases h
noncomputable def simFS (E : Env) (fuel d : Nat) (plan : List Stop) (orc : List Bool) (f : FuncId) (args : List SV) (own : Mem) : Option (SV × Mem × List (Bool × Bool) × List Told) :=
 match E.P.funcs[f]? with
 | some fn => match fn.body with
   | some c => match simP E fuel (args.length + (fn.ntmps - args.length)) d plan [] c { tmps := initS 0 args, own := own, lo := 0, llo := 0, mem := true, orc := orc, obl := [] } with
     | some (x, s', [], tr) => bif (match x with | some (some _) => false | _ => true) then (match simRes E.P fn s' with
       | some r => some (r, s'.own, s'.obl, tr)
       | none => none) else none
     | _ => none
   | none => none
 | none => none
def fitS2 (args : List SV) (own : Mem) (plan : List Stop) : Bool := args.all (okVB own.b.length own.l.length) && (own.b.all fun b => b.cells.all (okVB own.b.length own.l.length)) && plan.all (okStop own.b.length own.l.length)
theorem fnS_ok {E : Env} (HC : CallOk E) (hbt : E.bt = none) {fuel d : Nat} {plan : List Stop} {orc : List Bool} {f : FuncId} {args : List SV} {own own' : Mem} {r : SV} {l : List (Bool × Bool)} {tr : List Told}
   (hfit : fitS2 args own plan = true) (h : simFS E fuel d plan orc f args own = some (r, own', l, tr)) (hl : ∀ p ∈ l, p.1 = p.2) {fn : Func} (hfn : E.P.funcs[f]? = some fn)
   (htr : ∀ (w0 : Base), GlobB E w0 -> ∀ t ∈ tr, SemA E w0 own.b.length own.l.length (args.length + (fn.ntmps - args.length)) t.c t.s t.x t.s') : SemF E.P E.glob f args own r own' := fun w0 hG0 ν w vs hvs hw => by
 have hG : GlobB E w0 := ⟨hG0, fun h => by rw [hbt] at h; cases h⟩
 unfold fitS2 at hfit
 simp only [Bool.and_eq_true, List.all_eq_true] at hfit
 obtain ⟨⟨f1, f2⟩, f3⟩ := hfit
 unfold simFS at h
 split at h
 . rename_i fn' hf
   rw [hfn] at hf
   obtain rfl := Option.some.inj hf
   split at h
   . rename_i c hbody
     split at h
     . rename_i x s' tr' hs
       cases hx : (match x with | some (some _) => false | _ => true)
       . rw [hx] at h; cases h
       . rw [hx] at h
         simp only [cond_true] at h
         split at h
         . rename_i r' hr
           simp only [qS, qP] at h
           obtain ⟨rfl, rfl, rfl, rfl⟩ := h
           have hg : Good { tmps := initS 0 args, own := own, lo := 0, llo := 0, mem := true, orc := orc, obl := [] } :=
             ⟨Nat.zero_le _, Nat.zero_le _, fun p hp => okVB_ok (f1 _ (initS_mem' _ _ p hp)), fun i b hi c hc => okVB_ok (f2 b (List.mem_of_getElem? hi) c hc)⟩
           obtain ⟨_, _, _, hsem⟩ := simP_okA (w0 := w0) HC hG d plan [] c _ x s' [] tr' hg ⟨Nat.le_refl _, Nat.le_refl _⟩ f3 hs
           have ht := tr_init hvs fn.ntmps { tmps := initS 0 args, own := own, lo := 0, llo := 0, mem := true, orc := orc, obl := [] }
           refine calls_of_wp hfn hbody (hsem hl (htr w0 hG) _ ν _ w ht hw fun ν' a' w' ha ht' hw' => ?_)
           have hmem : WR w0 ν' s'.own true w' := hw'.mem
           obtain ⟨v, hv, hres⟩ := simRes_ok hr ht' hw'
           rcases x with _ | _ | i
           . exact bodyPost_end hres ht'.df ⟨ν', v, ha, rfl, hv, hmem⟩
           . exact bodyPost_ret hres ht'.df ⟨ν', v, ha, rfl, hv, hmem⟩
           . cases hx
         . cases h
     . cases h
   . cases h
 . cases h
theorem SemF.same {P : Program} {gl : Nat -> Option (List Value)} {f : FuncId} {args : List SV} {own own' own2 : Mem} {r : SV} (h : SemF P gl f args own r own') (hb : own'.b = own2.b) (hl : sameL own'.l own2.l) : SemF P gl f args own r own2 := fun w0 hG ν w vs hvs hw =>
 (h w0 hG ν w vs hvs hw).mono fun e w' ⟨ν', v, h1, h2, h3, h4⟩ => ⟨ν', v, h1, h2, h3, h4.alike hb hl⟩
theorem sameL_flip : ∀ {l l' : List LE}, sameL l l' -> sameL l' l
 | [], [], _ => trivial
 | e :: r, e2 :: r', h => ⟨⟨h.1.1.symm, h.1.2.1.symm, h.1.2.2.1.symm, h.1.2.2.2.1.symm, h.1.2.2.2.2.1.symm, fun i hi => (h.1.2.2.2.2.2 i (by rw [h.1.2.2.1]; exact hi)).symm⟩, sameL_flip h.2⟩
 | [], _ :: _, h => h.elim
 | _ :: _, [], h => h.elim
theorem SemF.from {P : Program} {gl : Nat -> Option (List Value)} {f : FuncId} {args : List SV} {own own2 own' : Mem} {r : SV} (h : SemF P gl f args own r own') (hb : own2.b = own.b) (hl : sameL own2.l own.l) : SemF P gl f args own2 r own' := fun w0 hG ν w vs hvs hw =>
 (h w0 hG ν w vs hvs (hw.alike hb hl)).mono fun e w' ⟨ν', v, h1, h2, h3, h4⟩ => ⟨ν', v, by show Agree own2.b.length own2.l.length ν ν'; rw [hb, sameL_len hl]; exact h1, h2, h3, h4⟩
theorem SemF.anyGlob {P : Program} {gl : Nat -> Option (List Value)} {f : FuncId} {args : List SV} {own own' : Mem} {x : SV} (h : SemF P (fun _ => none) f args own x own') : SemF P gl f args own x own' := fun w0 _ => h w0 (GlobOk.none _)
abbrev ETab := FuncId -> Option (List SV -> Mem -> Option Eff)
def erow (k : FuncId) (dec : List SV -> Mem -> Option Eff) : ETab := fun f => bif Nat.beq f k then some dec else none
def orE (c1 c2 : ETab) : ETab := fun f => match c1 f with
 | some g => some g
 | none => c2 f
theorem EffOk.row {P : Program} {gl : Nat -> Option (List Value)} {k : FuncId} {dec : List SV -> Mem -> Option Eff} (h : ∀ args own r, dec args own = some r -> r.ok = true -> SemF P gl k args own r.x (applyE own r)) : EffOk P gl (erow k dec) := fun f g args own r hf hg hr => by
 unfold erow at hf
 cases hb : Nat.beq f k
 . rw [hb] at hf; cases hf
 . rw [hb] at hf
   simp only [cond_true, qS] at hf
   subst hf
   have he : f = k := qB hb
   subst he
   exact h args own r hg hr
theorem EffOk.or {P : Program} {gl : Nat -> Option (List Value)} {c1 c2 : ETab} (h1 : EffOk P gl c1) (h2 : EffOk P gl c2) : EffOk P gl (orE c1 c2) := fun f g args own r hf hg hr => by
 unfold orE at hf
 split at hf
 . rename_i g' hg'
   simp only [qS] at hf
   subst hf
   exact h1 f g' args own r hg' hg hr
 . exact h2 f g args own r hf hg hr
def codeOf (P : Program) (f : FuncId) : Code := match P.funcs[f]? with
 | some fn => match fn.body with
   | some c => c
   | none => .skip
 | none => .skip
def childC : Nat -> Code -> Code
 | 0, .seq x _ => x
 | 1, .seq _ y => y
 | 0, .cond _ x _ => x
 | 1, .cond _ _ y => y
 | 0, .block _ x => x
 | 0, .loop x => x
 | 0, .scope x => x
 | _, c => c
def codeAt (c : Code) : List Nat -> Code
 | [] => c
 | d :: p => childC d (codeAt c p)
theorem qZ : ∀ p ∈ ([] : List (Bool × Bool)), p.1 = p.2 := fun _ h => by cases h
theorem qA {b c : Bool} {l : List (Bool × Bool)} (h : b = c) (t : ∀ p ∈ l, p.1 = p.2) : ∀ p ∈ (b, c) :: l, p.1 = p.2 := fun p hp => by
 rcases List.mem_cons.mp hp with rfl | hp
 . exact h
 . exact t p hp
theorem qF {a b c d e f g i : Bool} {l : List (Bool × Bool)} (h1 : a = b) (h2 : c = d) (h3 : e = f) (h4 : g = i) (t : ∀ p ∈ l, p.1 = p.2) : ∀ p ∈ (a, b) :: (c, d) :: (e, f) :: (g, i) :: l, p.1 = p.2 := qA h1 <| qA h2 <| qA h3 <| qA h4 t
theorem ob_inI {x : Int} (h : -9223372036854775808 <= x /\ x <= 9223372036854775807) : pre (inI x) = true := by unfold pre inI; exact decide_eq_true h
theorem ob_idx {n : Int} {len : Nat} (h : 0 <= n /\ n < len) : pre (idxB n len) = true := by unfold pre idxB; exact decide_eq_true h
theorem ob_lt {j n : Nat} (h : j < n) : pre (decide (j < n)) = true := by unfold pre; exact decide_eq_true h
theorem ob_app {n m b : Nat} (h : n + m <= 1000000000000) (hb : b <= 128) (hm : 0 < m) : pre (decide (n + m <= maxLen /\ (n + m) * b <= 140737488355328 /\ 0 < m)) = true := by
 unfold pre
 refine decide_eq_true ⟨Nat.le_trans h (by decide), ?_, hm⟩
 exact Nat.le_trans (Nat.mul_le_mul h hb) (by decide)
theorem ob_yes {p : Prop} [Decidable p] (h : p) : decide p = true := decide_eq_true h
theorem ob_no {p : Prop} [Decidable p] (h : ¬ p) : decide p = false := decide_eq_false h
abbrev LTab := FuncId -> List XV -> Option (Bool × List XV × Bool)
def noL : LTab := fun _ _ => none
def lrow (k : FuncId) (dec : List XV -> Option (Bool × List XV × Bool)) : LTab := fun f args => bif Nat.beq f k then dec args else none
def orL (c1 c2 : LTab) : LTab := fun f args => match c1 f args with
 | some v => some v
 | none => c2 f args
def LTabOk (P : Program) (gl : Nat -> Option (List Value)) (c : LTab) : Prop := ∀ f args tup res, c f args = some (tup, res, true) -> ∀ w vals, GlobOk gl w -> ArgsOk w args vals -> LRet P f vals tup res w
theorem LTabOk.none (P : Program) (gl : Nat -> Option (List Value)) : LTabOk P gl noL := fun _ _ _ _ h => by cases h
theorem LTabOk.row {P : Program} {gl : Nat -> Option (List Value)} {k : FuncId} {dec : List XV -> Option (Bool × List XV × Bool)} (h : ∀ args tup res, dec args = some (tup, res, true) -> ∀ w vals, GlobOk gl w -> ArgsOk w args vals -> LRet P k vals tup res w) : LTabOk P gl (lrow k dec) := fun f args tup res hv w vals hG ha => by
 unfold lrow at hv
 cases hb : Nat.beq f k
 . rw [hb] at hv; cases hv
 . rw [hb] at hv
   have he : f = k := qB hb
   subst he
   exact h args tup res hv w vals hG ha
theorem LTabOk.or {P : Program} {gl : Nat -> Option (List Value)} {c1 c2 : LTab} (h1 : LTabOk P gl c1) (h2 : LTabOk P gl c2) : LTabOk P gl (orL c1 c2) := fun f args tup res hv w vals hG ha => by
 unfold orL at hv
 split at hv
 . rename_i u hu
   simp only [qS] at hv
   subst hv
   exact h1 f args tup res hu w vals hG ha
 . exact h2 f args tup res hv w vals hG ha
def env (P : Program) (gl : Nat -> Option (List Value)) (c : Tab) (pc : PTab) (lc : LTab) : Env := { P := P, glob := gl, call := c, pcall := pc, lcall := lc }
theorem env_ok {P : Program} {gl : Nat -> Option (List Value)} {c : Tab} {pc : PTab} {lc : LTab} (h1 : TabOk P gl c) (h2 : PTabOk P gl pc) (h3 : LTabOk P gl lc) : CallOk (env P gl c pc lc) := ⟨h1, h2, h3, (fun _ _ _ _ h => by cases h), (fun _ _ _ h => by cases h), .none⟩
def envk (P : Program) (gl : Nat -> Option (List Value)) (nw : Bool) (c : Tab) (pc : PTab) (lc : LTab) : Env := { P := P, glob := gl, call := c, pcall := pc, lcall := lc, opq := true, mks := true, nowrap := nw }
theorem envk_ok {P : Program} {gl : Nat -> Option (List Value)} {nw : Bool} {c : Tab} {pc : PTab} {lc : LTab} (h1 : TabOk P gl c) (h2 : PTabOk P gl pc) (h3 : LTabOk P gl lc) : CallOk (envk P gl nw c pc lc) := ⟨h1, h2, h3, (fun _ _ _ _ h => by cases h), (fun _ _ _ h => by cases h), .none⟩
noncomputable def enve (P : Program) (gl : Nat -> Option (List Value)) (nw : Bool) (c : Tab) (pc : PTab) (lc : LTab) (ef : ETab) : Env := { P := P, glob := gl, call := c, pcall := pc, lcall := lc, opq := true, mks := true, nowrap := nw, eff := ef }
theorem enve_ok {P : Program} {gl : Nat -> Option (List Value)} {nw : Bool} {c : Tab} {pc : PTab} {lc : LTab} {ef : ETab} (h1 : TabOk P gl c) (h2 : PTabOk P gl pc) (h3 : LTabOk P gl lc) (h4 : EffOk P gl ef) : CallOk (enve P gl nw c pc lc ef) := ⟨h1, h2, h3, (fun _ _ _ _ h => by cases h), (fun _ _ _ h => by cases h), h4⟩
theorem LRet.plain {P : Program} {f : FuncId} {vals : List Value} {v : Value} {w : World} (h : LRet P f vals false [.inl v] w) : Ret P f vals.toArray v w := h.mono fun e w' ⟨vs, he, ho, hb⟩ => by
 obtain rfl := outOk_v ho
 exact ⟨he, hb⟩
theorem outOk_one {B : Nat} {w : World} {e : LE} {v : Value} (h : OwnB B w e v) : OutOk B w [.inr e] [v] := ⟨[v], ⟨v, [], [], rfl, rfl, rfl, rfl⟩, ⟨h, fun _ _ u hu => by cases hu⟩, trivial⟩
theorem ArgsOk.plain {w : World} : ∀ (l : List Value), ArgsOk w (l.map .inl) l
 | [] => trivial
 | v :: r => ⟨rfl, ArgsOk.plain r⟩
end Go.Proofs.Ytmaffamhjmlonaa.S2
namespace Go.Proofs.Ytmaffamhjmlonaa
open Go Go.RowKit Sim S2
noncomputable def propB (p : Prop) : Bool := @decide p (Classical.propDecidable p)
theorem propB_ok {p : Prop} : pre (propB p) = true ↔ p := by unfold pre propB; exact @decide_eq_true_iff p (Classical.propDecidable p)
end Go.Proofs.Ytmaffamhjmlonaa
namespace Go.Proofs.Ytmaffamhjmlonaa.S2
open Go Go.RowKit Sim
noncomputable def iterP (E : Env) (fuel n d : Nat) (c : Code) (p : Pick) (plan : List Stop) (orc : List Bool) (s : St) : Option (X × St × List (Bool × Bool) × List Told) := match simP E fuel n d plan [] c { s with orc := orc, obl := [] } with
 | some (x, s', [], tr) => match pickS p s' with
   | some s2 => some (x, s2, s'.obl, tr)
   | none => none
 | _ => none
theorem sem_iterP {E : Env} (HC : CallOk E) {w0 : World} (hG : Glob E w0) {fuel n d : Nat} {c : Code} {p : Pick} {s s' : St} {x : X} (plan : List Stop) (orc : List Bool) (l : List (Bool × Bool)) (tr : List Told) (hg : goodB s = true) (h : iterP E fuel n d c p plan orc s = some (x, s', l, tr)) (hl : ∀ p ∈ l, p.1 = p.2) (htr : ∀ t ∈ tr, Sem E w0 n t.c t.s t.x t.s') : Sem E w0 n c s x s' := by
 unfold iterP at h
 split at h
 . rename_i x1 s1 tr1 h1
   split at h
   . rename_i s2 h2
     simp only [qS, qP] at h
     obtain ⟨rfl, rfl, rfl, rfl⟩ := h
     have g := goodB_ok hg
     obtain ⟨_, k2, _, k4⟩ := simP_okA (w0 := base0 w0) (nb := 0) (nl := 0) HC (.of hG) d plan [] c { s with orc := orc, obl := [] } x1 s1 [] tr1 ⟨g.lo, g.llo, g.ok, g.okb⟩ (.zero _) (okStop_zero _) h1
     have h3 : SemA E (base0 w0) 0 0 n c s x1 s1 := SemA.of (t := s) (k4 hl htr) rfl rfl rfl rfl rfl rfl
     exact h3.post (.zero _) rfl rfl h2 k2
   . cases h
 . cases h
theorem semA_iterP {E : Env} (HC : CallOk E) {w0 : Base} (hG : GlobB E w0) {nb nl fuel n d : Nat} {c : Code} {p : Pick} {s s' : St} {x : X} (plan : List Stop) (orc : List Bool) (l : List (Bool × Bool)) (tr : List Told) (hg : (goodB s && Nat.ble nb s.own.b.length && Nat.ble nl s.own.l.length && prefB nb p.bs && prefB nl p.ls && plan.all (okStop nb nl)) = true) (h : iterP E fuel n d c p plan orc s = some (x, s', l, tr)) (hl : ∀ p ∈ l, p.1 = p.2) (htr : ∀ t ∈ tr, SemA E w0 nb nl n t.c t.s t.x t.s') : SemA E w0 nb nl n c s x s' := by
 simp only [Bool.and_eq_true] at hg
 obtain ⟨⟨⟨⟨⟨hg, hb1⟩, hl1⟩, hb2⟩, hl2⟩, hpl⟩ := hg
 have hD : Deep nb nl s := ⟨Nat.le_of_ble_eq_true hb1, Nat.le_of_ble_eq_true hl1⟩
 unfold iterP at h
 split at h
 . rename_i x1 s1 tr1 h1
   split at h
   . rename_i s2 h2
     simp only [qS, qP] at h
     obtain ⟨rfl, rfl, rfl, rfl⟩ := h
     have g := goodB_ok hg
     obtain ⟨k1, k2, k3, k4⟩ := simP_okA HC hG d plan [] c { s with orc := orc, obl := [] } x1 s1 [] tr1 ⟨g.lo, g.llo, g.ok, g.okb⟩ ⟨hD.b, hD.l⟩ (List.all_eq_true.mp hpl) h1
     have h3 : SemA E w0 nb nl n c s x1 s1 := SemA.of (t := s) (k4 hl htr) rfl rfl rfl rfl rfl rfl
     exact h3.post k3.1 hb2 hl2 h2 k2
   . cases h
 . cases h
end Go.Proofs.Ytmaffamhjmlonaa.S2
namespace Go.Proofs.Ytmaffamhjmlonaa.Sim
open Go Go.RowKit
theorem simF_fn {E : S2.Env} {fuel d : Nat} {plan : List S2.Stop} {orc : List Bool} {f : FuncId} {fls : List (List Bool)} {args : List S2.XV} {r : Bool × List S2.XV × List (Bool × Bool) × List S2.Told} (h : S2.simF E fuel d plan orc f fls args = some r) : ∃ fn, E.P.funcs[f]? = some fn := by
 unfold S2.simF at h
 split at h
 . rename_i fn hf; exact ⟨fn, hf⟩
 . cases h
noncomputable def simVal (E : S2.Env) (fuel : Nat) (fl : List (List Bool)) (orc : List Bool) (f : FuncId) (args : List Value) : Option (Value × List (Bool × Bool)) :=
 match S2.simF E fuel 10 [] orc f fl (args.map .inl) with
 | some (false, [.inl v], l, []) => some (v, l)
 | _ => none
theorem simVal_ok {E : S2.Env} (HC : S2.CallOk E) {fuel : Nat} {fls : List (List Bool)} {orc : List Bool} {f : FuncId} {args : List Value} {v : Value} {l : List (Bool × Bool)} (h : simVal E fuel fls orc f args = some (v, l)) (hl : ∀ p ∈ l, p.1 = p.2) (w : World) (hG : GlobOk E.glob w) : Ret E.P f args.toArray v w := by
 unfold simVal at h
 split at h
 . rename_i u l' hs
   simp only [qS, qP] at h
   obtain ⟨rfl, rfl⟩ := h
   obtain ⟨fn, hf⟩ := simF_fn hs
   exact (S2.fn_ok HC hs hl hf w args hG (S2.ArgsOk.plain args) fun t ht => by cases ht).plain
 . cases h
theorem ret {P : Program} {gl : Nat -> Option (List Value)} {c : Tab} (hc : TabOk P gl c) {fuel : Nat} (fls : List (List Bool)) (orc : List Bool) {f : FuncId} {args : List Value} {v : Value} (l : List (Bool × Bool))
   (h : simVal (S2.env P gl c noP S2.noL) fuel fls orc f args = some (v, l)) (hl : ∀ p ∈ l, p.1 = p.2) (w : World) (hG : GlobOk gl w) : Ret P f args.toArray v w :=
 simVal_ok (S2.env_ok hc (.none _ _) (.none _ _)) h hl w hG
end Go.Proofs.Ytmaffamhjmlonaa.Sim
