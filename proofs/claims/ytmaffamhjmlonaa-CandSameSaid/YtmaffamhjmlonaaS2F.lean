/- The evaluator with lists answers what the call returns: code and calls. No word of the program. -/
import Derived.Test.YtmaffamhjmlonaaS2E
set_option linter.unusedVariables false
set_option linter.unusedSimpArgs false
namespace Go.Proofs.Ytmaffamhjmlonaa.S2
open Go Go.RowKit Sim
theorem askC_ok {n : Nat} {s s1 : St} {c : Operand} {fl : List Bool} {b t : Bool} (hev : ev s c = .inl (fl, (.bool b))) (h : askC s c fl b = (t, s1)) :
   Le s s1 /\ s1.own = s.own /\ s1.mem = s.mem /\ (Good s -> Good s1) /\ (Holds' s1 -> b = t /\ ∀ ν a, TR n ν s a -> TR n ν s1 a) := by
 obtain ⟨a1, a2, a3, a4, a5, a6⟩ := ask_ok s fl b
 unfold askC at h
 split at h
 . rename_i d
   simp only [qP] at h
   obtain ⟨rfl, rfl⟩ := h
   refine ⟨(ask_le s fl b).trans (know_le _ _ _), a4, a5, fun hg => know_good (ask_good hg fl b) _ _, fun hh => ⟨(a2 hh).symm, fun ν a ht => (ht.ask fl b).know ?_⟩⟩
   rw [a2 hh]
   exact eval_v ht hev
 . have e1 : (ask s fl b).2 = s1 := by rw [h]
   have e2 : (ask s fl b).1 = t := by rw [h]
   rw [<- e1, <- e2]
   exact ⟨ask_le s fl b, a4, a5, fun hg => ask_good hg fl b, fun hh => ⟨(a2 hh).symm, fun ν a ht => ht.ask fl b⟩⟩
def RunSt (ih : Runner) : Prop := ∀ n c s x s', Good s -> ih n c s = some (x, s') -> Le s s' /\ Good s'
def RunOk (E : Env) (w0 : Base) (k : Nat) (ih : Runner) : Prop := ∀ n c s x s', Good s -> ih n c s = some (x, s') -> Holds' s' -> ∀ Q ν a w, TR n ν s a -> WR w0 ν s.own s.mem w ->
 (∀ ν' a' w', Ag s.own ν ν' -> TR n ν' s' a' -> WR w0 ν' s'.own s'.mem w' -> Q x.toExit a' w') -> Piece E.P k Q a w c
theorem resV_st {P : Program} {s : St} {r : ResultVar} {x : SV} (h : resV P s r = some x) (hg : Good s) : okV s.own.b.length s.own.l.length x /\ x ≠ .any := by
 unfold resV at h
 split at h
 . rename_i t
   split at h
   . cases h
   . rename_i hne
     simp only [qS] at h
     subst h
     exact ⟨look_ok hg.ok, fun e => hne e⟩
 . split at h
   . rename_i i off hl
     split at h
     . rename_i b hb
       exact ⟨loadS_okV h (hg.okb i b (getB_some hb).1), (loadS_ok h ⟨fun _ => 0, fun _ => undef⟩).1⟩
     . cases h
   . cases h
theorem is_conc {ν : Nu} {x : SV} (h : x ≠ .any) : Is ν x (conc ν x) := by
 cases x <;> first | rfl | exact absurd rfl h
theorem resV_ok {E : Env} {n : Nat} {w0 : Base} {w : World} {ν : Nu} {s : St} {a : Act} {r : ResultVar} {x : SV} (h : resV E.P s r = some x) (ht : TR n ν s a) (hw : WR w0 ν s.own s.mem w) :
   ∃ v, Is ν x v /\ (resM a.tmps r).run E.P w = .ok v w := by
 unfold resV at h
 split at h
 . rename_i t
   split at h
   . cases h
   . simp only [qS] at h
     subst h
     exact ⟨_, ht.tm t, by simp only [resM, Sem.run_pure]⟩
 . rename_i p t
   have h0 := ht.tm p
   split at h
   . rename_i i off hl
     split at h
     . rename_i b hb
       obtain ⟨hne, hv⟩ := loadS_ok h ν
       rw [hl] at h0
       have h0 : a.tmps.getD p undef = .pointer (some ⟨ν.l i, off, none⟩) := h0
       have := run_loadB hv w (cells_of_blk ((hw.blk i b (getB_some hb).1).1.cells (getB_some hb).2))
       exact ⟨_, is_conc hne, by simp only [resM, h0, asAddr, Sem.run_bind, Sem.run_pure, Result.andThen_ok, this]⟩
     . cases h
   . cases h
theorem tupL_st {P : Program} {s : St} (hg : Good s) : ∀ (rs : List ResultVar) (l : List TV), tupL (rs.map (resV P s)) = some l -> ∀ x ∈ l, okT s.own.b.length s.own.l.length x
 | [], l, h => by simp only [List.map_nil, tupL, qS] at h; subst h; intro x hx; cases hx
 | r :: rs, l, h => by
   rw [List.map_cons] at h
   cases hr : resV P s r with
   | none => rw [hr] at h; simp [tupL] at h
   | some y =>
     rw [hr] at h
     simp only [tupL] at h
     split at h
     . rename_i y' l' hy hl
       simp only [qS] at h
       subst h
       intro x hx
       rcases List.mem_cons.mp hx with rfl | hx
       . have := (resV_st hr hg).1
         unfold tupOf at hy
         split at hy <;> simp at hy
         all_goals (subst hy; first | trivial | exact this)
       . exact tupL_st hg rs l' hl x hx
     . cases h
theorem mkTup_ok (l : List TV) (ν : Nu) : Is ν (mkTup l) (.tuple (l.map (concT ν)).toArray) := by
 have key : ∀ (l : List TV) f vs, plainL l = some (f, vs) -> l.map (concT ν) = vs := by
   intro l
   induction l with
   | nil => intro f vs h; simp [plainL] at h; simp [h.2]
   | cons x r ih =>
     intro f vs h
     cases x with
     | inl p =>
       unfold plainL at h
       split at h
       . rename_i g l' hp
         simp only [qS, qP] at h
         rw [<- h.2, List.map_cons, ih _ _ hp]; rfl
       . cases h
     | inr k => simp [plainL] at h
     | st cs => simp [plainL] at h
 unfold mkTup
 split
 . rename_i f vs hp
   rw [key _ _ _ hp]; rfl
 . rfl
theorem mkTup_st {n m : Nat} {l : List TV} (h : ∀ x ∈ l, okT n m x) : okV n m (mkTup l) := by
 unfold mkTup
 split
 . trivial
 . exact h
theorem simRes_st {P : Program} {fn : Func} {s : St} {x : SV} (h : simRes P fn s = some x) (hg : Good s) : okV s.own.b.length s.own.l.length x := by
 unfold simRes at h
 split at h
 . exact (resV_st h hg).1
 . split at h
   . rename_i l hl
     simp only [qS] at h
     subst h
     exact mkTup_st (tupL_st hg _ l hl)
   . cases h
theorem tupL_ok {E : Env} {n : Nat} {w0 : Base} {w : World} {ν : Nu} {s : St} {a : Act} (ht : TR n ν s a) (hw : WR w0 ν s.own s.mem w) : ∀ (rs : List ResultVar) (l : List TV), tupL (rs.map (resV E.P s)) = some l -> (rs.mapM (resM a.tmps)).run E.P w = .ok (l.map (concT ν)) w
 | [], l, h => by simp only [List.map_nil, tupL, qS] at h; subst h; simp
 | r :: rs, l, h => by
   rw [List.map_cons] at h
   cases hr : resV E.P s r with
   | none => rw [hr] at h; simp [tupL] at h
   | some y =>
     rw [hr] at h
     simp only [tupL] at h
     split at h
     . rename_i y' l' hy hl
       simp only [qS] at h
       subst h
       obtain ⟨v, hv, hrun⟩ := resV_ok hr ht hw
       have ih := tupL_ok ht hw rs l' hl
       have e : v = concT ν y' := by
         unfold tupOf at hy
         split at hy <;> simp at hy
         . subst hy; exact hv
         . subst hy; exact hv
         . subst hy; exact hv
       simp only [List.mapM_cons, Sem.run_bind, hrun, Result.andThen_ok, ih, Sem.run_pure, List.map_cons, e]
     . cases h
theorem simRes_ok {E : Env} {n : Nat} {w0 : Base} {w : World} {ν : Nu} {s : St} {a : Act} {fn : Func} {x : SV} (h : simRes E.P fn s = some x) (ht : TR n ν s a) (hw : WR w0 ν s.own s.mem w) :
   ∃ v, Is ν x v /\ (results fn a.tmps).run E.P w = .ok v w := by
 unfold simRes at h
 split at h
 . rename_i r hr
   have hl : fn.results = #[r] := by rw [<- Array.toArray_toList (xs := fn.results), hr]
   obtain ⟨v, hv, h1⟩ := resV_ok h ht hw
   refine ⟨v, hv, ?_⟩
   rw [results_resM, hl]
   simp only [List.mapM_toArray, List.mapM_cons, List.mapM_nil, Sem.run_bind, Sem.run_map, h1, Result.andThen_ok, Sem.run_pure]
   rfl
 . rename_i hne
   split at h
   . rename_i l hl
     simp only [qS] at h
     subst h
     refine ⟨_, mkTup_ok l ν, ?_⟩
     have h1 := tupL_ok ht hw _ l hl
     have hlen : ∀ (rs : List (Option SV)) l, tupL rs = some l -> l.length = rs.length := by
       intro rs
       induction rs with
       | nil => intro l h; simp [tupL] at h; subst h; rfl
       | cons y r ih =>
         intro l h
         cases y with
         | none => simp [tupL] at h
         | some y =>
           simp only [tupL] at h
           split at h
           . rename_i _ l' _ hl'
             simp only [qS] at h
             subst h
             simp [ih l' hl']
           . cases h
     have hl1 := hlen _ _ hl
     rw [results_resM]
     have e : fn.results.mapM (resM a.tmps) = (do let l <- fn.results.toList.mapM (resM a.tmps); pure l.toArray) := by
       rw [<- Array.toArray_toList (xs := fn.results), List.mapM_toArray]; simp
     rw [e]
     simp only [Sem.run_bind, h1, Result.andThen_ok, Sem.run_pure]
     have hsz : ¬ (l.map (concT ν)).toArray.size = 1 := by
       intro h1
       simp only [List.size_toArray, List.length_map] at h1
       rw [hl1, List.length_map] at h1
       match hm : fn.results.toList, h1 with
       | [r], _ => exact hne r hm
     simp only [hsz, dite_false]
   . cases h
end Go.Proofs.Ytmaffamhjmlonaa.S2
