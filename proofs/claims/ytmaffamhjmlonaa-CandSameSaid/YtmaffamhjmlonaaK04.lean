/- Froz11, Dyn. -/
import Derived.Test.YtmaffamhjmlonaaK02
import Derived.Test.YtmaffamhjmlonaaGlT
set_option linter.unusedVariables false
set_option linter.unusedSimpArgs false
namespace Go.Proofs.Ytmaffamhjmlonaa
open Go.RowKit Sim S2
def frz (w : World) : Gl := fun g => match w.heap[g]? with
 | some (.cells c _ _) => some c.toList
 | _ => none
theorem frz_cell {w : World} {g : Nat} {cs : List Value} (h : frz w g = some cs) (i : Nat) : w.cell? ⟨g, i, none⟩ = cs[i]? := by
 unfold frz at h
 split at h
 . rename_i c _ _ hc
   simp only [qS] at h
   subst h
   simp [World.cell?, hc]
 . cases h
theorem frz_of {w : World} {g i : Nat} {v : Value} (h : w.cell? ⟨g, i, none⟩ = some v) : ∃ cs, frz w g = some cs /\ cs[i]? = some v := by
 have h0 := h
 unfold World.cell? at h
 split at h
 . rename_i c t z hc
   have hc : w.heap[g]? = some (.cells c t z) := hc
   have hf : frz w g = some c.toList := by unfold frz; rw [hc]
   exact ⟨_, hf, (frz_cell hf i).symm.trans h0⟩
 . cases h
theorem frz_ok (w : World) : GlobOk (frz w) w := fun g cs hg => ⟨fun i v hv => (frz_cell hg i).trans hv, fun _ i => frz_cell hg i⟩
theorem rowG_of {B : Nat} {w : World} {e : LE} {v : Value} (h : InB B w e v) : rowG (frz w) v e := by
 obtain ⟨h1, a, cap, hv, hc, h2⟩ := h
 refine ⟨h1, a, cap, hv, hc, fun hn => ?_⟩
 obtain ⟨b, off, ha, _, h3⟩ := h2 hn
 have hl := (h1.2 0 hn).1
 have h0 : 0 < e.size := h1.1
 obtain ⟨cs, hcs, _⟩ := frz_of (h3 0 hn 0 _ (List.getElem?_eq_getElem (by omega)))
 exact ⟨b, off, cs, ha, hcs, fun j hj o c ho => (frz_cell hcs _).symm.trans (h3 j hj o c ho)⟩
abbrev GlTo (gl gl' : Gl) : Prop := ∀ w, GlobOk gl' w -> GlobOk gl w
theorem ptab_to {P : Program} {gl gl' : Gl} {c : PTab} (h : PTabOk P gl c) (hs : GlTo gl gl') : PTabOk P gl' c := fun f args v hv w hG => h f args v hv w (hs w hG)
theorem rowG_row {gl : Gl} {w : World} (hG : GlobOk gl w) {v : Value} {e : LE} (h : rowG gl v e) : InB w.heap.size w e v := rowG_in hG h
end Go.Proofs.Ytmaffamhjmlonaa
namespace Go.Proofs.Ytmaffamhjmlonaa.S2
open Go Go.RowKit Sim
def thenQ (P : Program) (ops : Array Oper) (Q : Exit -> Act -> World -> Prop) (l : List Oper) : Exit -> Act -> World -> Prop := fun x a w => match x with
 | .normal => wpList P ops Q l a w
 | x => Q x a w
theorem wp_mono2 {P : Program} {o : Oper} {a : Act} {w : World} {K K' : Act -> World -> Prop} {Q Q' : Exit -> Act -> World -> Prop} (h : ∀ a w, K a w -> K' a w) (hp : ∀ c a w, Q (.panic c) a w -> Q' (.panic c) a w) (hl : LetsOut Q -> LetsOut Q') (hh : o.wp P a w K Q) : o.wp P a w K' Q' := by
 unfold Oper.wp at *
 generalize (execOp a.eval o).run P w = r at *
 cases r with
 | ok n w' =>
   cases n <;> simp only [Oper.upon] at hh ⊢ <;>
     first
       | exact h _ _ hh
       | exact Calls.mono hh (fun e w'' he => by cases e <;> first | exact h _ _ he | exact hp _ _ _ he | exact hl he)
       | exact Rows.mono hh (fun _ _ he => h _ _ he)
 | halt x w' => cases x <;> simp only [Oper.upon] at hh ⊢ <;> exact hp _ _ _ hh
theorem wpList_app {P : Program} {ops : Array Oper} {Q : Exit -> Act -> World -> Prop} {l2 : List Oper} : ∀ {l1 : List Oper} {a : Act} {w : World}, wpList P ops (thenQ P ops Q l2) l1 a w -> wpList P ops Q (l1 ++ l2) a w
 | [], a, w, h => h
 | o :: rest, a, w, h => by
   show wpList P ops Q (o :: (rest ++ l2)) a w
   unfold wpList at h ⊢
   by_cases hw : Region.wanted o (yielded ops a.tmps) = true
   . rw [if_pos hw] at h ⊢
     rcases h with h | ⟨h1, h2⟩
     . exact .inl (wp_mono2 (fun a w h => wpList_app h) (fun c a w h => h) (fun ⟨a', w', h⟩ => ⟨a', w', h⟩) h)
     . obtain ⟨a', w', h2⟩ := h2
       exact .inr ⟨h1, ⟨a', w', h2⟩⟩
   . rw [if_neg hw] at h ⊢
     exact wpList_app h
theorem wp_mid {P : Program} {n : Nat} {ν : Nu} {s : St} {a : Act} {o : Oper} {f : FuncId} {args : List SV} {w : World} {K : Act -> World -> Prop} {Q : Exit -> Act -> World -> Prop} (h : callArgs s o = some (f, args)) (ht : TR n ν s a)
   (hf : ∃ fn, P.funcs[f]? = some fn ∧ (fn.name == "runtime.NumGoroutine") = false ∧ fn.body.isNone = false)
   (hc : ∀ vs, IsL ν args vs -> Calls P f vs.toArray w fun e w' => ∃ v, e = .returned v /\ K (a.put o.dst v) w') : o.wp P a w K Q := by
 obtain ⟨vs, hvs, hr⟩ := callArgs_run h ht
 unfold Oper.wp
 rw [hr hf w]
 simp only [Oper.upon]
 exact (hc vs hvs).mono fun e w' ⟨v, he, hk⟩ => by subst he; exact hk
theorem list_mid {P : Program} {ops : Array Oper} {n : Nat} {ν : Nu} {s : St} {a : Act} {o : Oper} {rest : List Oper} {f : FuncId} {args : List SV} {w : World} {Q : Exit -> Act -> World -> Prop} (hg : o.guard = none) (h : callArgs s o = some (f, args)) (ht : TR n ν s a)
   (hf : ∃ fn, P.funcs[f]? = some fn ∧ (fn.name == "runtime.NumGoroutine") = false ∧ fn.body.isNone = false)
   (hc : ∀ vs, IsL ν args vs -> Calls P f vs.toArray w fun e w' => ∃ v, e = .returned v /\ wpList P ops Q rest (a.put o.dst v) w') : wpList P ops Q (o :: rest) a w :=
 wpList_plain hg fun K hK => wp_mid h ht hf fun vs hvs => (hc vs hvs).mono fun e w' ⟨v, he, hk⟩ => ⟨v, he, hK _ _ hk⟩
theorem WR.void (w : World) (ν : Nu) : WR (base0 w) ν ⟨[], []⟩ true w :=
 ⟨Below.refl _ _, fun i b h => by simp at h, fun i b h => by simp at h, fun i j h => absurd h (Nat.not_lt_zero _), fun k e h => by simp at h, fun k e h => by simp at h, fun h => (by cases h), Fr.void _ _ _⟩
theorem look_mem : ∀ (l : List (Nat × SV)) (t : Nat), look l t = .any \/ ∃ x, (t, x) ∈ l /\ look l t = x
 | [], t => .inl rfl
 | (d, x) :: r, t => by
   show (bif Nat.beq d t then x else look r t) = .any \/ ∃ y, (t, y) ∈ (d, x) :: r /\ (bif Nat.beq d t then x else look r t) = y
   cases hb : Nat.beq d t
   . rcases look_mem r t with h | ⟨y, h1, h2⟩
     . exact .inl h
     . exact .inr ⟨y, List.mem_cons_of_mem _ h1, h2⟩
   . obtain rfl := qB hb
     exact .inr ⟨x, List.mem_cons_self, rfl⟩
theorem TR.rebase {n : Nat} {ν ν' : Nu} {s s' : St} {a : Act} (h : TR n ν s a) (hl : ∀ p ∈ s'.tmps, ∀ v, Is ν (look s.tmps p.1) v -> Is ν' p.2 v) : TR n ν' s' a :=
 ⟨h.size, fun t => by
   rcases look_mem s'.tmps t with h1 | ⟨x, h1, h2⟩
   . rw [h1]; trivial
   . rw [h2]
     exact hl (t, x) h1 _ (h.tm t), h.df⟩
def ownV (g : Nat) : Value := .slice (some ⟨g, 0, none⟩) 1 1
noncomputable def ownE (ν : Nu) (b : Blk) : LE := ⟨b.elem, b.cells.length, 1, fun _ => concB ν b.cells, false, false, true⟩
theorem concB_length (ν : Nu) (l : List SV) : (concB ν l).length = l.length := by unfold concB; exact List.length_map _
theorem own_row {w0 : Base} {ν : Nu} {own : Mem} {mem : Bool} {w : World} (hw : WR w0 ν own mem w) {i : Nat} {b : Blk} (hb : own.b[i]? = some b) (hk : b.kd = .cells) (hn : 0 < b.cells.length) (ho : (concB ν b.cells).all Value.oneCell' = true) : rowG (frz w) (ownV (ν.l i)) (ownE ν b) := by
 have h1 := (hw.blk i b hb).1.cells hk
 refine ⟨⟨hn, fun j hj => ⟨concB_length _ _, ho⟩⟩, _, _, rfl, Nat.le_refl _, fun _ => ⟨ν.l i, 0, concB ν b.cells, rfl, ?_, fun j hj o c hc => ?_⟩⟩
 . show frz w (ν.l i) = some _
   unfold frz
   rw [h1]
 . obtain rfl : j = 0 := Nat.lt_one_iff.mp hj
   rw [Nat.zero_mul, Nat.zero_add]
   exact hc
theorem own_ptr {ν ν' : Nu} {i off : Nat} {b : Blk} {v : Value} (h : Is ν (.inr (i, off, none)) v) : Is ν' (.rp (ownV (ν.l i)) (ownE ν b) 0 off) v := by
 have h1 : v = .pointer (some ⟨ν.l i, off, none⟩) := h
 show v = placeOf (ownV (ν.l i)) (0 * b.cells.length + off)
 rw [h1, Nat.zero_mul, Nat.zero_add]
 show _ = Value.pointer (some ⟨ν.l i, 0 + off, none⟩)
 rw [Nat.zero_add]
noncomputable def runOps (E : Env) (fuel n : Nat) (ops : Array Oper) (l : List Oper) (p : Pick) (orc : List Bool) (s : St) : Option (St × List (Bool × Bool)) := match simOps E (enterS E (simC E fuel)) n ops false l { s with orc := orc, obl := [] } with
 | some s' => match pickS p s' with
   | some s2 => some (s2, s'.obl)
   | none => none
 | none => none
theorem runOps_ok {E : Env} (HC : CallOk E) {w0 : Base} (hG : GlobB E w0) {fuel n : Nat} {ops : Array Oper} {l : List Oper} {p : Pick} {orc : List Bool} {s s2 : St} {ob : List (Bool × Bool)} (hg : goodB s = true) (h : runOps E fuel n ops l p orc s = some (s2, ob)) (hl : ∀ p ∈ ob, p.1 = p.2)
   {Q : Exit -> Act -> World -> Prop} {ν : Nu} {a : Act} {w : World} (ht : TR n ν s a) (hw : WR w0 ν s.own s.mem w) (hQ : ∀ ν' a' w', TR n ν' s2 a' -> WR w0 ν' s2.own s2.mem w' -> Q .normal a' w') : wpList E.P ops Q l a w := by
 unfold runOps at h
 split at h
 . rename_i s' hs
   split at h
   . rename_i s3 hp
     simp only [qS, qP] at h
     obtain ⟨rfl, rfl⟩ := h
     have g0 := goodB_ok hg
     have g1 : Good { s with orc := orc, obl := [] } := ⟨g0.lo, g0.llo, g0.ok, g0.okb⟩
     have hst := enterS_st (E := E) (simC_st E fuel)
     obtain ⟨l1, g2⟩ := simOps_st hst l _ _ g1 hs
     refine simOps_wp HC hst (enterS_ok HC hG (simC_st E fuel) (simC_ok HC hG fuel)) hG l _ _ hs g1 hl ν a w ⟨ht.size, ht.tm, ht.df⟩ hw fun ν' a' w' _ ht' hw' => ?_
     obtain ⟨ν2, _, ht2, hw2⟩ := pick_okA (nb := 0) (nl := 0) (.zero _) rfl rfl hp g2.1 ht' hw'
     exact hQ ν2 a' w' ht2 hw2
   . cases h
 . cases h
end Go.Proofs.Ytmaffamhjmlonaa.S2
