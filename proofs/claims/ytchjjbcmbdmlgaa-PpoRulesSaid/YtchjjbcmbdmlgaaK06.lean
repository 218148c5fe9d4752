/- Gen16, Lst16, Dec16. -/
import Derived.Test.YtchjjbcmbdmlgaaK01
import Derived.Test.YtchjjbcmbdmlgaaK02
import Derived.Test.YtchjjbcmbdmlgaaK03
import Derived.Test.YtchjjbcmbdmlgaaRef04
import Derived.Deep.RegionHeld3
import Derived.StillTailTactics
import Derived.Deep.OwnRows
set_option linter.unusedVariables false
set_option linter.unusedSimpArgs false
namespace Go.Proofs.Ytchjjbcmbdmlgaa
open Go Go.RowKit
theorem Act.put_put {a : Act} {d e : Tmp} {u v : Value} (h : d ≠ e) : (a.put (some d) u).put (some e) v = (a.put (some e) v).put (some d) u := by
  simp only [Act.put]
  rw [Array.setIfInBounds_comm _ _ h]
theorem held_two {P : Program} {ops : Array Oper} {Q : Exit → Act → World → Prop} {md : Region.Mode} {S : World → Prop} {n i j : Nat} {listed : Array Bool} {a : Act} {w wi wj : World} (oi oj : Oper) {vi vj : Value}
    (hr : Region.ready md ops listed = [i, j]) (hi : ops[i]? = some oi) (hj : ops[j]? = some oj) (wi1 : Region.wanted oi (yielded ops a.tmps) = true) (wj1 : Region.wanted oj (yielded ops a.tmps) = true)
    (ri : (execOp a.eval oi).run P w = .ok (.value vi) wi) (rj : (execOp a.eval oj).run P w = .ok (.value vj) wj) (Si : S wi) (Sj : S wj)
    (Hi : wpAnyH P md ops Q S n (listed.setIfInBounds i true) (a.put oi.dst vi) wi) (Hj : wpAnyH P md ops Q S n (listed.setIfInBounds j true) (a.put oj.dst vj) wj) : wpAnyH P md ops Q S (n + 1) listed a w :=
  wpAnyH_all hr (by simp) fun k hk => by
    have hk : k = i ∨ k = j := by simpa using hk
    rcases hk with rfl | rfl
    · refine wpOp_step hi fun K hK => ?_
      rw [if_pos wi1]
      unfold Oper.wp
      rw [ri]
      exact hK _ _ ⟨Si, Hi⟩
    · refine wpOp_step hj fun K hK => ?_
      rw [if_pos wj1]
      unfold Oper.wp
      rw [rj]
      exact hK _ _ ⟨Sj, Hj⟩
theorem held_swap {P : Program} {ops : Array Oper} {Q : Exit → Act → World → Prop} {md : Region.Mode} {S : World → Prop} {n i j : Nat} {listed : Array Bool} {a : Act} {w wj : World} (oi oj : Oper) (di dj : Tmp) {vi vj : Value}
    (hr1 : Region.ready md ops listed = [i, j]) (hr2 : Region.ready md ops (listed.setIfInBounds i true) = [j]) (hr3 : Region.ready md ops (listed.setIfInBounds j true) = [i]) (hij : i ≠ j) (hi : ops[i]? = some oi) (hj : ops[j]? = some oj) (gi : oi.guard = none) (gj : oj.guard = none)
    (di' : oi.dst = some di) (dj' : oj.dst = some dj) (n1 : di ≠ dj) (ri : (execOp a.eval oi).run P w = .ok (.value vi) w) (ri' : (execOp (a.put (some dj) vj).eval oi).run P wj = .ok (.value vi) wj)
    (rj : (execOp a.eval oj).run P w = .ok (.value vj) wj) (rj' : (execOp (a.put (some di) vi).eval oj).run P w = .ok (.value vj) wj) (S0 : S w) (S1 : S wj)
    (h : wpAnyH P md ops Q S n ((listed.setIfInBounds i true).setIfInBounds j true) ((a.put (some di) vi).put (some dj) vj) wj) : wpAnyH P md ops Q S (n + 2) listed a w := by
  have hw : ∀ (o : Oper) (a : Act), o.guard = none → Region.wanted o (yielded ops a.tmps) = true := fun o a hg => by simp [Region.wanted, hg]
  refine held_two oi oj hr1 hi hj (hw _ _ gi) (hw _ _ gj) ri rj S0 S1 ?_ ?_
  · rw [di']
    refine held_op oj hr2 hj (hw _ _ gj) rj' S1 ?_
    rw [dj']; exact h
  · rw [dj']
    refine held_op oi hr3 hi (hw _ _ gi) ri' S1 ?_
    rw [di', Array.setIfInBounds_comm _ _ hij.symm, Act.put_put n1.symm]; exact h
theorem held_wp {P : Program} {ops : Array Oper} {Q : Exit → Act → World → Prop} {md : Region.Mode} {S : World → Prop} {n i : Nat} {listed : Array Bool} {a : Act} {w : World} (o : Oper) (hr : Region.ready md ops listed = [i]) (ho : ops[i]? = some o) (hw : Region.wanted o (yielded ops a.tmps) = true)
    (h : o.wp P a w (fun a' w' => S w' ∧ wpAnyH P md ops Q S n (listed.setIfInBounds i true) a' w') Q) : wpAnyH P md ops Q S (n + 1) listed a w :=
  wpAnyH_all hr (by simp) fun k hk => by
    have hk : k = i := by simpa using hk
    subst hk
    unfold wpOp
    rw [ho]
    show if Region.wanted o (yielded ops a.tmps) = true then _ else _
    rw [if_pos hw]
    exact .inl h
theorem own_ne {w : World} {B b N size n : Nat} {e t : TypeId} {v : Value} {xs : List Value} {F : Nat → Value} (h : w.ownsRow B e size v n xs) (hb : Hb w b t N F) (hne : e ≠ t) : v.ownBlock ≠ some b := fun he => by
  rcases h.2 with ⟨rfl, _⟩ | ⟨g, cap, cur, rfl, _, hg, _⟩
  · cases he
  · obtain ⟨cs, h1, _⟩ := hb
    have : g = b := by simpa [Value.ownBlock] using he
    subst this
    rw [hg] at h1
    simp at h1
    exact hne h1.2
theorem ownsRow_below {w w' : World} {B : Nat} {e : TypeId} {size : Nat} {v : Value} {n : Nat} {xs : List Value} (h : w.ownsRow B e size v n xs) (hb : Below w.heap.size w w') : w'.ownsRow B e size v n xs :=
  h.kept (row := none) ⟨hb.os, hb.tape, hb.output, hb.size, fun k hk _ => hb.block k hk⟩ (by cases hv : v.ownBlock with | none => exact .inl rfl | some b => exact .inr (by simp))
theorem Fr.grown {T : List Nat} {a w w' : World} {row : Option Nat} (h : Fr T a w) (hg : w.grownBy w' row) (hr : ∀ b, row = some b → b ∈ T ∨ a.heap.size ≤ b) : Fr T a w' :=
  ⟨hg.os.trans h.os, hg.tape.trans h.tape, hg.output.trans h.output, Nat.le_trans h.size hg.size, fun k hk ht => (hg.block k (Nat.lt_of_lt_of_le hk h.size) (fun e => by
    rcases hr k e.symm with h1 | h1
    · exact ht h1
    · omega)).trans (h.block k hk ht)⟩
def ownL (v : Value) : List Nat := match v.ownBlock with | some b => [b] | none => []
theorem held_fork {P : Program} {ops : Array Oper} {Q : Exit → Act → World → Prop} {md : Region.Mode} {S : World → Prop} {n i j : Nat} {listed : Array Bool} {a : Act} {w : World} (oi oj : Oper)
    (hr : Region.ready md ops listed = [i, j]) (hi : ops[i]? = some oi) (hj : ops[j]? = some oj) (wi1 : Region.wanted oi (yielded ops a.tmps) = true) (wj1 : Region.wanted oj (yielded ops a.tmps) = true)
    (Hi : oi.wp P a w (fun a' w' => S w' ∧ wpAnyH P md ops Q S n (listed.setIfInBounds i true) a' w') Q) (Hj : oj.wp P a w (fun a' w' => S w' ∧ wpAnyH P md ops Q S n (listed.setIfInBounds j true) a' w') Q) : wpAnyH P md ops Q S (n + 1) listed a w :=
  wpAnyH_all hr (by simp) fun k hk => by
    have hk : k = i ∨ k = j := by simpa using hk
    rcases hk with rfl | rfl
    · unfold wpOp
      rw [hi]
      show if Region.wanted oi (yielded ops a.tmps) = true then _ else _
      rw [if_pos wi1]
      exact .inl Hi
    · unfold wpOp
      rw [hj]
      show if Region.wanted oj (yielded ops a.tmps) = true then _ else _
      rw [if_pos wj1]
      exact .inl Hj
theorem wp_call {P : Program} {o : Oper} {a : Act} {w : World} {K : Act → World → Prop} {Q : Exit → Act → World → Prop} {f : FuncId} {args : Array Value} (hv : (execOp a.eval o).run P w = .ok (.enter f args) w) (h : Calls P f args w fun e w' => ∃ v, e = .returned v ∧ K (a.put o.dst v) w') : o.wp P a w K Q := by
  unfold Oper.wp
  rw [hv, Oper.upon_enter]
  refine Calls.mono h fun e w' ⟨v, he, h⟩ => ?_
  subst he
  exact h
theorem wp_val {P : Program} {o : Oper} {a : Act} {w w' : World} {K : Act → World → Prop} {Q : Exit → Act → World → Prop} {v : Value} (hv : (execOp a.eval o).run P w = .ok (.value v) w') (h : K (a.put o.dst v) w') : o.wp P a w K Q := by
  unfold Oper.wp
  rw [hv]
  exact h
theorem wp_ld_of {ops : Array Oper} {rest : List Oper} {op : Oper} {a : Act} {w : World} {Q : Exit → Act → World → Prop} (hgd : op.guard = none) (ty : TypeId) (x : Operand) (ho : op.op = .load ty x) {b o : Nat} {v : Value} (hx : a.eval x = .pointer (some ⟨b, o, none⟩)) (hr : (loadVar ty ⟨b, o, none⟩).run Try.prog w = .ok v w)
    (h : wpList Try.prog ops Q rest (a.put op.dst v) w) : wpList Try.prog ops Q (op :: rest) a w :=
  wpList_plain hgd fun _ hK => by
    unfold Oper.wp execOp
    simp only [ho, hx, Instr.loadAt, Instr.sureAddr, Sem.run_bind, Sem.run_pure, Result.andThen_ok, hr]
    exact hK _ _ h
abbrev inA (i : In) : Array Value := #[.int .i64 i.op, .int .i64 i.rd, .int .i64 i.a, .int .i64 i.b, .int .i64 i.imm, .bool i.aq, .bool i.rl]
def inC (i : In) (k : Nat) : Value := (inA i).getD k undef
theorem Hb.instr (W : World) (i : In) (t : TypeId) : Hb (W.alloc (.cells (inA i) t)) W.heap.size t 7 (inC i) := Hb.new W (inA i) t (f := inC i) (fun k hk => by
  have hk : k < 7 := hk
  have : k = 0 ∨ k = 1 ∨ k = 2 ∨ k = 3 ∨ k = 4 ∨ k = 5 ∨ k = 6 := by omega
  rcases this with rfl | rfl | rfl | rfl | rfl | rfl | rfl <;> rfl)
theorem instrInfo : (Try.prog.info? 41).map (·.size) = some 7 := by kernel_rfl
theorem inA_get (i : In) : ∀ k, k < 7 → (inA i).toList[k]? = some (inC i k) := fun k hk => by
  have : k = 0 ∨ k = 1 ∨ k = 2 ∨ k = 3 ∨ k = 4 ∨ k = 5 ∨ k = 6 := by omega
  rcases this with rfl | rfl | rfl | rfl | rfl | rfl | rfl <;> rfl
theorem st_instr {w : World} {b : Nat} {F : Nat → Value} {t : TypeId} (h : Hb w b t 7 F) (i : In) : (storeVar 41 ⟨b, 0, none⟩ (.agg (inA i))).run Try.prog w = .ok () (w.setCells b 0 (inA i).toList) :=
  run_storeVar_mid (P := Try.prog) w b 0 41 (inA i) (h.there (by simp)) instrInfo (by simp [Value.oneCell'])
theorem Hb.storeI {W : World} {b : Nat} {t : TypeId} {F : Nat → Value} (h : Hb W b t 7 F) (i : In) : Hb (W.setCells b 0 (inA i).toList) b t 7 (inC i) :=
  (h.sets (o := 0) (vs := (inA i).toList)).congr fun k hk => by
    have := updR_in (F := F) (o := 0) (vs := (inA i).toList) (j := k) (by simpa using hk)
    rw [Nat.zero_add] at this
    rw [this, List.getD_eq_getElem?_getD, inA_get i k hk]; rfl
theorem load_instr {w : World} {b o N : Nat} {t : TypeId} {F : Nat → Value} (h : Hb w b t N F) (i : In) (hF : ∀ k, k < 7 → F (o + k) = inC i k) (hn : o + 7 ≤ N) : (loadVar 41 ⟨b, o, none⟩).run Try.prog w = .ok (.agg (inA i)) w :=
  run_loadVar_mid w b o _ (inA i).toList _ (h.range (fun j hj => by
    have hj : j < 7 := by simpa using hj
    rw [inA_get i j hj, hF j hj]) (by simpa using hn)) Try.underlying41 rfl instrInfo
section
variable {ops : Array Oper} {rest : List Oper} {op : Oper} {a : Act} {w : World} {Q : Exit → Act → World → Prop}
theorem wp_st_of (hgd : op.guard = none) (ty : TypeId) (x y : Operand) (ho : op.op = .store ty x y) {g : Nat} {v : Value} {w' : World} (hx : a.eval x = .pointer (some ⟨g, 0, none⟩)) (hy : a.eval y = v) (hr : (storeVar ty ⟨g, 0, none⟩ v).run Try.prog w = .ok () w')
    (h : wpList Try.prog ops Q rest (a.put op.dst undef) w') : wpList Try.prog ops Q (op :: rest) a w :=
  wpList_plain hgd fun _ hK => by
    unfold Oper.wp execOp
    simp only [ho, hx, hy, Instr.storeAt, Instr.sureAddr, Sem.run_bind, Sem.run_pure, Result.andThen_ok, hr]
    exact hK _ _ h
end
def arrF (a : Array Value) (k : Nat) : Value := a.getD k undef
theorem Hb.arr (W : World) (a : Array Value) (t : TypeId) : Hb (W.alloc (.cells a t)) W.heap.size t a.size (arrF a) := Hb.new W a t (f := arrF a) (fun k hk => by simp [arrF, Array.getD, hk])
end Go.Proofs.Ytchjjbcmbdmlgaa
namespace Go.Proofs.Ytchjjbcmbdmlgaa
open Go Go.RowKit
structure Rise (N n : Nat) (F : Nat → Int) : Prop where
  up : ∀ i j, i < j → j < n → F i < F j
  inn : ∀ i, i < n → 0 ≤ F i ∧ F i < N
theorem Rise.len {N n : Nat} {F : Nat → Int} (h : Rise N n F) : n ≤ N := by
  have key : ∀ i, i < n → (i : Int) ≤ F i := fun i => by
    induction i with
    | zero => intro hi; exact (h.inn 0 hi).1
    | succ i ih => intro hi; have := ih (by omega); have := h.up i (i + 1) (by omega) hi; omega
  rcases Nat.eq_zero_or_pos n with h0 | h0
  · omega
  · have := key (n - 1) (by omega); have := (h.inn (n - 1) (by omega)).2; omega
theorem Rise.mono {N N' n : Nat} {F : Nat → Int} (h : Rise N n F) (hN : N ≤ N') : Rise N' n F := ⟨h.up, fun i hi => ⟨(h.inn i hi).1, by have := (h.inn i hi).2; omega⟩⟩
theorem Rise.nil (N : Nat) (F : Nat → Int) : Rise N 0 F := ⟨fun _ _ _ h => by omega, fun _ h => by omega⟩
def LsW (w : World) (M : List Nat) (N : Nat) (v : Value) : Prop := ∃ (q : Option Addr) (n c : Nat) (F : Nat → Int), v = .slice q n c ∧ Rise N n F ∧ (0 < n → ∃ b o, q = some ⟨b, o, none⟩ ∧ b < w.heap.size ∧ b ∉ M ∧ ∀ i, i < n → w.cell? ⟨b, o + i, none⟩ = some (.int .i64 (F i)))
theorem LsW.nil (w : World) (M : List Nat) (N : Nat) : LsW w M N (.slice none 0 0) := ⟨none, 0, 0, fun _ => 0, rfl, Rise.nil _ _, fun h => by omega⟩
theorem LsW.mono {w : World} {M : List Nat} {N N' : Nat} {v : Value} (h : LsW w M N v) (hN : N ≤ N') : LsW w M N' v := by
  obtain ⟨q, n, c, F, h1, h2, h3⟩ := h
  exact ⟨q, n, c, F, h1, h2.mono hN, h3⟩
theorem LsW.fr {w w' : World} {T M M' : List Nat} {N : Nat} {v : Value} (h : LsW w M N v) (hf : Fr T w w') (hT : ∀ k, k ∈ T → k ∈ M ∨ w.heap.size ≤ k) (hM : ∀ k, k ∈ M' → k ∈ M ∨ w.heap.size ≤ k) : LsW w' M' N v := by
  obtain ⟨q, n, c, F, h1, h2, h3⟩ := h
  refine ⟨q, n, c, F, h1, h2, fun hp => ?_⟩
  obtain ⟨b, o, e, hb, hm, hc⟩ := h3 hp
  have hnT : b ∉ T := fun hk => (hT b hk).elim hm (fun h => by omega)
  exact ⟨b, o, e, Nat.lt_of_lt_of_le hb hf.size, (fun hk => (hM b hk).elim hm (fun h => by omega)), fun i hi => by
    have := hf.block b hb hnT
    rw [← hc i hi]; simp only [World.cell?, this]⟩
theorem LsW.below {w w' : World} {M M' : List Nat} {N : Nat} {v : Value} (h : LsW w M N v) (hb : Below w.heap.size w w') (hM : ∀ k, k ∈ M' → k ∈ M ∨ w.heap.size ≤ k) : LsW w' M' N v := h.fr (T := []) (Fr.of_below hb) (by simp) hM
theorem LsW.same {w w' : World} {M : List Nat} {N : Nat} {v : Value} (h : LsW w M N v) (hb : Below w.heap.size w w') : LsW w' M N v := h.below hb fun _ hk => .inl hk
def LsO (B : Nat) (w : World) (N : Nat) (v : Value) : Prop := ∃ (q : Option Addr) (n c : Nat) (F : Nat → Int), v = .slice q n c ∧ Rise N n F ∧ (0 < n → ∃ b o, q = some ⟨b, o, none⟩ ∧ b < w.heap.size ∧ B ≤ b ∧ ∀ i, i < n → w.cell? ⟨b, o + i, none⟩ = some (.int .i64 (F i)))
theorem LsO.ls {B : Nat} {w : World} {N : Nat} {v : Value} (h : LsO B w N v) {M : List Nat} (hM : ∀ k, k ∈ M → k < B) : LsW w M N v := by
  obtain ⟨q, n, c, F, h1, h2, h3⟩ := h
  exact ⟨q, n, c, F, h1, h2, fun hp => by
    obtain ⟨b, o, e, hb, hm, hc⟩ := h3 hp
    exact ⟨b, o, e, hb, (fun hk => by have := hM b hk; omega), hc⟩⟩
def zL (F : Nat → Int) (n : Nat) : List Value := (List.range n).map fun i => .int .i64 (F i)
theorem zL_len (F : Nat → Int) (n : Nat) : (zL F n).length = n := by simp [zL]
theorem zL_get (F : Nat → Int) {n i : Nat} (h : i < n) : (zL F n)[i]? = some (.int .i64 (F i)) := by simp [zL, h]
theorem zL_snoc (F : Nat → Int) (n : Nat) (x : Int) : zL F n ++ [.int .i64 x] = zL (updF F n x) (n + 1) := by
  refine List.ext_getElem? fun i => ?_
  by_cases hi : i < n
  · rw [List.getElem?_append_left (by rw [zL_len]; exact hi), zL_get _ hi, zL_get _ (by omega), updF_other _ _ (by omega)]
  · by_cases e : i = n
    · subst e
      rw [List.getElem?_append_right (by rw [zL_len]; omega), zL_len, zL_get _ (by omega), updF_same, Nat.sub_self]; rfl
    · rw [List.getElem?_append_right (by rw [zL_len]; omega), zL_len, List.getElem?_eq_none (by simp; omega), List.getElem?_eq_none (by rw [zL_len]; omega)]
theorem LsO.of_own {w : World} {B n N : Nat} {v : Value} {F : Nat → Int} (h : w.ownsRow B 3 1 v n (zL F n)) (hr : Rise N n F) : LsO B w N v := by
  rcases h.2 with ⟨rfl, h0⟩ | ⟨g, cap, cur, rfl, hg, hh, _⟩
  · exact ⟨none, 0, 0, F, rfl, by subst h0; exact hr, fun hp => by omega⟩
  · refine ⟨_, n, cap, F, rfl, hr, fun _ => ⟨g, 0, rfl, ?_, (h.lt g rfl).1, fun i hi => ?_⟩⟩
    · exact (h.lt g rfl).2
    · rw [Nat.zero_add, World.ownsRow.cellAt h i (by omega), zL_get _ hi]
end Go.Proofs.Ytchjjbcmbdmlgaa
namespace Go.Proofs.Ytchjjbcmbdmlgaa
open Go Go.RowKit Sim
theorem bits5_i (v f n a : Int) (hf : 0 ≤ f ∧ f ≤ 100) (hn : 0 ≤ n ∧ n ≤ 100) (ha : 0 ≤ a ∧ a ≤ 100) (w : World) : Calls Try.prog 78 #[.int .u32 v, .int .i64 f, .int .i64 n, .int .i64 a] w (Ai .i64 w) := by
  have := bits5_w v f.toNat n.toNat a.toNat (by omega) (by omega) (by omega) w
  rwa [Int.toNat_of_nonneg hf.1, Int.toNat_of_nonneg hn.1, Int.toNat_of_nonneg ha.1] at this
theorem sign_i (v n : Int) (hn : 1 ≤ n ∧ n ≤ 100) (w : World) : Calls Try.prog 92 #[.int .u64 v, .int .i64 n] w (Ai .i64 w) := by
  have := sign_w v n.toNat (by omega) (by omega) w
  rwa [Int.toNat_of_nonneg (by omega)] at this
theorem bit_i (v n : Int) (hn : 0 ≤ n ∧ n ≤ 100) (w : World) : Calls Try.prog 81 #[.int .u64 v, .int .i64 n] w (Ai .i64 w) := by
  have := bit_w v n.toNat (by omega) w
  rwa [Int.toNat_of_nonneg (by omega)] at this
set_option maxHeartbeats 4000000 in
theorem imm_w (v f : Int) (w : World) : Calls Try.prog 76 #[.int .u32 v, .int .i64 f] w (Ai .i64 w) := by
  go_enter Try.func76, Try.ntmps76
  go_wp2_with (first
    | (go_at_call 78; refine (bits5_i _ _ _ _ (by decide) (by decide) (by decide) _).mono ?_; rintro e w' ⟨⟨z, hz, rfl⟩, rfl⟩)
    | (go_at_call 92; refine (sign_i _ _ (by decide) _).mono ?_; rintro e w' ⟨⟨z2, hz2, rfl⟩, rfl⟩))
  all_goals
    go_ret
    exact ⟨⟨_, (fun h => by first | exact hz2 (by trivial) | exact hz (by trivial) | exact isN_k _ | exact isN_w _ | assumption | (exact absurd h (by decide)) | (unfold isN; omega) | (exact (show isN _ by unfold isN; decide))), rfl⟩, rfl⟩
structure DecI (i : In) : Prop where
  op : 0 ≤ i.op ∧ i.op ≤ 87
  rd : 0 ≤ i.rd ∧ i.rd ≤ 31
  a : 0 ≤ i.a ∧ i.a ≤ 31
  b : 0 ≤ i.b ∧ i.b ≤ 31
  fe : i.op = 63 → 0 ≤ i.imm ∧ i.imm ≤ 255
  im : isN i.imm
theorem regB_in {r : Int} {u : Bool} (h : regB r u = true) : 0 ≤ r ∧ r ≤ 31 := by
  unfold regB at h
  split at h <;> simp at h <;> omega
theorem decI_may {i : In} (h : mayB i = true) (him : isN i.imm) : DecI i := by
  unfold mayB at h
  simp only [Bool.and_eq_true] at h
  obtain ⟨h1, h2, h3, h4, h5, _⟩ := h
  have ho : 1 ≤ i.op ∧ i.op ≤ 87 := by simpa [okB] using h1
  refine ⟨⟨by omega, ho.2⟩, regB_in h2, regB_in h3, regB_in h4, fun e => ?_, him⟩
  rw [e] at h5
  have : formZ 63 = 9 := by decide
  rw [this] at h5
  simpa [immB, btwB] using h5
theorem decI_none (x : Int) (hx : isN x) : DecI ⟨0, 0, 0, 0, x, false, false⟩ := ⟨by simp, by simp, by simp, by simp, (fun h => by cases h), hx⟩
theorem word_w (op : Int) (h : 1 ≤ op ∧ op ≤ 87) (w : World) : Ret Try.prog 75 #[.int .i64 op] (.int .u32 (wordZ op)) w :=
  pRefWord_ok (gl := fun _ => none) 75 [.int .i64 op] (.int .u32 (wordZ op)) (by simp [pRefWord, prow, decI, okB, pre, h.1, h.2]) w (GlobOk.none w)
end Go.Proofs.Ytchjjbcmbdmlgaa
