/- The evaluator with lists answers what the call returns: from one operation to the next; regions. No word of the program. -/
import Derived.Test.YtcofdcpadbpmnaaS2D
namespace Go.Proofs.Ytcofdcpadbpmnaa.S2
open Go Go.RowKit Sim
set_option linter.unusedVariables false
set_option linter.unusedSimpArgs false

theorem conc_one {ν : Nu} {s : St} {w0 w : World} {mem : Bool} (hw : WR w0 ν s.own mem w) {y : SV} (h : oneS s y = true) : y ≠ .any ∧ (conc ν y).cells = #[conc ν y] ∧ (conc ν y).oneCell' = true := by
  cases y with
  | inl p =>
    obtain ⟨fl, v⟩ := p
    have h : v.oneCell' = true := h
    refine ⟨by simp, ?_, h⟩
    show v.cells = #[v]
    cases v <;> first | rfl | (cases h; done)
  | inr p =>
    obtain ⟨i, off, _ | ⟨len, cap⟩⟩ := p
    · exact ⟨by simp, rfl, rfl⟩
    · exact ⟨by simp, rfl, rfl⟩
  | c k =>
    unfold oneS at h
    simp only at h
    split at h
    · rename_i e he
      obtain ⟨hk, hd⟩ := getL_some he
      obtain ⟨_, a, cap, hv, _⟩ := hw.inB hk hd
      refine ⟨by simp, ?_, ?_⟩
      · show (ν.v k).cells = #[ν.v k]
        rw [hv]; rfl
      · show (ν.v k).oneCell' = true
        rw [hv]; rfl
    · cases h
  | fn f fs cs => exact ⟨by simp, rfl, rfl⟩
  | lp k j o sz => cases h
  | tp l => cases h
  | sub k lo n sz => cases h
  | any => cases h
theorem cellsS_ok {s : St} {y : SV} {cs : List SV} (h : cellsS s y = some cs) {w0 w : World} {ν : Nu} {mem : Bool} (hw : WR w0 ν s.own mem w) : y ≠ .any ∧ concB ν cs = (conc ν y).cells.toList ∧ (conc ν y).cells.toList.all Value.oneCell' = true := by
  have one : ∀ {y : SV}, oneS s y = true → y ≠ .any ∧ concB ν [y] = (conc ν y).cells.toList ∧ (conc ν y).cells.toList.all Value.oneCell' = true := fun {y} hy => by
    obtain ⟨h1, h2, h3⟩ := conc_one hw hy
    exact ⟨h1, by rw [h2]; rfl, by rw [h2]; simp [h3]⟩
  unfold cellsS at h
  split at h
  · rename_i fl v
    cases hb : v.cells.toList.all Value.oneCell'
    · rw [hb] at h; cases h
    · rw [hb] at h
      simp only [cond_true, Option.some.injEq] at h
      subst h
      exact ⟨by simp, concB_mkCells ν _ _, hb⟩
  · simp only [Option.some.injEq] at h
    subst h
    exact one rfl
  · rename_i k
    split at h
    · rename_i e he
      simp only [Option.some.injEq] at h
      subst h
      exact one (by unfold oneS; simp only [he])
    · cases h
  · simp only [Option.some.injEq] at h
    subst h
    exact one rfl
  · cases h
theorem putLS_conc (ν : Nu) : ∀ (vs c : List SV) (o : Nat), concB ν (putLS c o vs) = putL (concB ν c) o (concB ν vs)
  | [], c, o => rfl
  | v :: r, c, o => by
    show concB ν (putLS (c.set o v) (o + 1) r) = putL ((concB ν c).set o (conc ν v)) (o + 1) (concB ν r)
    rw [putLS_conc ν r]
    unfold concB
    rw [List.map_set]
theorem storeS_ok {P : Program} {t : TypeId} {cs us cs' : List SV} {off : Nat} {ν : Nu} {v : Value} (h : storeS P t cs off us = some cs') (h1 : concB ν us = v.cells.toList) (h2 : v.cells.toList.all Value.oneCell' = true) : storeB P t (concB ν cs) off v = some (concB ν cs') := by
  unfold storeS at h
  unfold storeB
  split at h
  · rename_i i hi
    cases hb : (Nat.beq us.length i.size && Nat.ble (off + i.size) cs.length)
    · rw [hb] at h; cases h
    · rw [hb] at h
      simp only [cond_true, Option.some.injEq] at h
      subst h
      have l1 : us.length = v.cells.toList.length := by rw [← h1]; unfold concB; simp
      have l2 : cs.length = (concB ν cs).length := by unfold concB; simp
      rw [l1, l2] at hb
      simp only [hi, hb, h2, Bool.and_self, cond_true, Option.some.injEq]
      unfold putQ putQS
      rw [l1, l2]
      cases (Nat.beq off 0 && Nat.beq v.cells.toList.length (concB ν cs).length)
      · simp only [cond_false]; rw [putLS_conc, h1]
      · simp only [cond_true]; exact h1.symm
  · cases h
theorem fill_seq : ∀ (parts : List (Nat × Value)) (k : Nat) (cells : Array Value), (∀ p ∈ parts, p.2.cells = #[p.2]) → parts.map (·.1) = List.range' k parts.length → k + parts.length ≤ cells.size →
    ∃ r, Instr.fill (fun k => some (k * 1, 1)) cells parts = some r ∧ r.toList = cells.toList.take k ++ parts.map (·.2) ++ cells.toList.drop (k + parts.length)
  | [], k, cells, _, _, _ => ⟨cells, rfl, by simp⟩
  | (i, v) :: r, k, cells, h1, h2, h3 => by
    simp only [List.map_cons, List.length_cons, List.range'_succ, List.cons.injEq] at h2
    obtain ⟨rfl, h2⟩ := h2
    have hv : v.cells = #[v] := h1 (i, v) List.mem_cons_self
    simp only [List.length_cons] at h3
    obtain ⟨r', k1, k2⟩ := fill_seq r (i + 1) (cells.setIfInBounds i v) (fun p hp => h1 p (List.mem_cons_of_mem _ hp)) h2 (by simp; omega)
    refine ⟨r', ?_, ?_⟩
    · unfold Instr.fill
      have : ¬ (i + 1 > cells.size) := by omega
      simp only [Nat.mul_one] at k1
      simp [hv, this, k1]
    · rw [k2]
      have hlt : i < cells.toList.length := by simp; omega
      simp only [Array.toList_setIfInBounds, List.map_cons, List.length_cons]
      rw [List.take_set, List.drop_set, if_pos (by omega), List.take_add_one, List.getElem?_eq_getElem hlt]
      rw [List.set_append_right _ _ (by rw [List.length_take]; exact Nat.min_le_left _ _), show i - (cells.toList.take i).length = 0 by simp only [List.length_take]; omega]
      simp [show i + 1 + r.length = i + (r.length + 1) by omega]
theorem seqB_ok : ∀ (k : Nat) (l : List (Nat × SV)), seqB k l = true → l.map (·.1) = List.range' k l.length
  | _, [], _ => rfl
  | k, (i, v) :: r, h => by
    simp only [seqB, Bool.and_eq_true] at h
    simp only [List.map_cons, List.length_cons, List.range'_succ, List.cons.injEq]
    exact ⟨Nat.eq_of_beq_eq_true h.1, seqB_ok (k + 1) r h.2⟩
theorem litS_ok {P : Program} {s : St} {t e : TypeId} {len : Nat} {parts : List (Nat × SV)} {cells : List SV} (h : litS P s t len parts = some (cells, e)) {w0 w : World} {ν : Nu} {mem : Bool} (hw : WR w0 ν s.own mem w) :
    (∀ p ∈ parts, p.2 ≠ .any) ∧ litB P t len (parts.map fun p => (p.1, conc ν p.2)) = some (concB ν cells, e) := by
  have hc := litS_some h
  unfold litS at h
  unfold litB
  split at h
  · rename_i e' hu
    split at h
    · rename_i i hi
      split at h
      · rename_i z hz
        cases hb : (Nat.beq i.size 1 && Nat.beq parts.length len && Nat.blt 0 len && Nat.ble len (2 ^ 24) && seqB 0 parts && parts.all (fun p => oneS s p.2))
        · rw [hb] at h; cases h
        · rw [hb] at h
          simp only [cond_true, Option.some.injEq, Prod.mk.injEq] at h
          simp only [Bool.and_eq_true, List.all_eq_true] at hb
          obtain ⟨⟨⟨⟨⟨b1, b2⟩, b3⟩, b4⟩, b5⟩, b6⟩ := hb
          have b1 := Nat.eq_of_beq_eq_true b1
          have b2 := Nat.eq_of_beq_eq_true b2
          have b3 : 0 < len := by simpa [Nat.blt_eq] using b3
          have b4 := Nat.le_of_ble_eq_true b4
          have hone := fun p hp => conc_one hw (b6 p hp)
          refine ⟨fun p hp => (hone p hp).1, ?_⟩
          have c1 : (Nat.beq (len * i.size) 0 || Nat.blt (2 ^ 24) (len * i.size)) = false := by
            rw [b1, Nat.mul_one]
            cases hq : (Nat.beq len 0 || Nat.blt (2 ^ 24) len)
            · rfl
            · simp only [Bool.or_eq_true] at hq
              rcases hq with hq | hq
              · have := Nat.eq_of_beq_eq_true hq; omega
              · have : 2 ^ 24 < len := by simpa [Nat.blt_eq] using hq
                omega
          simp only [hu, hi, hz, c1, cond_false]
          obtain ⟨r, r1, r2⟩ := fill_seq (parts.map fun p => (p.1, conc ν p.2)) 0 ((Array.range (len * i.size)).map fun k => z.cells[k % z.cells.size]!) (fun p hp => by
            obtain ⟨q, hq, rfl⟩ := List.mem_map.mp hp
            exact (hone q hq).2.1) (by rw [List.map_map, List.length_map]; exact seqB_ok 0 parts b5) (by simp [b1, b2])
          rw [b1] at r1 r2 ⊢
          rw [r1]
          simp only [Option.some.injEq, Prod.mk.injEq]
          refine ⟨?_, h.2⟩
          rw [r2, hc]
          unfold concB
          rw [List.drop_eq_nil_of_le (by simp [b2])]
          simp
      · cases h
    · cases h
  · cases h
theorem bldOf_ok {E : Env} {t e : TypeId} {zs : List Value} (h : bldOf E t zs = some e) : zs = [.pointer none, .slice none 0 0] ∧ t ≠ e := by
  unfold bldOf at h
  split at h
  · rename_i T e' _
    cases hb : (Nat.beq T t && zeroBld zs && !Nat.beq T e')
    · rw [hb] at h; cases h
    · rw [hb] at h
      simp only [cond_true, Option.some.injEq] at h
      simp only [Bool.and_eq_true, Bool.not_eq_true'] at hb
      obtain ⟨⟨b1, b2⟩, b3⟩ := hb
      have b1 := Nat.eq_of_beq_eq_true b1
      subst h
      refine ⟨?_, fun heq => ?_⟩
      · unfold zeroBld at b2
        split at b2
        · rfl
        · cases b2
      · rw [b1, heq] at b3; simp at b3
  · cases h
theorem op_nx {E : Env} {n : Nat} {o : Oper} {s s' : St} {x : SV} {w0 : World} {ν : Nu} {a : Act} {w : World} {K : Act → World → Prop} {Q : Exit → Act → World → Prop}
    (h : simNX o s = some (x, s')) (hh : Holds' s') (ht : TR n ν s a) (hw : WR w0 ν s.own s.mem w)
    (hK : ∀ v w', s'.tmps = s.tmps → Is ν x v → WR w0 ν s'.own s'.mem w' → K (a.put o.dst v) w') : o.wp E.P a w K Q := by
  have key : ∀ (s1 : St) (i : Nat) (b nb : Blk) (str : ByteArray) (pos pos' : Nat) (fl fl' : List Bool), s1.own = s.own → s.own.b[i]? = some b → b.kd = .iter fl str pos → nb = ⟨[], 0, .iter fl' str pos'⟩ → WR w0 ν { s1.own with b := s1.own.b.set i nb } true (w.iterAt (ν.l i) str pos') := fun s1 i b nb str pos pos' fl fl' h1 hb hk hn => by
    subst hn
    rw [h1]
    have hk1 : w.heap[ν.l i]? = some (.stringIter str pos) := by
      have := (hw.blk i b hb).1
      unfold BOk at this
      rw [hk] at this; exact this
    refine hw.turnB hb (fun c hc => by cases hc) (Lib.iterAt_heap w _ str pos pos' hk1) (fun j c fl T e acc cs fz _ _ heq => by rw [hk1] at heq; cases heq) (fun k hne => Lib.iterAt_other w _ k str pos' hne) (Lib.iterAt_size w _ str pos') rfl rfl rfl
  unfold simNX at h
  unfold Oper.wp
  split at h
  · rename_i x' ty ho
    split at h
    · rename_i i hx
      have he := eval_own ht hx
      cases hlo : Nat.ble s.lo i
      · rw [hlo] at h; cases h
      · rw [hlo] at h
        simp only [cond_true] at h
        split at h
        · rename_i b hb
          split at h
          · rename_i fl str pos hk
            have hk1 : w.heap[ν.l i]? = some (.stringIter str pos) := by
              have := (hw.blk i b hb).1
              unfold BOk at this
              rw [hk] at this; exact this
            have yes : pos < str.size → (execOp a.eval o).run E.P w = .ok (.value (.tuple #[.bool true, .int .i64 pos, .int .i32 ((Utf8.decode str pos).1 : Nat)])) (w.iterAt (ν.l i) str (pos + (Utf8.decode str pos).2)) := fun hp => by
              simp only [execOp, ho, he, Sem.run_bind, Lib.run_next_any_at w (ν.l i) str pos _ hk1 hp, Result.andThen_ok, Sem.run_pure]
            have no : ¬ pos < str.size → (execOp a.eval o).run E.P w = .ok (.value (.tuple #[.bool false])) w := fun hp => by
              simp only [execOp, ho, he, Sem.run_bind, Lib.run_next_end_at w (ν.l i) str pos _ hk1 hp, Result.andThen_ok, Sem.run_pure]
            cases hf : anyF fl
            · rw [hf] at h
              simp only [cond_false] at h
              cases hp : Nat.blt pos str.size
              · rw [hp] at h
                simp only [cond_false, Option.some.injEq, Prod.mk.injEq] at h
                obtain ⟨rfl, rfl⟩ := h
                have hp : ¬ pos < str.size := by intro hc; rw [← Nat.blt_eq, hp] at hc; cases hc
                rw [no hp, Oper.upon_value]
                exact hK _ _ rfl rfl hw
              · rw [hp] at h
                simp only [cond_true, Option.some.injEq, Prod.mk.injEq] at h
                obtain ⟨rfl, rfl⟩ := h
                have hp : pos < str.size := by simpa [Nat.blt_eq] using hp
                rw [yes hp, Oper.upon_value]
                exact hK _ _ rfl rfl (key s i b _ str pos _ fl fl rfl hb hk rfl)
            · rw [hf] at h
              simp only [cond_true] at h
              obtain ⟨k1, k2, k3, k4, k5, k6, k7⟩ := ask_ok s [true] (decide (pos < str.size))
              split at h
              · rename_i s1 ha
                rw [ha] at k1 k2 k3 k4 k5
                simp only [Option.some.injEq, Prod.mk.injEq] at h
                obtain ⟨rfl, rfl⟩ := h
                have hp : pos < str.size := of_decide_eq_true (k2 hh).symm
                rw [yes hp, Oper.upon_value]
                refine hK _ _ k3 ?_ (by rw [runZ_eq]; exact key s1 i b _ str pos _ fl fl k4 hb hk rfl)
                rw [runZ_eq]; rfl
              · rename_i s1 ha
                rw [ha] at k1 k2 k3 k4 k5
                simp only [Option.some.injEq, Prod.mk.injEq] at h
                obtain ⟨rfl, rfl⟩ := h
                have hp : ¬ pos < str.size := of_decide_eq_false (k2 hh).symm
                rw [no hp, Oper.upon_value]
                exact hK _ _ k3 rfl (by rw [k4, k5]; exact hw)
          · cases h
        · cases h
    · cases h
  · cases h
theorem op_fx {E : Env} {n : Nat} {o : Oper} {s : St} {x : SV} {own : Mem} {q : List (Bool × Bool)} {w0 : World} {ν : Nu} {a : Act} {w : World} {K : Act → World → Prop} {Q : Exit → Act → World → Prop}
    (h : simFX E o s = some (x, own, q)) (hq : ∀ p ∈ q, p.1 = p.2) (hg : Good s) (ht : TR n ν s a) (hw : WR w0 ν s.own s.mem w)
    (hK : ∀ ν' v w', Ag s.own ν ν' → Is ν' x v → WR w0 ν' own true w' → K (a.put o.dst v) w') : o.wp E.P a w K Q := by
  unfold simFX at h
  unfold Oper.wp
  split at h
  · rename_i t ho
    split at h
    · rename_i i hi
      split at h
      · rename_i z hz
        have hr : (execOp a.eval o).run E.P w = .ok (.value (.pointer (some ⟨w.heap.size, 0, none⟩))) (w.alloc (.cells z.cells t)) := by
          simp only [execOp, ho, Instr.alloc, zeroValue, typeInfo, Sem.run_bind, run_program, Result.andThen_ok, hi, Sem.run_pure, hz, newVar, newRow, run_newObj, World.alloc_eq]
        rw [hr, Oper.upon_value]
        split at h
        · rename_i e hbo
          simp only [Option.some.injEq, Prod.mk.injEq] at h
          obtain ⟨rfl, rfl, _⟩ := h
          obtain ⟨hz2, hTe⟩ := bldOf_ok hbo
          refine hK (extL ν s.own.b.length w.heap.size) _ (w.alloc (.cells z.cells t)) (extL_old _ _ _ _) (by show _ = _; simp [conc, extL_new]) (hw.growB ⟨[], 0, .bld [] t e ByteArray.empty⟩ _ (fun c hc => by cases hc) ⟨.inl ⟨hw.below.size, .slice none 0 0, ?_, ⟨rfl, .inl ⟨rfl, rfl⟩⟩, by simp [Value.ownBlock]⟩, hTe⟩)
          have e1 : z.cells = #[.pointer none, .slice none 0 0] := by rw [← Array.toArray_toList (xs := z.cells), hz2]
          rw [e1, heap_alloc_new]
        simp only [Option.some.injEq, Prod.mk.injEq] at h
        obtain ⟨rfl, rfl, _⟩ := h
        exact hK (extL ν s.own.b.length w.heap.size) _ (w.alloc (.cells z.cells t)) (extL_old _ _ _ _) (by show _ = _; simp [conc, extL_new]) (by have := hw.grow (mkCells z.cells.toList []) t (okV_mkCells _ _); rw [concB_mkCells] at this; exact this)
      · cases h
    · cases h
  · rename_i t x' ho
    split at h
    · rename_i fl str hx hu
      simp only [Option.some.injEq, Prod.mk.injEq] at h
      obtain ⟨rfl, rfl, _⟩ := h
      have he := eval_v ht hx
      have hr : (execOp a.eval o).run E.P w = .ok (.value (.pointer (some ⟨w.heap.size, 0, none⟩))) (w.alloc (.stringIter str 0)) := by
        simp only [execOp, ho, he, Sem.run_bind, run_range_string w t str hu, Result.andThen_ok, Sem.run_pure]; rfl
      rw [hr, Oper.upon_value]
      exact hK (extL ν s.own.b.length w.heap.size) _ (w.alloc (.stringIter str 0)) (extL_old _ _ _ _) (by show _ = _; simp [conc, extL_new]) (hw.growB ⟨[], 0, .iter fl str 0⟩ _ (fun c hc => by cases hc) (by show (w.alloc _).heap[w.heap.size]? = _; rw [heap_alloc_new]))
    · cases h
  · rename_i t x' ho
    split at h
    · rename_i fl y hx
      simp only [Option.some.injEq, Prod.mk.injEq] at h
      obtain ⟨rfl, rfl, _⟩ := h
      have he := eval_v ht hx
      have hr : (execOp a.eval o).run E.P w = .ok (.value (.pointer (some ⟨w.heap.size, 0, none⟩))) (w.alloc (.cells y.cells t)) := by
        simp only [execOp, ho, he, Instr.box, Sem.run_bind, Result.andThen_ok, Sem.run_pure, newVar, newRow, run_newObj, World.alloc_eq]
      rw [hr, Oper.upon_value]
      exact hK (extL ν s.own.b.length w.heap.size) _ (w.alloc (.cells y.cells t)) (extL_old _ _ _ _) (by show _ = _; simp [conc, extL_new]) (by have := hw.grow (mkCells y.cells.toList fl) t (okV_mkCells _ _); rw [concB_mkCells] at this; exact this)
    · split at h
      · rename_i cs hcs
        simp only [Option.some.injEq, Prod.mk.injEq] at h
        obtain ⟨rfl, rfl, _⟩ := h
        obtain ⟨hne, h1, _⟩ := cellsS_ok hcs hw
        have he := eval_ev ht rfl hne
        have hr : (execOp a.eval o).run E.P w = .ok (.value (.pointer (some ⟨w.heap.size, 0, none⟩))) (w.alloc (.cells (conc ν (ev s x')).cells t)) := by
          simp only [execOp, ho, he, Instr.box, Sem.run_bind, Result.andThen_ok, Sem.run_pure, newVar, newRow, run_newObj, World.alloc_eq]
        rw [hr, Oper.upon_value]
        exact hK (extL ν s.own.b.length w.heap.size) _ (w.alloc (.cells (conc ν (ev s x')).cells t)) (extL_old _ _ _ _) (by show _ = _; simp [conc, extL_new]) (by have := hw.grow cs t (cellsS_okV hcs (ev_ok hg x')); rw [h1] at this; exact this)
      · cases h
  · rename_i t x' y' ho
    split at h
    · rename_i i off us hx hy
      cases hlo : Nat.ble s.lo i
      · rw [hlo] at h; cases h
      · rw [hlo] at h
        simp only [cond_true] at h
        split at h
        · rename_i b hb
          cases hfr : bldFree s b.elem
          · rw [hfr] at h; cases h
          · rw [hfr] at h
            simp only [cond_true] at h
            split at h
            · rename_i cs hcs
              simp only [Option.some.injEq, Prod.mk.injEq] at h
              obtain ⟨rfl, rfl, _⟩ := h
              obtain ⟨hb, hkd⟩ := getB_some hb
              have hex := eval_own ht hx
              obtain ⟨hne, h1, h2⟩ := cellsS_ok hy hw
              have hey := eval_ev ht rfl hne
              obtain ⟨w', r1, r2, r3, r4, r5, r6, r7⟩ := run_storeB (storeS_ok hcs h1 h2) w ((hw.blk i b hb).1.cells hkd)
              have hr : (execOp a.eval o).run E.P w = .ok .skip w' := by
                simp only [execOp, ho, hex, hey, Instr.storeAt, Instr.sureAddr, Sem.run_bind, Sem.run_pure, Result.andThen_ok, r1]
              rw [hr, Oper.upon_skip]
              exact hK ν _ w' (Agree.refl _ _ _) rfl (hw.store hb hkd (storeS_okV hcs (hg.okb i b hb) (cellsS_okV hy (ev_ok hg y'))) (bldFree_ok hfr) r2 r3 r4 r5 r6 r7)
            · cases h
        · cases h
    · cases h
  · rename_i t len parts ho
    cases hb : parts.toList.all (fun p => isV (ev s p.2))
    · rw [hb] at h
      simp only [cond_false] at h
      split at h
      · rename_i cells e hlit
        simp only [Option.some.injEq, Prod.mk.injEq] at h
        obtain ⟨rfl, rfl, _⟩ := h
        obtain ⟨hne, hl⟩ := litS_ok hlit hw
        have hp : (parts.map fun (i, x) => (i, a.eval x)) = ((parts.toList.map fun p => (p.1, ev s p.2)).map fun p => (p.1, conc ν p.2)).toArray := by
          rw [← Array.toArray_toList (xs := parts.map _), Array.toList_map, List.map_map]
          congr 1
          refine List.map_congr_left fun p hp => ?_
          show (p.1, a.eval p.2) = (p.1, conc ν (ev s p.2))
          rw [eval_ev ht rfl (hne (p.1, ev s p.2) (List.mem_map.mpr ⟨p, hp, rfl⟩))]
        have hr : (execOp a.eval o).run E.P w = .ok (.value (.slice (some ⟨w.heap.size, 0, none⟩) len len)) (w.alloc (.cells (concB ν cells).toArray e)) := by
          simp only [execOp, ho, hp, Sem.run_bind, run_litB hl w, Result.andThen_ok, Sem.run_pure]
        rw [hr, Oper.upon_value]
        refine hK (extL ν s.own.b.length w.heap.size) _ (w.alloc (.cells (concB ν cells).toArray e)) (extL_old _ _ _ _) (by show _ = _; simp [conc, extL_new]) (hw.grow cells e fun c hc => ?_)
        rw [litS_some hlit] at hc
        simp only [List.map_map] at hc
        obtain ⟨p, _, rfl⟩ := List.mem_map.mp hc
        exact ev_ok hg p.2
      · cases h
    · rw [hb] at h
      simp only [cond_true] at h
      split at h
      · rename_i cells e hlit
        simp only [Option.some.injEq, Prod.mk.injEq] at h
        obtain ⟨rfl, rfl, _⟩ := h
        have hp : (parts.map fun (i, x) => (i, a.eval x)) = (parts.toList.map fun p => (p.1, rho s p.2)).toArray := by
          rw [← Array.toArray_toList (xs := parts.map _), Array.toList_map]
          congr 1
          refine List.map_congr_left fun p hp => ?_
          rw [List.all_eq_true] at hb
          show (p.1, a.eval p.2) = _
          rw [eval_rho ht (hb p hp)]
        have hr : (execOp a.eval o).run E.P w = .ok (.value (.slice (some ⟨w.heap.size, 0, none⟩) len len)) (w.alloc (.cells cells.toArray e)) := by
          simp only [execOp, ho, hp, Sem.run_bind, run_litB hlit w, Result.andThen_ok, Sem.run_pure]
        rw [hr, Oper.upon_value]
        exact hK (extL ν s.own.b.length w.heap.size) _ (w.alloc (.cells cells.toArray e)) (extL_old _ _ _ _) (by show _ = _; simp [conc, extL_new]) (by have := hw.grow (mkCells cells []) e (okV_mkCells _ _); rw [concB_mkCells] at this; exact this)
      · cases h
  · rename_i as ats ho
    split at h
    · rename_i x' y' t t' hl1 hl2
      have e1 : as = #[x', y'] := by rw [← Array.toArray_toList (xs := as), hl1]
      have e2 : ats = #[t, t'] := by rw [← Array.toArray_toList (xs := ats), hl2]
      cases hb : Nat.beq t t'
      · rw [hb] at h; cases h
      · rw [hb] at h
        have htt := Nat.eq_of_beq_eq_true hb
        subst htt
        simp only [cond_true] at h
        split at h
        · rename_i e hu
          split at h
          · rename_i i hi
            split at h
            · rename_i z hz
              simp only [cond_eq_ite] at h
              split at h
              · rename_i hcond
                simp only [Bool.and_eq_true] at hcond
                have hzs := Nat.eq_of_beq_eq_true hcond.1.1
                have hsz : 0 < i.size := by simpa [Nat.blt_eq] using hcond.1.2
                have hfree := bldFree_ok hcond.2
                split at h
                · rename_i n' f o1 k? m g o2 hbase hnews
                  simp only [Option.some.injEq, Prod.mk.injEq] at h
                  obtain ⟨rfl, rfl, rfl⟩ := h
                  have hpre := hq (pre (decide (n' + m ≤ maxLen ∧ (n' + m) * i.bytes ≤ 140737488355328 ∧ 0 < m)), true) (by simp)
                  simp only [pre, decide_eq_true_eq] at hpre
                  obtain ⟨h63, hby, hm⟩ := hpre
                  obtain ⟨hown, hwf1, hne1, hk1, hv1⟩ := baseOf_ok hbase hw
                  obtain ⟨⟨ad, c, hy, hcell⟩, hwf2, hne2⟩ := newsOf_ok hnews hsz hm hw
                  have hex := eval_ev ht rfl hne1
                  have hey := (eval_ev ht rfl hne2).trans hy
                  have hl : ((List.range m).flatMap g).length = m * i.size := flat_len m (fun j hj => (hwf2 j hj).1)
                  have hone : ∀ u ∈ (List.range m).flatMap g, u.oneCell' = true := fun u hu => by
                    obtain ⟨j, hj, hju⟩ := List.mem_flatMap.mp hu
                    exact List.all_eq_true.mp (hwf2 j (List.mem_range.mp hj)).2 u hju
                  obtain ⟨v', w', hr, h2, h3, h4⟩ := run_append_own (P := E.P) w w0.heap.size t o.type e i z i.size i.bytes hu hi hz rfl rfl hzs hsz _ n' _ hown ad m c _ hl hcell hone h63 hby hw.below.size
                  have hwh := append_where hr hu hi hz hown hm hl hcell hone h63 hby
                  have hr' : (execOp a.eval o).run E.P w = .ok (.value v') w' := by
                    subst e1 e2
                    unfold execOp
                    simp only [ho, resolve, invoke, builtin, Sem.run_bind, Sem.run_pure, Result.andThen_ok, List.map_toArray, List.map_cons, List.map_nil, hex, hey, hr]
                  rw [hr', Oper.upon_value]
                  have hlen := killL_len s.own.l k?
                  refine hK (extV ν s.own.l.length v') v' w' (extV_old _ _ _ _) (by show _ = _; simp [conc, extV_new]) (hw.append (ne := ⟨e, i.size, n' + m, joinE n' f g, true, false, o1 || o2⟩) ⟨⟨hsz, fun j hj => ?_⟩, ?_⟩ rfl hv1 h3 hwh (fun j c fl T e2 acc hj hkd g cs fz hg2 heq => by
                    rcases hown.2 with ⟨hv0, _⟩ | ⟨g', cap', cur', hv0, _, hgg, _⟩
                    · rw [hv0] at hg2; cases hg2
                    · rw [hv0] at hg2
                      simp only [Value.ownBlock, Option.some.injEq] at hg2
                      subst hg2
                      rw [hgg] at heq
                      simp only [Option.some.injEq, Obj.cells.injEq] at heq
                      exact hfree j c fl T e2 acc hj hkd heq.2.1.symm))
                  · show (joinE n' f g j).length = i.size ∧ (joinE n' f g j).all Value.oneCell' = true
                    unfold joinE
                    cases hjb : Nat.blt j n'
                    · have : ¬ j < n' := by intro hc; rw [← Nat.blt_eq, hjb] at hc; cases hc
                      have hj' : j < n' + m := hj
                      exact hwf2 (j - n') (by omega)
                    · exact hwf1 j (by simpa [Nat.blt_eq] using hjb)
                  · unfold LE.flat
                    show w'.ownsRow w0.heap.size e i.size v' (n' + m) ((List.range (n' + m)).flatMap (joinE n' f g))
                    rw [flat_join]; exact h2
                · cases h
              · cases h
            · cases h
          · cases h
        · cases h
    · cases h
  · cases h

/-! ### Calls in place -/
/-- What is asked of a callee, by itself. -/
def ClSt (cl : Callee) : Prop := ∀ f args s x s', s.lo ≤ s.own.b.length → s.llo ≤ s.own.l.length → OkB s.own.b.length s.own.l.length s.own.b → (∀ y ∈ args, okV s.own.b.length s.own.l.length y) → cl f args s = some (x, s') → Le s s' ∧ okV s'.own.b.length s'.own.l.length x ∧ OkB s'.own.b.length s'.own.l.length s'.own.b
/-- Values for slots' contents. -/
def IsL (ν : Nu) : List SV → List Value → Prop
  | [], [] => True
  | x :: r, v :: vs => Is ν x v ∧ IsL ν r vs
  | _, _ => False
/-- .. and of what it does. -/
def ClOk (E : Env) (w0 : World) (cl : Callee) : Prop := ∀ f args s x s', s.lo ≤ s.own.b.length → s.llo ≤ s.own.l.length → (∀ y ∈ args, okV s.own.b.length s.own.l.length y) → cl f args s = some (x, s') → Holds' s' → ∀ ν w vs, IsL ν args vs → WR w0 ν s.own s.mem w →
  (∃ fn, E.P.funcs[f]? = some fn ∧ (fn.name == "runtime.NumGoroutine") = false ∧ fn.body.isNone = false) ∧
    Calls E.P f vs.toArray w fun e w' => ∃ ν' v, Ag s.own ν ν' ∧ e = .returned v ∧ Is ν' x v ∧ WR w0 ν' s'.own s'.mem w'
theorem isL_map {n : Nat} {ν : Nu} {s : St} {a : Act} (ht : TR n ν s a) : ∀ (l : List Operand), IsL ν (l.map (ev s)) (l.map a.eval)
  | [] => trivial
  | x :: r => ⟨eval_is ht x, isL_map ht r⟩
theorem evals {a : Act} (as : Array Operand) : as.map a.eval = (as.toList.map a.eval).toArray := by rw [← Array.toArray_toList (xs := as.map a.eval), Array.toList_map]
theorem isL_append {ν : Nu} : ∀ {l r : List SV} {vs us : List Value}, IsL ν l vs → IsL ν r us → IsL ν (l ++ r) (vs ++ us)
  | [], r, [], us, _, h => h
  | [], _, _ :: _, _, h, _ => h.elim
  | _ :: _, _, [], _, h, _ => h.elim
  | x :: l, r, v :: vs, us, h, k => ⟨h.1, isL_append h.2 k⟩
theorem svC_is (ν : Nu) : ∀ (cs : List CV), IsL ν (cs.map svC) (cs.map (concC ν))
  | [] => trivial
  | c :: r => ⟨by cases c <;> rfl, svC_is ν r⟩
theorem svC_okV {n m : Nat} {c : CV} (h : okC n m c) : okV n m (svC c) := by
  cases c with
  | v fl x => trivial
  | a i off => exact h
  | l k => exact h
theorem callArgs_okV {s : St} {o : Oper} {f : FuncId} {args : List SV} (h : callArgs s o = some (f, args)) (hg : Good s) : ∀ y ∈ args, okV s.own.b.length s.own.l.length y := by
  unfold callArgs at h
  split at h
  · rename_i x as ats ho
    split at h
    · rename_i f' fs cs hf
      simp only [Option.some.injEq, Prod.mk.injEq] at h
      obtain ⟨rfl, rfl⟩ := h
      have hx := ev_ok hg x
      have key : (∀ y ∈ fs, okV s.own.b.length s.own.l.length y) ∧ ∀ y ∈ cs, okV s.own.b.length s.own.l.length y := by
        unfold fnOf at hf
        split at hf
        · rename_i f0 fs0 cs0 he
          simp only [Option.some.injEq, Prod.mk.injEq] at hf
          obtain ⟨rfl, rfl, rfl⟩ := hf
          rw [he] at hx
          exact ⟨fun y hy => by obtain ⟨c, hc, rfl⟩ := List.mem_map.mp hy; exact svC_okV (hx.1 c hc), fun y hy => by obtain ⟨c, hc, rfl⟩ := List.mem_map.mp hy; exact svC_okV (hx.2 c hc)⟩
        · simp only [Option.some.injEq, Prod.mk.injEq] at hf
          obtain ⟨rfl, rfl, rfl⟩ := hf
          exact ⟨fun y hy => (by cases hy), fun y hy => (by cases hy)⟩
        · cases hf
      intro y hy
      rcases List.mem_append.mp hy with hy | hy
      · exact key.1 y hy
      · rcases List.mem_append.mp hy with hy | hy
        · obtain ⟨x', _, rfl⟩ := List.mem_map.mp hy
          exact ev_ok hg x'
        · exact key.2 y hy
    · cases h
  · cases h
theorem callArgs_run {P : Program} {n : Nat} {ν : Nu} {s : St} {a : Act} {o : Oper} {f : FuncId} {args : List SV} (h : callArgs s o = some (f, args)) (ht : TR n ν s a) :
    ∃ vs, IsL ν args vs ∧ ((∃ fn, P.funcs[f]? = some fn ∧ (fn.name == "runtime.NumGoroutine") = false ∧ fn.body.isNone = false) → ∀ w, (execOp a.eval o).run P w = .ok (.enter f vs.toArray) w) := by
  unfold callArgs at h
  split at h
  · rename_i x as ats ho
    split at h
    · rename_i f' fs cs hf
      simp only [Option.some.injEq, Prod.mk.injEq] at h
      obtain ⟨rfl, rfl⟩ := h
      have key : ∃ us ws, IsL ν fs us ∧ IsL ν cs ws ∧ a.eval x = .func (.func f') us.toArray ws.toArray := by
        unfold fnOf at hf
        split at hf
        · rename_i f0 fs0 cs0 he
          simp only [Option.some.injEq, Prod.mk.injEq] at hf
          obtain ⟨rfl, rfl, rfl⟩ := hf
          exact ⟨_, _, svC_is ν fs0, svC_is ν cs0, eval_fn ht he⟩
        · rename_i fl f0 he
          simp only [Option.some.injEq, Prod.mk.injEq] at hf
          obtain ⟨rfl, rfl, rfl⟩ := hf
          exact ⟨[], [], trivial, trivial, eval_v ht he⟩
        · cases hf
      obtain ⟨us, ws, h1, h2, he⟩ := key
      refine ⟨us ++ (as.toList.map a.eval ++ ws), isL_append h1 (isL_append (isL_map ht as.toList) h2), fun hfn w => ?_⟩
      obtain ⟨fn, k1, k2, k3⟩ := hfn
      have e1 : execOp a.eval o = callFunc f' (us ++ (as.toList.map a.eval ++ ws)).toArray := by
        have : us.toArray ++ as.map a.eval ++ ws.toArray = (us ++ (as.toList.map a.eval ++ ws)).toArray := by
          rw [evals as]; simp
        rw [← this]
        unfold execOp
        simp [ho, resolve, Deferred.ofValue, invoke, he]
      rw [e1]
      simp only [callFunc, Sem.run_bind, run_program, Result.andThen_ok, k1, k2, k3, Bool.false_eq_true, if_false, Sem.run_pure]
    · cases h
  · cases h

/-! ### Regions -/
theorem Le.upd {s t : St} (h : Le s t) (s' : St) (h1 : s'.obl = t.obl) (h2 : s'.own = t.own) (h3 : s'.lo = s.lo) (h4 : s'.llo = s.llo) : Le s s' :=
  ⟨fun p hp => by rw [h1]; exact h.ext p hp, by rw [h2]; exact h.len, by rw [h2]; exact h.llen, h3, h4, fun i hi => by rw [h2]; exact h.keep i hi, fun i hi => by rw [h2]; exact h.lkeep i hi⟩
theorem more_ext (s : St) (q : List (Bool × Bool)) : ∀ p ∈ s.obl, p ∈ more s q := fun p hp => List.mem_append_right _ hp
theorem more_q {s : St} {q : List (Bool × Bool)} (h : ∀ p ∈ more s q, p.1 = p.2) : (∀ p ∈ q, p.1 = p.2) ∧ Holds' s := ⟨fun p hp => h p (List.mem_append_left _ hp), fun p hp => h p (List.mem_append_right _ hp)⟩
theorem Good.grow {s : St} (hg : Good s) {s' : St} (h1 : s'.tmps = s.tmps) (h2 : s'.lo = s.lo) (h3 : s'.llo = s.llo) (h4 : s.own.b.length ≤ s'.own.b.length) (h5 : s.own.l.length ≤ s'.own.l.length) (h6 : OkB s'.own.b.length s'.own.l.length s'.own.b) : Good s' :=
  ⟨by rw [h2]; exact Nat.le_trans hg.lo h4, by rw [h3]; exact Nat.le_trans hg.llo h5, fun p hp => (hg.ok p (by rw [← h1]; exact hp)).mono h4 h5, h6⟩
theorem simOps_st {E : Env} {cl : Callee} (hcl : ClSt cl) {n : Nat} {ops : Array Oper} {ro : Bool} : ∀ (l : List Oper) (s s' : St), Good s → simOps E cl n ops ro l s = some s' → Le s s' ∧ Good s' ∧ (ro = true → s'.own = s.own)
  | [], s, s', hg, h => by simp only [simOps, Option.some.injEq] at h; subst h; exact ⟨Le.refl s, hg, fun _ => rfl⟩
  | o :: rest, s, s', hg, h => by
    have go : ∀ (s1 s2 s3 : St) (x : SV), Le s s1 → Le s1 s2 → Good s2 → okV s2.own.b.length s2.own.l.length x → (ro = true → s2.own = s.own) → putS n o.dst x s2 = some s3 → simOps E cl n ops ro rest s3 = some s' → Le s s' ∧ Good s' ∧ (ro = true → s'.own = s.own) := fun s1 s2 s3 x k1 k2 k3 k4 k5 hp hr => by
      obtain ⟨g3, l3⟩ := putS_good hp k3 k4
      obtain ⟨r1, r2, r3⟩ := simOps_st hcl rest s3 s' g3 hr
      exact ⟨((k1.trans k2).trans l3).trans r1, r2, fun hro => by rw [r3 hro, (putS_keep hp).2.1, k5 hro]⟩
    unfold simOps at h
    split at h
    · cases h
    · rename_i s1 hw
      obtain ⟨k1, k2, k3, k4⟩ := wantS_st hw
      split at h
      · rename_i s2 hp
        exact go s1 s1 s2 (.inl ([], undef)) k1 (Le.refl _) (k4 hg) trivial (fun _ => k2) hp h
      · cases h
    · rename_i s1 hw
      obtain ⟨k1, k2, k3, k4⟩ := wantS_st hw
      have g1 := k4 hg
      split at h
      · rename_i x s1' hnx
        cases ro with
        | true => cases hnx
        | false =>
          simp only [cond_false] at hnx
          obtain ⟨f1, f2, f3⟩ := simNX_st hnx g1
          split at h
          · rename_i s2 hp
            exact go s1 s1' s2 x k1 f1 f2 f3 (fun h => by cases h) hp h
          · cases h
      split at h
      · rename_i x own q hfx
        cases ro with
        | true => cases hfx
        | false =>
          simp only [cond_false] at hfx
          obtain ⟨f1, f2, f3, f4, f5, f6⟩ := simFX_st hfx g1
          split at h
          · rename_i s2 hp
            refine go s1 { s1 with own := own, mem := true, obl := more s1 q } s2 x k1 ⟨more_ext s1 q, f2, f3, rfl, rfl, f4, f5⟩ (g1.grow rfl rfl rfl f2 f3 f6) f1 (fun h => by cases h) hp h
          · cases h
      · split at h
        · rename_i x c q hro
          have hx := simRO_st hro g1
          split at h
          · rename_i s2 hp
            exact go s1 { s1 with mem := s1.mem || c, obl := more s1 q } s2 x k1 (.same (more_ext s1 q) rfl rfl rfl) ⟨g1.lo, g1.llo, g1.ok, g1.okb⟩ hx (fun _ => k2) hp h
          · cases h
        · split at h
          · cases h
          · rename_i f args hca
            have hargs : ∀ y ∈ args, okV s1.own.b.length s1.own.l.length y := callArgs_okV hca g1
            cases ro with
            | true =>
              simp only [cond_true] at h
              split at h
              · rename_i fl x s2 hc
                obtain ⟨c1, c2, _⟩ := hcl f args { s1 with lo := s1.own.b.length, llo := s1.own.l.length } _ s2 (Nat.le_refl _) (Nat.le_refl _) g1.okb hargs hc
                split at h
                · rename_i s3 hp
                  exact go s1 { s1 with mem := true, orc := s2.orc, obl := s2.obl } s3 (.inl (fl, x)) k1 (.same c1.ext rfl rfl rfl) ⟨g1.lo, g1.llo, g1.ok, g1.okb⟩ trivial (fun _ => k2) hp h
                · cases h
              · cases h
            | false =>
              simp only [cond_false] at h
              split at h
              · rename_i x s2 hc
                obtain ⟨c1, c2, c3⟩ := hcl f args s1 _ s2 g1.lo g1.llo g1.okb hargs hc
                split at h
                · rename_i s3 hp
                  exact go s1 { s1 with own := s2.own, mem := s2.mem, orc := s2.orc, obl := s2.obl } s3 _ k1 (c1.upd _ rfl rfl rfl rfl) (g1.grow rfl rfl rfl c1.len c1.llen c3) c2 (fun h => by cases h) hp h
                · cases h
              · cases h
theorem Ag.step {s s2 : St} {ν ν' ν'' : Nu} (h1 : Ag s.own ν ν') (h2 : Ag s2.own ν' ν'') (hn : s.own.b.length ≤ s2.own.b.length) (hm : s.own.l.length ≤ s2.own.l.length) : Ag s.own ν ν'' := Agree.trans h1 h2 hn hm
theorem simOps_wp {E : Env} (HC : CallOk E) {cl : Callee} (hst : ClSt cl) {w0 : World} (hok : ClOk E w0 cl) {n : Nat} {ops : Array Oper} (hG : Glob E w0) {Q : Exit → Act → World → Prop} :
    ∀ (l : List Oper) (s s' : St), simOps E cl n ops false l s = some s' → Good s → Holds' s' → ∀ ν a w, TR n ν s a → WR w0 ν s.own s.mem w →
      (∀ ν' a' w', Ag s.own ν ν' → TR n ν' s' a' → WR w0 ν' s'.own s'.mem w' → Q .normal a' w') → wpList E.P ops Q l a w
  | [], s, s', h, _, _, ν, a, w, ht, hw, hQ => by
    simp only [simOps, Option.some.injEq] at h; subst h
    exact wpList_nil (hQ ν a w (Agree.refl _ _ _) ht hw)
  | o :: rest, s, s', h, hg, hh, ν, a, w, ht, hw, hQ => by
    unfold simOps at h
    refine wpList_step fun K hK => ?_
    split at h
    · cases h
    · rename_i s1 hwant
      obtain ⟨k1, k2, k3, k4⟩ := wantS_st hwant
      have g1 := k4 hg
      split at h
      · rename_i s2 hp
        obtain ⟨p1, p2, p3, p4, _⟩ := putS_keep hp
        obtain ⟨g2, l2⟩ := putS_good hp g1 trivial
        have hh1 : Holds' s1 := (l2.trans (simOps_st hst rest s2 s' g2 h).1).holds hh
        obtain ⟨hwn, ht1⟩ := wantS_ok hwant hh1 ht
        rw [if_neg (by rw [hwn]; simp)]
        exact hK _ _ (simOps_wp HC hst hok hG rest s2 s' h g2 hh ν _ w (tr_put hp rfl ht1) (by rw [p2, p3, k2, k3]; exact hw) (fun ν' a' w' ha => hQ ν' a' w' (by rw [p2, k2] at ha; exact ha)))
      · cases h
    · rename_i s1 hwant
      obtain ⟨k1, k2, k3, k4⟩ := wantS_st hwant
      have g1 := k4 hg
      have hw1 : WR w0 ν s1.own s1.mem w := by rw [k2, k3]; exact hw
      split at h
      · rename_i x s1' hnx
        simp only [cond_false] at hnx
        obtain ⟨f1, f2, f3⟩ := simNX_st hnx g1
        split at h
        · rename_i s2 hp
          obtain ⟨p1, p2, p3, p4, _⟩ := putS_keep hp
          obtain ⟨g2, l2⟩ := putS_good hp f2 f3
          have hh1 : Holds' s1' := (l2.trans (simOps_st hst rest s2 s' g2 h).1).holds hh
          obtain ⟨hwn, ht1⟩ := wantS_ok hwant (f1.holds hh1) ht
          rw [if_pos hwn]
          refine op_nx hnx hh1 ht1 hw1 fun v w' htm hv hw' => ?_
          exact hK _ _ (simOps_wp HC hst hok hG rest s2 s' h g2 hh ν _ w' (tr_put hp hv (ht1.of htm)) (by rw [p2, p3]; exact hw')
            (fun ν'' a' w'' ha' => hQ ν'' a' w'' (by rw [← k2]; exact ha'.mono (by rw [p2]; exact f1.len) (by rw [p2]; exact f1.llen))))
        · cases h
      split at h
      · rename_i x own q hfx
        simp only [cond_false] at hfx
        obtain ⟨f1, f2, f3, f4, f5, f6⟩ := simFX_st hfx g1
        split at h
        · rename_i s2 hp
          obtain ⟨p1, p2, p3, p4, _⟩ := putS_keep hp
          have gm : Good { s1 with own := own, mem := true, obl := more s1 q } := g1.grow rfl rfl rfl f2 f3 f6
          obtain ⟨g2, l2⟩ := putS_good hp gm f1
          obtain ⟨hq, hh1⟩ := more_q ((l2.trans (simOps_st hst rest s2 s' g2 h).1).holds hh)
          obtain ⟨hwn, ht1⟩ := wantS_ok hwant hh1 ht
          rw [if_pos hwn]
          refine op_fx hfx hq g1 ht1 hw1 fun ν' v w' ha hv hw' => ?_
          exact hK _ _ (simOps_wp HC hst hok hG rest s2 s' h g2 hh ν' _ w' (tr_put hp hv (ht1.move g1 ha rfl)) (by rw [p2, p3]; exact hw')
            (fun ν'' a' w'' ha' => hQ ν'' a' w'' (by rw [← k2]; exact Agree.trans ha ha' (by rw [p2]; exact f2) (by rw [p2]; exact f3))))
        · cases h
      · split at h
        · rename_i x c q hro
          split at h
          · rename_i s2 hp
            obtain ⟨p1, p2, p3, p4, _⟩ := putS_keep hp
            have gm : Good { s1 with mem := s1.mem || c, obl := more s1 q } := ⟨g1.lo, g1.llo, g1.ok, g1.okb⟩
            have hx := simRO_st hro g1
            obtain ⟨g2, l2⟩ := putS_good hp gm hx
            obtain ⟨hq, hh1⟩ := more_q ((l2.trans (simOps_st hst rest s2 s' g2 h).1).holds hh)
            obtain ⟨hwn, ht1⟩ := wantS_ok hwant hh1 ht
            rw [if_pos hwn]
            refine op_ro HC hG hro hq g1 ht1 hw1 fun v w' hv hw' => ?_
            exact hK _ _ (simOps_wp HC hst hok hG rest s2 s' h g2 hh ν _ w' (tr_put hp hv (ht1.of rfl)) (by rw [p2, p3]; exact hw')
              (fun ν'' a' w'' ha' => hQ ν'' a' w'' (by rw [p2] at ha'; rw [← k2]; exact ha')))
          · cases h
        · split at h
          · cases h
          · rename_i f args hca
            have hok1 : ∀ y ∈ args, okV s1.own.b.length s1.own.l.length y := callArgs_okV hca g1
            simp only [cond_false] at h
            split at h
            · rename_i x s2 hc
              obtain ⟨c1, c2, c3⟩ := hst f args s1 _ s2 g1.lo g1.llo g1.okb hok1 hc
              split at h
              · rename_i s3 hp
                obtain ⟨p1, p2, p3, p4, _⟩ := putS_keep hp
                have gm : Good { s1 with own := s2.own, mem := s2.mem, orc := s2.orc, obl := s2.obl } := g1.grow rfl rfl rfl c1.len c1.llen c3
                obtain ⟨g3, l3⟩ := putS_good hp gm c2
                have hh2 : Holds' s2 := fun p hp' => ((l3.trans (simOps_st hst rest s3 s' g3 h).1).holds hh) p hp'
                have hh1 : Holds' s1 := c1.holds hh2
                obtain ⟨hwn, ht1⟩ := wantS_ok hwant hh1 ht
                rw [if_pos hwn]
                obtain ⟨vs, hvs, hrun⟩ := callArgs_run (P := E.P) hca ht1
                obtain ⟨hf, hcalls⟩ := hok f args s1 x s2 g1.lo g1.llo hok1 hc hh2 ν w vs hvs hw1
                unfold Oper.wp
                rw [hrun hf w, Oper.upon_enter]
                refine hcalls.mono fun e w' ⟨ν', v, ha, he, hv, hw'⟩ => ?_
                subst he
                exact hK _ _ (simOps_wp HC hst hok hG rest s3 s' h g3 hh ν' _ w' (tr_put hp hv (ht1.move g1 ha rfl)) (by rw [p2, p3]; exact hw')
                  (fun ν'' a' w'' ha' => hQ ν'' a' w'' (by rw [← k2]; exact Agree.trans ha ha' (by rw [p2]; exact c1.len) (by rw [p2]; exact c1.llen))))
              · cases h
            · cases h
/-- A region that draws its order: it only reads and calls. -/
theorem simOps_quiet {E : Env} (HC : CallOk E) {cl : Callee} (hst : ClSt cl) {w0 : World} (hok : ClOk E w0 cl) {n : Nat} {ops : Array Oper} (hG : Glob E w0) {ν : Nu} {own : Mem} {Q : Act → Prop} :
    ∀ (l : List Oper) (s s' : St), simOps E cl n ops true l s = some s' → Good s → Holds' s' → s.own = own → s.mem = true → ∀ a, TR n ν s a →
      (s'.mem = true → ∀ a', TR n ν s' a' → Q a') → wpQuiet E.P ops (fun w => WR w0 ν own true w) Q l a
  | [], s, s', h, _, _, h1, h2, a, ht, hQ => by
    simp only [simOps, Option.some.injEq] at h; subst h
    exact wpQuiet_nil (hQ h2 a ht)
  | o :: rest, s, s', h, hg, hh, h1, h2, a, ht, hQ => by
    unfold simOps at h
    refine wpQuiet_step fun K hK => ?_
    split at h
    · cases h
    · rename_i s1 hwant
      obtain ⟨k1, k2, k3, k4⟩ := wantS_st hwant
      have g1 := k4 hg
      split at h
      · rename_i s2 hp
        obtain ⟨p1, p2, p3, p4, _⟩ := putS_keep hp
        obtain ⟨g2, l2⟩ := putS_good hp g1 trivial
        have hh1 : Holds' s1 := (l2.trans (simOps_st hst rest s2 s' g2 h).1).holds hh
        obtain ⟨hwn, ht1⟩ := wantS_ok hwant hh1 ht
        rw [if_neg (by rw [hwn]; simp)]
        exact hK _ (simOps_quiet HC hst hok hG rest s2 s' h g2 hh (by rw [p2, k2, h1]) (by rw [p3, k3, h2]) _ (tr_put hp rfl ht1) hQ)
      · cases h
    · rename_i s1 hwant
      obtain ⟨k1, k2, k3, k4⟩ := wantS_st hwant
      have g1 := k4 hg
      have e1 : s1.own = own := k2.trans h1
      split at h
      · rename_i x s1' hnx
        cases hnx
      split at h
      · rename_i x own' q hfx
        cases hfx
      · split at h
        · rename_i x c q hro
          split at h
          · rename_i s2 hp
            obtain ⟨p1, p2, p3, p4, _⟩ := putS_keep hp
            have gm : Good { s1 with mem := s1.mem || c, obl := more s1 q } := ⟨g1.lo, g1.llo, g1.ok, g1.okb⟩
            have hx := simRO_st hro g1
            obtain ⟨g2, l2⟩ := putS_good hp gm hx
            obtain ⟨hq, hh1⟩ := more_q ((l2.trans (simOps_st hst rest s2 s' g2 h).1).holds hh)
            obtain ⟨hwn, ht1⟩ := wantS_ok hwant hh1 ht
            rw [if_pos hwn]
            obtain ⟨v, hv, hdo⟩ := simRO_ok (mem := true) hro hq ht1 hG hx
            refine ⟨v, fun w hw => ?_, hK _ (simOps_quiet HC hst hok hG rest s2 s' h g2 hh (by rw [p2]; exact e1) (by rw [p3]; show (s1.mem || c) = true; rw [k3, h2]; rfl) _ (tr_put hp hv (ht1.of rfl)) hQ)⟩
            unfold Oper.quietAt
            rcases hdo with ⟨rfl, hd⟩ | ⟨rfl, f, args, hf, hd⟩
            · rw [hd w (by rw [e1]; exact hw)]; exact ⟨rfl, rfl⟩
            · rw [hd w]
              exact ⟨rfl, (HC.1 f args _ hf w (hG.below hw.below)).mono fun e w' ⟨he, hb⟩ => ⟨he, hw.grown hb⟩⟩
          · cases h
        · split at h
          · cases h
          · rename_i f args hca
            have hok1 : ∀ y ∈ args, okV s1.own.b.length s1.own.l.length y := callArgs_okV hca g1
            simp only [cond_true] at h
            split at h
            · rename_i fl x s2 hc
              obtain ⟨c1, c2, _⟩ := hst f args { s1 with lo := s1.own.b.length, llo := s1.own.l.length } _ s2 (Nat.le_refl _) (Nat.le_refl _) g1.okb hok1 hc
              split at h
              · rename_i s3 hp
                obtain ⟨p1, p2, p3, p4, _⟩ := putS_keep hp
                have gm : Good { s1 with mem := true, orc := s2.orc, obl := s2.obl } := ⟨g1.lo, g1.llo, g1.ok, g1.okb⟩
                obtain ⟨g3, l3⟩ := putS_good hp gm trivial
                have hh2 : Holds' s2 := fun p hp' => ((l3.trans (simOps_st hst rest s3 s' g3 h).1).holds hh) p hp'
                have hh1 : Holds' s1 := fun p hp' => hh2 p (c1.ext p hp')
                obtain ⟨hwn, ht1⟩ := wantS_ok hwant hh1 ht
                rw [if_pos hwn]
                obtain ⟨vs, hvs, hrun⟩ := callArgs_run (P := E.P) hca ht1
                refine ⟨x, fun w hw => ?_, hK _ (simOps_quiet HC hst hok hG rest s3 s' h g3 hh (by rw [p2]; exact e1) (by rw [p3]) _ (tr_put hp rfl (ht1.of rfl)) hQ)⟩
                obtain ⟨hf, hcalls⟩ := hok f args { s1 with lo := s1.own.b.length, llo := s1.own.l.length } _ s2 (Nat.le_refl _) (Nat.le_refl _) hok1 hc hh2 ν w vs hvs (by show WR w0 ν s1.own s1.mem w; rw [e1, k3, h2]; exact hw)
                unfold Oper.quietAt
                rw [hrun hf w]
                refine ⟨rfl, hcalls.mono fun e w' ⟨ν', v, ha, he, hv, hw'⟩ => ⟨by rw [he, (show v = x from hv)], ?_⟩⟩
                have := hw'.restrict (own := s1.own) g1.okb ha c1.len (fun i hi => c1.keep i hi) (fun i hi => c1.lkeep i hi)
                rw [e1] at this
                exact this
              · cases h
            · cases h
end Go.Proofs.Ytcofdcpadbpmnaa.S2
