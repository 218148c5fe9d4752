/- Part 3 of the proof: S2D, S2E, S2F, S2P, S2G. -/
import Derived.Test.YtiajbijbhhpllaaDoorK02
set_option linter.unusedVariables false
set_option linter.unusedSimpArgs false
namespace Go.Proofs.YtiajbijbhhpllaaDoor.S2
open Go Go.RowKit Sim
theorem append_where {P : Program} {w w' : World} {base : Nat} {t ty e : TypeId} {i : TypeInfo} {z v v' : Value} {n : Nat} {xs : List Value} {a : Addr} {m c : Nat} {news : List Value}
    (hr : (Builtin.append_ #[t, t] ty #[v, .slice (some a) m c]).run P w = .ok v' w') (ht : P.underlying t = some (.slice e)) (hi : P.info? e = some i) (hz : i.zero = some z) (hown : w.ownsRow base e i.size v n xs)
    (hm : 0 < m) (hl : news.length = m * i.size) (hnews : ∀ j u, news[j]? = some u → w.cell? (a.add j) = some u) (h1 : ∀ u ∈ news, u.oneCell' = true) (h63 : n + m ≤ maxLen) (hbytes : (n + m) * i.bytes ≤ 140737488355328) :
    v'.ownBlock = v.ownBlock ∨ v'.ownBlock = some w.heap.size := by
  have h63' : n + m ≤ 9223372036854775807 := by simp only [maxLen] at h63; omega
  rcases hown.2 with ⟨rfl, rfl⟩ | ⟨g, cap, cur, rfl, _, hg, hnc, hcm, hcs, htake⟩
  · have h := run_append_nil (P := P) w t ty e i z ht hi hz a m c news hl hnews hm (by omega) (by rw [Nat.zero_add] at hbytes; omega)
    rw [hr] at h
    simp only [Result.ok.injEq] at h
    exact .inr (by rw [h.1]; rfl)
  · by_cases hroom : n + m ≤ cap
    · have h := run_append_room (P := P) w t ty e i ht hi g n cap cur hg a m c news hl hnews h1 hroom (by rw [hl, hcs, ← Nat.add_mul]; exact Nat.mul_le_mul_right _ hroom)
      rw [hr] at h
      simp only [Result.ok.injEq] at h
      exact .inl (by rw [h.1]; rfl)
    · have h := run_append_grow (P := P) w t ty e i z ht hi hz ⟨g, 0, none⟩ n cap xs hown.1 (World.ownsRow.cells hown (g := g) rfl) a m c news hl hnews (by omega) (by omega) (growslice_fits (by omega) hbytes)
      rw [hr] at h
      simp only [Result.ok.injEq] at h
      exact .inr (by rw [h.1]; rfl)
theorem flat_join {f g : Nat → List Value} (n : Nat) : ∀ (m : Nat), (List.range (n + m)).flatMap (joinE n f g) = (List.range n).flatMap f ++ (List.range m).flatMap g
  | 0 => by
    simp only [Nat.add_zero, List.range_zero, List.flatMap_nil, List.append_nil]
    unfold List.flatMap
    congr 1
    refine List.map_congr_left fun i hi => ?_
    have : Nat.blt i n = true := by simpa [Nat.blt_eq] using List.mem_range.mp hi
    unfold joinE; rw [this]; rfl
  | m + 1 => by
    have hn : Nat.blt (n + m) n = false := by
      cases h : Nat.blt (n + m) n
      · rfl
      · have : n + m < n := by simpa [Nat.blt_eq] using h
        omega
    have e : joinE n f g (n + m) = g m := by unfold joinE; rw [hn]; show g (n + m - n) = g m; congr 1; omega
    rw [← Nat.add_assoc, List.range_succ, List.flatMap_append, flat_join n m, List.range_succ (n := m), List.flatMap_append, List.append_assoc]
    simp only [List.flatMap_cons, List.flatMap_nil, List.append_nil, e]
theorem killL_len (l : List LE) (k? : Option Nat) : (killL l k?).length = l.length := by
  unfold killL
  split
  · rfl
  · split <;> simp
theorem killL_live {l : List LE} {k? : Option Nat} {i : Nat} {e : LE} (h : (killL l k?)[i]? = some e) (hd : e.dead = false) : l[i]? = some e ∧ k? ≠ some i := by
  unfold killL at h
  split at h
  · exact ⟨h, by simp⟩
  · rename_i k
    split at h
    · rename_i e' he
      by_cases hik : k = i
      · subst hik
        rw [List.getElem?_set_self (lt_of_some_list he)] at h
        simp only [Option.some.injEq] at h
        subst h
        cases hd
      · rw [List.getElem?_set_ne hik] at h
        exact ⟨h, by simpa using hik⟩
    · rename_i he
      refine ⟨h, ?_⟩
      intro e'
      simp only [Option.some.injEq] at e'
      subst e'
      rw [he] at h; cases h
theorem killL_low {l : List LE} {k? : Option Nat} {lo : Nat} (h : ∀ k, k? = some k → lo ≤ k) (i : Nat) (hi : i < lo) : (killL l k?)[i]? = l[i]? := by
  unfold killL
  split
  · rfl
  · rename_i k
    have := h k rfl
    split
    · rw [List.getElem?_set_ne (by omega)]
    · rfl
theorem baseOf_ok {s : St} {e : TypeId} {size : Nat} {y : SV} {n : Nat} {f : Nat → List Value} {o1 : Bool} {k? : Option Nat} (h : baseOf s e size y = some (n, f, o1, k?)) {w0 : Base} {w : World} {ν : Nu} {mem : Bool} (hw : WR w0 ν s.own mem w) :
    w.ownsRow w0.heap.size e size (conc ν y) n ((List.range n).flatMap f) ∧ (∀ j, j < n → (f j).length = size ∧ (f j).all Value.oneCell' = true) ∧ (y ≠ .any) ∧ (∀ k, k? = some k → s.llo ≤ k) ∧
      ∀ g, (conc ν y).ownBlock = some g → ∃ k e', k? = some k ∧ s.own.l[k]? = some e' ∧ e'.dead = false ∧ e'.own = true ∧ (ν.v k).ownBlock = some g := by
  unfold baseOf at h
  split at h
  · rename_i k
    split at h
    · rename_i e' he
      obtain ⟨hk, hd⟩ := getL_some he
      cases hb : (e'.own && Nat.beq e'.elT e && Nat.beq e'.size size && Nat.ble s.llo k)
      · rw [hb] at h; cases h
      · rw [hb] at h
        simp only [cond_true, Option.some.injEq, Prod.mk.injEq] at h
        obtain ⟨rfl, rfl, rfl, rfl⟩ := h
        simp only [Bool.and_eq_true] at hb
        obtain ⟨⟨⟨ho, h1⟩, h2⟩, h3⟩ := hb
        have h1 := Nat.eq_of_beq_eq_true h1
        have h2 := Nat.eq_of_beq_eq_true h2
        subst h1 h2
        have hrow := hw.row hk hd ho
        exact ⟨hrow.2, hrow.1.2, by simp, fun k' e => by cases e; exact Nat.le_of_ble_eq_true h3, fun g hg => ⟨k, e', rfl, hk, hd, ho, hg⟩⟩
    · cases h
  · simp only [Option.some.injEq, Prod.mk.injEq] at h
    obtain ⟨rfl, rfl, rfl, rfl⟩ := h
    exact ⟨⟨by simp, .inl ⟨rfl, rfl⟩⟩, fun j hj => by omega, by simp, (fun k e => by cases e), fun g hg => by cases hg⟩
  · cases h
theorem baseOf_low {s : St} {e : TypeId} {size : Nat} {y : SV} {n : Nat} {f : Nat → List Value} {o1 : Bool} {k? : Option Nat} (h : baseOf s e size y = some (n, f, o1, k?)) : ∀ k, k? = some k → s.llo ≤ k := fun k hk => by
  unfold baseOf at h
  split at h
  · rename_i k'
    split at h
    · rename_i e' he
      cases hb : (e'.own && Nat.beq e'.elT e && Nat.beq e'.size size && Nat.ble s.llo k')
      · rw [hb] at h; cases h
      · rw [hb] at h
        simp only [cond_true, Option.some.injEq, Prod.mk.injEq] at h
        simp only [Bool.and_eq_true] at hb
        rw [← h.2.2.2] at hk
        simp only [Option.some.injEq] at hk
        subst hk
        exact Nat.le_of_ble_eq_true hb.2
    · cases h
  · simp only [Option.some.injEq, Prod.mk.injEq] at h
    rw [← h.2.2.2] at hk; cases hk
  · cases h
theorem chunks_get (size : Nat) : ∀ (m : Nat) (cs : List Value) (j : Nat), j < m → (chunks size m cs)[j]? = some ((cs.drop (j * size)).take size)
  | 0, _, _, h => by omega
  | m + 1, cs, 0, _ => by simp [chunks]
  | m + 1, cs, j + 1, h => by
    have := chunks_get size m (cs.drop size) j (by omega)
    rw [List.drop_drop] at this
    show (chunks size m (cs.drop size))[j]? = _
    rw [this, Nat.add_mul, Nat.one_mul, Nat.add_comm (j * size)]
theorem tabE_chunks (size m : Nat) (cs : List Value) (j : Nat) (h : j < m) : tabE (chunks size m cs) j = (cs.drop (j * size)).take size := by unfold tabE; rw [chunks_get size m cs j h]; rfl
theorem newsOf_ok {s : St} {size : Nat} {y : SV} {m : Nat} {g : Nat → List Value} {o2 : Bool} (h : newsOf s size y = some (m, g, o2)) (hs : 0 < size) (hm : 0 < m) {w0 : Base} {w : World} {ν : Nu} {mem : Bool} (hw : WR w0 ν s.own mem w) :
    (∃ a c, conc ν y = .slice (some a) m c ∧ ∀ (i : Nat) u, ((List.range m).flatMap g)[i]? = some u → w.cell? (a.add i) = some u) ∧ (∀ j, j < m → (g j).length = size ∧ (g j).all Value.oneCell' = true) ∧ y ≠ .any := by
  have fin : ∀ (b off : Nat), (∀ j, j < m → (g j).length = size) → (∀ j, j < m → ∀ (o : Nat) c, (g j)[o]? = some c → w.cell? ⟨b, off + j * size + o, none⟩ = some c) →
      ∀ (i : Nat) u, ((List.range m).flatMap g)[i]? = some u → w.cell? ((⟨b, off, none⟩ : Addr).add i) = some u := fun b off hl hc i u hu => by
    have hi : i < m * size := by rw [← flat_len m hl]; exact lt_of_some_list hu
    have hj : i / size < m := Nat.div_lt_of_lt_mul (by rw [Nat.mul_comm]; exact hi)
    have ho : i % size < size := Nat.mod_lt _ hs
    have e : i / size * size + i % size = i := by rw [Nat.mul_comm]; exact Nat.div_add_mod i size
    have := flat_get m hl (i / size) hj (i % size) ho
    rw [e, hu] at this
    rw [add_plain, ← e, ← Nat.add_assoc]
    exact hc _ hj _ _ this.symm
  unfold newsOf at h
  split at h
  · rename_i k
    split at h
    · rename_i e' he
      obtain ⟨hk, hd⟩ := getL_some he
      cases hb : Nat.beq e'.size size
      · rw [hb] at h; cases h
      · rw [hb] at h
        simp only [cond_true, Option.some.injEq, Prod.mk.injEq] at h
        obtain ⟨rfl, rfl, rfl⟩ := h
        have hb := Nat.eq_of_beq_eq_true hb
        subst hb
        obtain ⟨⟨_, hwf⟩, a, cap, hv, _, hc0⟩ := hw.inB hk hd
        obtain ⟨b, off, rfl, _, hc⟩ := hc0 hm
        exact ⟨⟨⟨b, off, none⟩, cap, hv, fin b off (fun j hj => (hwf j hj).1) hc⟩, hwf, by simp⟩
    · cases h
  · rename_i i off len cap
    split at h
    · rename_i b hb
      split at h
      rotate_left
      · cases h
      rename_i vs hvs
      cases hc : (Nat.ble (off + len * size) b.cells.length && vs.all Value.oneCell')
      · rw [hc] at h; cases h
      · rw [hc] at h
        simp only [cond_true, Option.some.injEq, Prod.mk.injEq] at h
        obtain ⟨rfl, rfl, rfl⟩ := h
        simp only [Bool.and_eq_true] at hc
        obtain ⟨hle, hall⟩ := hc
        have hle := Nat.le_of_ble_eq_true hle
        have hcb := valsS_conc (ν := ν) hvs
        have hvl : vs.length = len * size := by rw [← hcb]; unfold concB; simp; omega
        have hvg : ∀ (k : Nat) c, vs[k]? = some c → (concB ν b.cells)[off + k]? = some c := fun k c hk => by
          have hlt : k < len * size := by rw [← hvl]; exact lt_of_some_list hk
          rw [← hcb] at hk
          unfold concB at hk ⊢
          rw [List.getElem?_map, List.getElem?_take, if_pos hlt, List.getElem?_drop] at hk
          rw [List.getElem?_map]; exact hk
        have hmul : ∀ j, j < len → j * size + size ≤ len * size := fun j hj => by
          have := Nat.mul_le_mul_right size (show j + 1 ≤ len from hj)
          rw [Nat.add_mul, Nat.one_mul] at this; exact this
        have hlen : ∀ j, j < len → (tabE (chunks size len vs) j).length = size := fun j hj => by
          have := hmul j hj
          rw [tabE_chunks _ _ _ _ hj]
          simp; omega
        refine ⟨⟨⟨ν.l i, off, none⟩, cap, rfl, fin (ν.l i) off hlen fun j hj o c hoc => ?_⟩, fun j hj => ⟨hlen j hj, ?_⟩, by simp⟩
        · have hcell := cells_of_blk ((hw.blk i b (getB_some hb).1).1.cells (getB_some hb).2)
          refine hcell _ _ ?_
          rw [tabE_chunks _ _ _ _ hj, List.getElem?_take] at hoc
          split at hoc
          · rw [List.getElem?_drop] at hoc
            rw [Nat.add_assoc]; exact hvg _ _ hoc
          · cases hoc
        · rw [tabE_chunks _ _ _ _ hj]
          rw [List.all_eq_true] at hall ⊢
          intro u hu
          refine hall u ?_
          obtain ⟨o, ho⟩ := List.getElem?_of_mem hu
          have := hmul j hj
          rw [List.getElem?_take] at ho
          split at ho
          · rw [List.getElem?_drop] at ho
            exact List.mem_of_getElem? ho
          · cases ho
    · cases h
  · cases h
theorem chunks_flat {size m : Nat} {vs : List Value} (h0 : 0 < size) (h : vs.length = m * size) : (List.range m).flatMap (tabE (chunks size m vs)) = vs := by
  have hmul : ∀ j, j < m → j * size + size ≤ m * size := fun j hj => by
    have := Nat.mul_le_mul_right size (show j + 1 ≤ m from hj)
    rwa [Nat.add_mul, Nat.one_mul] at this
  have hlen : ∀ j, j < m → (tabE (chunks size m vs) j).length = size := fun j hj => by
    rw [tabE_chunks size m vs j hj, List.length_take, List.length_drop]
    have := hmul j hj
    omega
  have hl := flat_len (f := tabE (chunks size m vs)) (s := size) m hlen
  refine List.ext_getElem? fun p => ?_
  rcases Nat.lt_or_ge p (m * size) with hp | hp
  · have hq : p / size < m := Nat.div_lt_of_lt_mul (by rw [Nat.mul_comm]; exact hp)
    have hr := Nat.mod_lt p h0
    have hg := flat_get (f := tabE (chunks size m vs)) (s := size) m hlen (p / size) hq (p % size) hr
    have hpe : p / size * size + p % size = p := by rw [Nat.mul_comm]; exact Nat.div_add_mod p size
    rw [hpe] at hg
    rw [hg, tabE_chunks size m vs _ hq, List.getElem?_take, if_pos hr, List.getElem?_drop, hpe]
  · rw [List.getElem?_eq_none (by rw [hl]; exact hp), List.getElem?_eq_none (by rw [h]; exact hp)]
theorem baseB_ok {s : St} {t : TypeId} {size n : Nat} {f : Nat → List Value} {y : SV} (h : baseB s t size y = some (n, f)) (h0 : 0 < size) {w0 : Base} {w : World} {ν : Nu} {mem : Bool} (hw : WR w0 ν s.own mem w) :
    ∃ g, conc ν y = .slice (some ⟨g, 0, none⟩) n n ∧ y ≠ .any ∧ w.ownsRow w0.heap.size t size (.slice (some ⟨g, 0, none⟩) n n) n ((List.range n).flatMap f) ∧ ∀ j, j < n → (f j).length = size ∧ (f j).all Value.oneCell' = true := by
  unfold baseB at h
  split at h
  · rename_i i len cap
    split at h
    · rename_i b hb
      split at h
      · rename_i vs hvs
        simp only [cond_eq_ite] at h
        split at h
        · rename_i hc
          simp only [Bool.and_eq_true] at hc
          obtain ⟨⟨⟨⟨c1, c2⟩, c3⟩, c4⟩, c5⟩ := hc
          have c1 := Nat.eq_of_beq_eq_true c1
          have c2 := Nat.eq_of_beq_eq_true c2
          have c3 := Nat.eq_of_beq_eq_true c3
          have c5 := Nat.le_of_ble_eq_true c5
          simp only [Option.some.injEq, Prod.mk.injEq] at h
          obtain ⟨rfl, rfl⟩ := h
          obtain ⟨hbb, hkd⟩ := getB_some hb
          obtain ⟨k1, k2⟩ := hw.blk i b hbb
          have k1 := k1.cells hkd
          rw [valsS_conc (ν := ν) hvs, c1] at k1
          subst c2
          have hfl := chunks_flat h0 c3
          refine ⟨ν.l i, rfl, by simp, ⟨by rw [hfl]; exact c3, .inr ⟨ν.l i, len, vs.toArray, rfl, k2, k1, Nat.le_refl _, by unfold maxLen; omega, by rw [List.size_toArray]; exact c3, ?_⟩⟩, fun j hj => ?_⟩
          · rw [hfl]
            show vs.take (len * size) = vs
            exact List.take_of_length_le (by omega)
          · have hm : j * size + size ≤ len * size := by
              have := Nat.mul_le_mul_right size (show j + 1 ≤ len from hj)
              rwa [Nat.add_mul, Nat.one_mul] at this
            rw [tabE_chunks size len vs j hj]
            refine ⟨by rw [List.length_take, List.length_drop]; omega, List.all_eq_true.mpr fun x hx => List.all_eq_true.mp c4 x (List.mem_of_mem_drop (List.mem_of_mem_take hx))⟩
        · cases h
      · cases h
    · cases h
  · cases h
theorem WR.append {w0 : Base} {ν : Nu} {own : Mem} {mem : Bool} {w w' : World} (h : WR w0 ν own mem w) {k? : Option Nat} {v v' : Value} {ne : LE} (hn : OwnB w0.heap.size w' ne v') (hno : ne.own = true)
    (hv : ∀ g, v.ownBlock = some g → ∃ k e', k? = some k ∧ own.l[k]? = some e' ∧ e'.dead = false ∧ e'.own = true ∧ (ν.v k).ownBlock = some g) (hg : w.grownBy w' v.ownBlock) (hwh : v'.ownBlock = v.ownBlock ∨ v'.ownBlock = some w.heap.size)
    (hfr : ∀ (j : Nat) (c : Blk) fl T e acc, own.b[j]? = some c → c.kd = .bld fl T e acc → ∀ g cs fz, v.ownBlock = some g → w.heap[g]? ≠ some (.cells cs e fz)) :
    WR w0 (extV ν own.l.length v') { own with l := killL own.l k? ++ [ne] } true w' := by
  have hsz := h.below.size
  have hrow : ∀ g, v.ownBlock = some g → w0.heap.size ≤ g := fun g e => by
    obtain ⟨k, e', _, hk, hd, ho, hb⟩ := hv g e
    exact (h.rowLt hk hd ho hb).1
  have hlen := killL_len own.l k?
  have old : ∀ i e, (killL own.l k? ++ [ne])[i]? = some e → e.dead = false → (i < own.l.length ∧ own.l[i]? = some e ∧ k? ≠ some i) ∨ (i = own.l.length ∧ e = ne) := fun i e hi hd => by
    rcases Nat.lt_or_ge i own.l.length with hl | hl
    · rw [List.getElem?_append_left (by rw [hlen]; exact hl)] at hi
      exact .inl ⟨hl, killL_live hi hd⟩
    · have hl2 : i = own.l.length := by
        have := lt_of_some_list hi
        simp [hlen] at this; omega
      subst hl2
      rw [List.getElem?_append_right (by rw [hlen]; exact Nat.le_refl _), hlen, Nat.sub_self] at hi
      simp at hi
      exact .inr ⟨rfl, hi.symm⟩
  have vold : ∀ i, i < own.l.length → (extV ν own.l.length v').v i = ν.v i := fun i hi => ((extV_old ν 0 own.l.length v').2 i hi).symm
  have other : ∀ i e, own.l[i]? = some e → e.dead = false → e.own = true → k? ≠ some i → (ν.v i).ownBlock = none ∨ (ν.v i).ownBlock ≠ v.ownBlock := fun i e hi hd ho hne => by
    cases hb : (ν.v i).ownBlock with
    | none => exact .inl rfl
    | some g =>
      right
      intro heq
      obtain ⟨k, e', rfl, hk, hd', ho', hb'⟩ := hv g heq.symm
      exact (h.sep i e hi hd ho g hb).2 k e' hk hd' ho' (fun e => hne (by rw [e])) hb'
  refine ⟨h.below.grown hg hsz hrow, fun i b hi => ?_, h.okb.mono (Nat.le_refl _) (by simp [hlen]), h.inj, fun i e hi hd => ?_, fun i e hi hd ho g hb => ?_, (fun h => by cases h), ⟨fun b o hb => (hg.block b (lt_of_some (h.fr.here b o hb)) (fun e => ?_)).trans (h.fr.here b o hb), h.fr.offb, fun i e hi hd ho g hb => ?_⟩⟩
  · obtain ⟨h1, h2⟩ := h.blk i b hi
    refine ⟨?_, h2⟩
    refine (h1.congr (h.okb i b hi) (extV_old ν own.b.length own.l.length v')).turn hg (fun e => ?_) (fun g cs fz fl T e acc eg hk => hfr i b fl T e acc hi hk g cs fz eg)
    · obtain ⟨k, e', _, hk, hd, ho, hb⟩ := hv _ e
      exact (h.sep k e' hk hd ho _ hb).1 i (lt_of_some_list hi) rfl
  · rcases old i e hi hd with ⟨hl, hi', hne⟩ | ⟨rfl, rfl⟩
    · rw [vold i hl]
      exact (h.lst i e hi' hd).kept hg hsz hrow (fun ho => other i e hi' hd ho hne)
    · rw [extV_new]
      unfold LOk
      rw [hno]; exact hn
  · rcases old i e hi hd with ⟨hl, hi', hne⟩ | ⟨rfl, rfl⟩
    · rw [vold i hl] at hb
      obtain ⟨s1, s2⟩ := h.sep i e hi' hd ho g hb
      refine ⟨s1, fun i' e' hi'' hd' ho' hne' => ?_⟩
      rcases old i' e' hi'' hd' with ⟨hl', hi3, hne3⟩ | ⟨rfl, rfl⟩
      · rw [vold i' hl']; exact s2 i' e' hi3 hd' ho' hne'
      · rw [extV_new]
        intro heq
        rcases hwh with hwh | hwh
        · rw [hwh] at heq
          rcases other i e hi' hd ho hne with h0 | h0
          · rw [h0] at hb; cases hb
          · exact h0 (hb.trans heq.symm)
        · rw [hwh] at heq
          simp only [Option.some.injEq] at heq
          have := (h.rowLt hi' hd ho hb).2
          omega
    · rw [extV_new] at hb
      refine ⟨fun j hj => ?_, fun i' e' hi'' hd' ho' hne' => ?_⟩
      · show ν.l j ≠ g
        intro heq
        rcases hwh with hwh | hwh
        · obtain ⟨k, e', _, hk, hd', ho', hb'⟩ := hv g (hwh.symm.trans hb)
          exact (h.sep k e' hk hd' ho' g hb').1 j hj heq
        · rw [hwh] at hb
          simp only [Option.some.injEq] at hb
          have := h.lt hj
          omega
      · rcases old i' e' hi'' hd' with ⟨hl', hi3, hne3⟩ | ⟨rfl, rfl⟩
        · rw [vold i' hl']
          intro heq
          rcases hwh with hwh | hwh
          · rcases other i' e' hi3 hd' ho' hne3 with h0 | h0
            · rw [h0] at heq; cases heq
            · exact h0 (heq.trans (hwh.symm.trans hb).symm)
          · rw [hwh] at hb
            simp only [Option.some.injEq] at hb
            have := (h.rowLt hi3 hd' ho' heq).2
            omega
        · exact absurd rfl hne'
  · obtain ⟨k, e', _, hk, hd, ho, hb'⟩ := hv b e.symm
    rw [h.fr.offl k e' hk hd ho b hb'] at hb; cases hb
  · rcases old i e hi hd with ⟨hl, hi', hne⟩ | ⟨rfl, rfl⟩
    · rw [vold i hl] at hb
      exact h.fr.offl i e hi' hd ho g hb
    · rw [extV_new] at hb
      rcases hwh with hwh | hwh
      · obtain ⟨k, e', _, hk, hd', ho', hb'⟩ := hv g (hwh.symm.trans hb)
        exact h.fr.offl k e' hk hd' ho' g hb'
      · rw [hwh] at hb
        simp only [Option.some.injEq] at hb
        exact h.fr.fresh (by omega)
theorem WR.turnL {w0 : Base} {ν : Nu} {own : Mem} {mem : Bool} {w w' : World} (h : WR w0 ν own mem w) {k : Nat} {e e' : LE} (hk : own.l[k]? = some e) (hd : e.dead = false) (ho : e.own = true) (ho' : e'.own = true) (hd' : e'.dead = false)
    (hn : OwnB w0.heap.size w' e' (ν.v k)) (hg : w.grownBy w' (ν.v k).ownBlock)
    (hfr : ∀ (j : Nat) (c : Blk) fl T e acc, own.b[j]? = some c → c.kd = .bld fl T e acc → ∀ g cs fz, (ν.v k).ownBlock = some g → w.heap[g]? ≠ some (.cells cs e fz)) :
    WR w0 ν { own with l := own.l.set k e' } true w' := by
  have hsz := h.below.size
  have hkl := lt_of_some_list hk
  have hrow : ∀ g, (ν.v k).ownBlock = some g → w0.heap.size ≤ g := fun g eg => (h.rowLt hk hd ho eg).1
  have old : ∀ (i : Nat) (x : LE), (own.l.set k e')[i]? = some x → (i ≠ k ∧ own.l[i]? = some x) ∨ (i = k ∧ x = e') := fun i x hi => by
    by_cases hik : k = i
    · subst hik
      rw [List.getElem?_set_self hkl] at hi
      exact .inr ⟨rfl, (Option.some.inj hi).symm⟩
    · rw [List.getElem?_set_ne hik] at hi
      exact .inl ⟨fun e => hik e.symm, hi⟩
  have other : ∀ (i : Nat) (x : LE), i ≠ k → own.l[i]? = some x → x.dead = false → x.own = true → (ν.v i).ownBlock = none ∨ (ν.v i).ownBlock ≠ (ν.v k).ownBlock := fun i x hne hi hdx hox => by
    cases hb : (ν.v i).ownBlock with
    | none => exact .inl rfl
    | some g =>
      right
      intro heq
      exact (h.sep i x hi hdx hox g hb).2 k e hk hd ho (fun e => hne e.symm) heq.symm
  refine ⟨h.below.grown hg hsz hrow, fun i b hi => ?_, h.okb.mono (Nat.le_refl _) (by simp), h.inj, fun i x hi hdx => ?_, fun i x hi hdx hox g hb => ?_, (fun h => by cases h), ⟨fun b o hb => (hg.block b (lt_of_some (h.fr.here b o hb)) (fun eg => by
    rw [h.fr.offl k e hk hd ho b eg.symm] at hb; cases hb)).trans (h.fr.here b o hb), h.fr.offb, fun i x hi hdx hox g hb => by
    rcases old i x hi with ⟨hne, hi'⟩ | ⟨rfl, rfl⟩
    · exact h.fr.offl i x hi' hdx hox g hb
    · exact h.fr.offl i e hk hd ho g hb⟩⟩
  · obtain ⟨h1, h2⟩ := h.blk i b hi
    refine ⟨h1.turn hg (fun eg => ?_) (fun g cs fz fl T e acc eg hkd => hfr i b fl T e acc hi hkd g cs fz eg), h2⟩
    exact (h.sep k e hk hd ho _ eg).1 i (lt_of_some_list hi) rfl
  · rcases old i x hi with ⟨hne, hi'⟩ | ⟨rfl, rfl⟩
    · exact (h.lst i x hi' hdx).kept hg hsz hrow (fun hox => other i x hne hi' hdx hox)
    · unfold LOk
      rw [ho']; exact hn
  · have hsep : (∀ j, j < own.b.length → ν.l j ≠ g) ∧ ∀ k' x', own.l[k']? = some x' → x'.dead = false → x'.own = true → k' ≠ i → (ν.v k').ownBlock ≠ some g := by
      rcases old i x hi with ⟨hne, hi'⟩ | ⟨rfl, rfl⟩
      · exact h.sep i x hi' hdx hox g hb
      · exact h.sep i e hk hd ho g hb
    refine ⟨hsep.1, fun i' x' hi2 hdx' hox' hne' => ?_⟩
    rcases old i' x' hi2 with ⟨_, hi3⟩ | ⟨rfl, rfl⟩
    · exact hsep.2 i' x' hi3 hdx' hox' hne'
    · exact hsep.2 i' e hk hd ho hne'
theorem cellsS_okV {s : St} {y : SV} {cs : List SV} (h : cellsS s y = some cs) {n m : Nat} (hy : okV n m y) : ∀ c ∈ cs, okV n m c := by
  unfold cellsS at h
  split at h
  · rename_i fl v
    cases hb : v.cells.toList.all Value.oneCell'
    · rw [hb] at h; cases h
    · rw [hb] at h
      simp only [cond_true, Option.some.injEq] at h
      subst h
      exact okV_mkCells _ _
  · simp only [Option.some.injEq] at h
    subst h
    intro c hc; rw [List.mem_singleton.mp hc]; exact hy
  · split at h
    · simp only [Option.some.injEq] at h
      subst h
      intro c hc; rw [List.mem_singleton.mp hc]; exact hy
    · cases h
  · simp only [Option.some.injEq] at h
    subst h
    intro c hc; rw [List.mem_singleton.mp hc]; exact hy
  · rename_i cs'
    cases hb : cs'.all (oneC s)
    · rw [hb] at h; cases h
    · rw [hb] at h
      simp only [cond_true, Option.some.injEq] at h
      subst h
      intro c hc
      obtain ⟨x, hx, rfl⟩ := List.mem_map.mp hc
      exact svC_okV1 (hy x hx)
  · cases h
theorem putLS_mem : ∀ (vs c : List SV) (o : Nat), ∀ x ∈ putLS c o vs, x ∈ c ∨ x ∈ vs
  | [], c, o, x, hx => .inl hx
  | v :: r, c, o, x, hx => by
    rcases putLS_mem r (c.set o v) (o + 1) x hx with h | h
    · rcases List.mem_or_eq_of_mem_set h with h | h
      · exact .inl h
      · exact .inr (by rw [h]; exact List.mem_cons_self)
    · exact .inr (List.mem_cons_of_mem _ h)
theorem putQS_mem (vs c : List SV) (o : Nat) : ∀ x ∈ putQS c o vs, x ∈ c ∨ x ∈ vs := fun x hx => by
  unfold putQS at hx
  cases hb : (Nat.beq o 0 && Nat.beq vs.length c.length)
  · rw [hb] at hx; exact putLS_mem vs c o x hx
  · rw [hb] at hx; exact .inr hx
theorem storeS_okV {P : Program} {t : TypeId} {cs us cs' : List SV} {off n m : Nat} (h : storeS P t cs off us = some cs') (h1 : ∀ c ∈ cs, okV n m c) (h2 : ∀ c ∈ us, okV n m c) : ∀ c ∈ cs', okV n m c := by
  unfold storeS at h
  split at h
  · rename_i i hi
    cases hb : (Nat.beq us.length i.size && Nat.ble (off + i.size) cs.length)
    · rw [hb] at h; cases h
    · rw [hb] at h
      simp only [cond_true, Option.some.injEq] at h
      subst h
      intro c hc
      rcases putQS_mem _ _ _ c hc with h | h
      · exact h1 c h
      · exact h2 c h
  · cases h
theorem litT_some {s : St} {size len : Nat} {parts : List (Nat × SV)} {us : List SV} (h : litT s size len parts = some us) : ∃ cs, parts = [(0, .st cs)] ∧ len = 1 ∧ cs.length = size ∧ 0 < size ∧ size ≤ 2 ^ 24 ∧ cellsS s (.st cs) = some us := by
  unfold litT at h
  split at h
  · rename_i cs
    cases hb : (Nat.beq len 1 && Nat.beq cs.length size && Nat.blt 0 size && Nat.ble size (2 ^ 24))
    · rw [hb] at h; cases h
    · rw [hb] at h
      simp only [Bool.and_eq_true] at hb
      exact ⟨cs, rfl, Nat.eq_of_beq_eq_true hb.1.1.1, Nat.eq_of_beq_eq_true hb.1.1.2, by simpa [Nat.blt_eq] using hb.1.2, Nat.le_of_ble_eq_true hb.2, h⟩
  · cases h
theorem litS_some {P : Program} {s : St} {t e : TypeId} {len : Nat} {parts : List (Nat × SV)} {cells : List SV} (h : litS P s t len parts = some (cells, e)) : cells = parts.map (·.2) ∨ ∃ i, litT s i len parts = some cells := by
  unfold litS at h
  split at h
  · split at h
    · rename_i i hi
      split at h
      · cases hb : (Nat.beq i.size 1 && Nat.beq parts.length len && Nat.blt 0 len && Nat.ble len (2 ^ 24) && seqB 0 parts && parts.all (fun p => oneS s p.2))
        · rw [hb] at h
          simp only [cond_false] at h
          split at h
          · rename_i us hus
            simp only [Option.some.injEq, Prod.mk.injEq] at h
            exact .inr ⟨_, by rw [← h.1]; exact hus⟩
          · cases h
        · rw [hb] at h
          simp only [cond_true, Option.some.injEq, Prod.mk.injEq] at h
          exact .inl h.1.symm
      · cases h
    · cases h
  · cases h
theorem litS_okV {P : Program} {s : St} {t e : TypeId} {len : Nat} {parts : List (Nat × SV)} {cells : List SV} (h : litS P s t len parts = some (cells, e)) {n m : Nat} (hp : ∀ p ∈ parts, okV n m p.2) : ∀ c ∈ cells, okV n m c := fun c hc => by
  rcases litS_some h with h1 | ⟨i, h1⟩
  · rw [h1] at hc
    obtain ⟨p, hm, rfl⟩ := List.mem_map.mp hc
    exact hp p hm
  · obtain ⟨cs, rfl, _, _, _, _, h2⟩ := litT_some h1
    exact cellsS_okV h2 (hp _ (List.mem_singleton.mpr rfl)) c hc
theorem stoL_some {E : Env} {s : St} {t : TypeId} {k j o sz : Nat} {v : Value} {e' : LE} {q : List (Bool × Bool)} (h : stoL E s t k j o sz v = some (e', q)) :
    ∃ e i, s.own.l[k]? = some e ∧ e.dead = false ∧ E.P.info? t = some i ∧ e.own = true ∧ s.llo ≤ k ∧ sz = e.size ∧ bldFree s e.elT = true ∧ v.cells.toList.length = i.size ∧ o + i.size ≤ e.size ∧ v.cells.toList.all Value.oneCell' = true ∧
      e' = { e with el := setE e.el j (putL (e.el j) o v.cells.toList) } ∧ q = [(pre (decide (j < e.n)), true)] := by
  unfold stoL at h
  split at h
  · rename_i e i he hi
    simp only [cond_eq_ite] at h
    split at h
    · rename_i hb
      simp only [Option.some.injEq, Prod.mk.injEq] at h
      simp only [Bool.and_eq_true] at hb
      obtain ⟨⟨⟨⟨⟨⟨h1, h2⟩, h3⟩, h4⟩, h5⟩, h6⟩, h7⟩ := hb
      obtain ⟨hk, hd⟩ := getL_some he
      exact ⟨e, i, hk, hd, hi, h1, Nat.le_of_ble_eq_true h2, Nat.eq_of_beq_eq_true h3, h4, Nat.eq_of_beq_eq_true h5, Nat.le_of_ble_eq_true h6, h7, h.1.symm, h.2.symm⟩
    · cases h
  · cases h
theorem simFX0_st {E : Env} {o : Oper} {s : St} {x : SV} {own : Mem} {q : List (Bool × Bool)} (h : simFX0 E o s = some (x, own, q)) (hg : Good s) :
    okV own.b.length own.l.length x ∧ s.own.b.length ≤ own.b.length ∧ s.own.l.length ≤ own.l.length ∧ (∀ i, i < s.lo → own.b[i]? = s.own.b[i]?) ∧ (∀ i, i < s.llo → own.l[i]? = s.own.l[i]?) ∧ OkB own.b.length own.l.length own.b := by
  have grow : ∀ (b : Blk), (∀ c ∈ b.cells, okV s.own.b.length s.own.l.length c) → s.own.b.length ≤ (s.own.b ++ [b]).length ∧ s.own.l.length ≤ s.own.l.length ∧ (∀ i, i < s.lo → (s.own.b ++ [b])[i]? = s.own.b[i]?) ∧ (∀ i, i < s.llo → s.own.l[i]? = s.own.l[i]?) ∧ OkB (s.own.b ++ [b]).length s.own.l.length (s.own.b ++ [b]) := fun b hb =>
    ⟨by simp, Nat.le_refl _, fun i hi => List.getElem?_append_left (Nat.lt_of_lt_of_le hi hg.lo), fun _ _ => rfl, (hg.okb.snoc hb).mono (by simp) (Nat.le_refl _)⟩
  unfold simFX0 at h
  split at h
  · split at h
    · split at h
      · split at h
        · simp only [Option.some.injEq, Prod.mk.injEq] at h
          obtain ⟨rfl, rfl, _⟩ := h
          exact ⟨by show _ < _; simp, grow _ (fun c hc => by cases hc)⟩
        · simp only [Option.some.injEq, Prod.mk.injEq] at h
          obtain ⟨rfl, rfl, _⟩ := h
          exact ⟨by show _ < _; simp, grow _ (okV_mkCells _ _)⟩
      · cases h
    · cases h
  · split at h
    · simp only [Option.some.injEq, Prod.mk.injEq] at h
      obtain ⟨rfl, rfl, _⟩ := h
      exact ⟨by show _ < _; simp, grow _ (fun c hc => by cases hc)⟩
    · cases h
  · rename_i t x' ho
    split at h
    · simp only [Option.some.injEq, Prod.mk.injEq] at h
      obtain ⟨rfl, rfl, _⟩ := h
      exact ⟨by show _ < _; simp, grow _ (okV_mkCells _ _)⟩
    · split at h
      · rename_i cs hcs
        simp only [Option.some.injEq, Prod.mk.injEq] at h
        obtain ⟨rfl, rfl, _⟩ := h
        exact ⟨by show _ < _; simp, grow _ (cellsS_okV hcs (ev_ok hg x'))⟩
      · cases h
  · rename_i t x' y' ho
    split at h
    · rename_i i off us hx hy
      cases hb : Nat.ble s.lo i
      · rw [hb] at h; cases h
      · rw [hb] at h
        simp only [cond_true] at h
        split at h
        · rename_i b hib
          cases hfr : bldFree s b.elem
          · rw [hfr] at h; cases h
          · rw [hfr] at h
            simp only [cond_true] at h
            split at h
            · rename_i cs hcs
              simp only [Option.some.injEq, Prod.mk.injEq] at h
              obtain ⟨rfl, rfl, _⟩ := h
              refine ⟨trivial, by simp, Nat.le_refl _, fun j hj => ?_, fun _ _ => rfl, (hg.okb.set (i := i) (b := ⟨cs, b.elem, .cells⟩) (storeS_okV hcs (hg.okb i b (getB_some hib).1) (cellsS_okV hy (ev_ok hg y')))).mono (by simp) (Nat.le_refl _)⟩
              have : s.lo ≤ i := Nat.le_of_ble_eq_true hb
              rw [List.getElem?_set_ne (by omega)]
            · cases h
        · cases h
    · split at h
      · split at h
        · rename_i e' q' hsto
          simp only [Option.some.injEq, Prod.mk.injEq] at h
          obtain ⟨rfl, rfl, _⟩ := h
          obtain ⟨e, i, hk, _, _, _, hlo, _⟩ := stoL_some hsto
          refine ⟨trivial, Nat.le_refl _, by simp, fun _ _ => rfl, fun j hj => ?_, hg.okb.mono (Nat.le_refl _) (by simp)⟩
          rw [List.getElem?_set_ne (by omega)]
        · cases h
      · cases h
    · cases h
  · split at h
    · split at h
      · split at h
        · simp only [cond_eq_ite] at h
          split at h
          · simp only [Option.some.injEq, Prod.mk.injEq] at h
            obtain ⟨rfl, rfl, _⟩ := h
            exact ⟨by show _ < _; simp, Nat.le_refl _, by simp, fun _ _ => rfl, fun j hj => List.getElem?_append_left (Nat.lt_of_lt_of_le hj hg.llo), hg.okb.mono (Nat.le_refl _) (by simp)⟩
          · cases h
        · cases h
      · cases h
    · cases h
  · rename_i t len parts ho
    cases hb : parts.toList.all (fun p => isV (ev s p.2))
    · rw [hb] at h
      simp only [cond_false] at h
      split at h
      · rename_i cells e hlit
        simp only [Option.some.injEq, Prod.mk.injEq] at h
        obtain ⟨rfl, rfl, _⟩ := h
        refine ⟨by show _ < _; simp, grow _ fun c hc => ?_⟩
        exact litS_okV hlit (fun p hp => by
          obtain ⟨p, _, rfl⟩ := List.mem_map.mp hp
          exact ev_ok hg p.2) c hc
      · cases h
    · rw [hb] at h
      simp only [cond_true] at h
      split at h
      · simp only [Option.some.injEq, Prod.mk.injEq] at h
        obtain ⟨rfl, rfl, _⟩ := h
        exact ⟨by show _ < _; simp, grow _ (okV_mkCells _ _)⟩
      · cases h
  · split at h
    · rename_i x' y' t t' _ _
      cases hb : Nat.beq t t'
      · rw [hb] at h; cases h
      · rw [hb] at h
        simp only [cond_true] at h
        split at h
        · split at h
          · split at h
            · simp only [cond_eq_ite] at h
              split at h
              · split at h
                · rename_i hbase hnews
                  simp only [Option.some.injEq, Prod.mk.injEq] at h
                  obtain ⟨rfl, rfl, _⟩ := h
                  have hk := baseOf_low hbase
                  refine ⟨?_, Nat.le_refl _, ?_, fun _ _ => rfl, fun j hj => ?_, hg.okb.mono (Nat.le_refl _) (by simp [killL_len])⟩
                  · show s.own.l.length < _; simp [killL_len]
                  · simp [killL_len]
                  · rw [List.getElem?_append_left (by rw [killL_len]; exact Nat.lt_of_lt_of_le hj hg.llo)]
                    exact killL_low hk j hj
                · split at h
                  · simp only [Option.some.injEq, Prod.mk.injEq] at h
                    obtain ⟨rfl, rfl, _⟩ := h
                    exact ⟨by show _ < _; simp, Nat.le_refl _, by simp, fun _ _ => rfl, fun j hj => List.getElem?_append_left (Nat.lt_of_lt_of_le hj hg.llo), hg.okb.mono (Nat.le_refl _) (by simp)⟩
                  · cases h
              · cases h
            · cases h
          · cases h
        · cases h
    · cases h
  · cases h
theorem WR.addIn {w0 : Base} {ν : Nu} {own : Mem} {mem : Bool} {w : World} (h : WR w0 ν own mem w) {e : LE} {v : Value} (ho : e.own = false) (hv : InB w0.heap.size w e v) : WR w0 (extV ν own.l.length v) { own with l := own.l ++ [e] } true w := by
  have vold : ∀ i, i < own.l.length → (extV ν own.l.length v).v i = ν.v i := fun i hi => ((extV_old ν 0 own.l.length v).2 i hi).symm
  have old : ∀ i e', (own.l ++ [e])[i]? = some e' → (i < own.l.length ∧ own.l[i]? = some e') ∨ (i = own.l.length ∧ e' = e) := fun i e' hi => by
    rcases Nat.lt_or_ge i own.l.length with hl | hl
    · rw [List.getElem?_append_left hl] at hi; exact .inl ⟨hl, hi⟩
    · have hl2 : i = own.l.length := by
        have := lt_of_some_list hi
        simp at this; omega
      subst hl2
      rw [List.getElem?_append_right (Nat.le_refl _), Nat.sub_self] at hi
      simp at hi
      exact .inr ⟨rfl, hi.symm⟩
  refine ⟨h.below, fun i b hi => ⟨(h.blk i b hi).1.congr (h.okb i b hi) (extV_old ν own.b.length own.l.length v), (h.blk i b hi).2⟩, h.okb.mono (Nat.le_refl _) (by simp), h.inj, fun i e' hi hd => ?_, fun i e' hi hd ho' g hb => ?_, (fun h => by cases h), ⟨h.fr.here, h.fr.offb, fun i e' hi hd ho' g hb => ?_⟩⟩
  · rcases old i e' hi with ⟨hl, hi'⟩ | ⟨rfl, rfl⟩
    · rw [vold i hl]; exact h.lst i e' hi' hd
    · rw [extV_new]; unfold LOk; rw [ho]; exact hv
  · rcases old i e' hi with ⟨hl, hi'⟩ | ⟨rfl, rfl⟩
    · rw [vold i hl] at hb
      obtain ⟨s1, s2⟩ := h.sep i e' hi' hd ho' g hb
      refine ⟨s1, fun i' e2 hi2 hd2 ho2 hne => ?_⟩
      rcases old i' e2 hi2 with ⟨hl', hi3⟩ | ⟨rfl, rfl⟩
      · rw [vold i' hl']; exact s2 i' e2 hi3 hd2 ho2 hne
      · rw [ho] at ho2; cases ho2
    · rw [ho] at ho'; cases ho'
  · rcases old i e' hi with ⟨hl, hi'⟩ | ⟨rfl, rfl⟩
    · rw [vold i hl] at hb; exact h.fr.offl i e' hi' hd ho' g hb
    · rw [ho] at ho'; cases ho'
theorem baseF_ok {s : St} {size n : Nat} {f : Nat → List Value} {y : SV} (h : baseF s size y = some (n, f)) (h0 : 0 < size) {w0 : Base} {w : World} {ν : Nu} {mem : Bool} (hw : WR w0 ν s.own mem w) :
    ∃ g, conc ν y = .slice (some ⟨g, 0, none⟩) n n ∧ y ≠ .any ∧ ((List.range n).flatMap f).length = n * size ∧ (∀ (j : Nat) u, ((List.range n).flatMap f)[j]? = some u → w.cell? ((⟨g, 0, none⟩ : Addr).add j) = some u) ∧ ∀ j, j < n → (f j).length = size ∧ (f j).all Value.oneCell' = true := by
  unfold baseF at h
  split at h
  · rename_i i len cap
    split at h
    · rename_i b hbb
      split at h
      · rename_i vs hkd hvs
        simp only [cond_eq_ite] at h
        split at h
        · rename_i hc
          simp only [Bool.and_eq_true] at hc
          obtain ⟨⟨⟨c2, c3⟩, c4⟩, c5⟩ := hc
          have c2 := Nat.eq_of_beq_eq_true c2
          have c3 := Nat.eq_of_beq_eq_true c3
          simp only [Option.some.injEq, Prod.mk.injEq] at h
          obtain ⟨rfl, rfl⟩ := h
          obtain ⟨k1, k2⟩ := hw.blk i b hbb
          unfold BOk at k1
          rw [hkd] at k1
          have k1 : w.heap[ν.l i]? = some (.cells (concB ν b.cells).toArray b.elem (b.cells.length, b.cells.length + 1)) := k1
          rw [valsS_conc (ν := ν) hvs] at k1
          subst c2
          have hfl := chunks_flat h0 c3
          refine ⟨ν.l i, rfl, by simp, by rw [hfl]; exact c3, fun j u hu => ?_, fun j hj => ?_⟩
          · rw [hfl] at hu
            rw [add_plain, Nat.zero_add]
            simp [World.cell?, k1, hu]
          · have hm : j * size + size ≤ len * size := by
              have := Nat.mul_le_mul_right size (show j + 1 ≤ len from hj)
              rwa [Nat.add_mul, Nat.one_mul] at this
            rw [tabE_chunks size len vs j hj]
            refine ⟨by rw [List.length_take, List.length_drop]; omega, List.all_eq_true.mpr fun x hx => List.all_eq_true.mp c4 x (List.mem_of_mem_drop (List.mem_of_mem_take hx))⟩
        · cases h
      · cases h
    · cases h
  · cases h
inductive GX (E : Env) (o : Oper) (s : St) : SV → Mem → List (Bool × Bool) → Prop
  | cut (t x lo hi k e i l h) (ho : o.op = .slice t x lo hi none) (hx : ev s x = .c k) (hk : getL s k = some e) (hu : E.P.underlying t = some (.slice (E.P.elem t))) (hi' : E.P.info? (E.P.elem t) = some i) (hl : boundS s 0 lo = some l) (hh : boundS s e.n hi = some h) (hsz : i.size = e.size) (hown : e.own = false) :
      GX E o s (.c s.own.l.length) { s.own with l := s.own.l ++ [⟨e.elT, e.size, h.toNat - l.toNat, fun j => e.el (l.toNat + j), false, false, true⟩] } [(pre (decide (0 ≤ l ∧ l ≤ h ∧ h ≤ e.n)), true)]
  | mark (t x i len cap b et) (ho : o.op = .convert t t x) (hx : ev s x = .inr (i, 0, some (len, cap))) (hlo : s.lo ≤ i) (hb : getB s i = some b) (hu : E.P.underlying t = some (.slice et)) (he : E.P.underlying et = some (.int .u8)) (hfr : bldFree s b.elem = true) :
      GX E o s (.inr (i, 0, some (len, cap))) { s.own with b := s.own.b.set i ⟨b.cells, b.elem, .shut⟩ } []
  | app (x y t e i z n f m g o2) (ho : o.op = .call { callee := .builtin .append, args := #[x, y], argTypes := #[t, t] }) (hu : E.P.underlying t = some (.slice e)) (hi : E.P.info? e = some i) (hz : i.zero = some z) (hzs : z.cells.size = i.size) (hsz : 0 < i.size) (hb : baseF s i.size (ev s x) = some (n, f)) (hn : newsOf s i.size (ev s y) = some (m, g, o2)) :
      GX E o s (.c s.own.l.length) { s.own with l := s.own.l ++ [⟨e, i.size, n + m, joinE n f g, true, false, o2⟩] } [(pre (decide (n + m ≤ maxLen ∧ (n + m) * i.bytes ≤ 140737488355328 ∧ 0 < m)), true)]
theorem simGX_some {E : Env} {o : Oper} {s : St} {x : SV} {own : Mem} {q : List (Bool × Bool)} (h : simGX E o s = some (x, own, q)) : GX E o s x own q := by
  unfold simGX at h
  split at h
  · rename_i t y lo hi ho
    cases hc : E.cut
    · rw [hc] at h; cases h
    · rw [hc] at h
      simp only [cond_true] at h
      split at h
      · rename_i k hy
        split at h
        · rename_i e et hk hu
          split at h
          · rename_i i l hh hi' hl hhh
            cases hb : (Nat.beq i.size e.size && Nat.beq (E.P.elem t) et && !e.own)
            · rw [hb] at h; cases h
            · rw [hb] at h
              simp only [cond_true, Option.some.injEq, Prod.mk.injEq] at h
              obtain ⟨rfl, rfl, rfl⟩ := h
              simp only [Bool.and_eq_true, Bool.not_eq_true'] at hb
              have het := Nat.eq_of_beq_eq_true hb.1.2
              subst het
              exact .cut t y lo hi k e i l hh ho hy hk hu hi' hl hhh (Nat.eq_of_beq_eq_true hb.1.1) hb.2
          · cases h
        · cases h
      · cases h
  · rename_i t t' y ho
    split at h
    · rename_i i len cap hy
      cases hb : (Nat.ble s.lo i && Nat.beq t t')
      · rw [hb] at h; cases h
      · rw [hb] at h
        simp only [cond_true] at h
        simp only [Bool.and_eq_true] at hb
        have htt := Nat.eq_of_beq_eq_true hb.2
        subst htt
        split at h
        · rename_i b et hbb hu
          split at h
          · rename_i he
            cases hf : bldFree s b.elem
            · rw [hf] at h; cases h
            · rw [hf] at h
              simp only [cond_true, Option.some.injEq, Prod.mk.injEq] at h
              obtain ⟨rfl, rfl, rfl⟩ := h
              exact .mark t y i len cap b et ho hy (Nat.le_of_ble_eq_true hb.1) hbb hu he hf
          · cases h
        · cases h
    · cases h
  · rename_i az ats ho
    split at h
    · rename_i x' y' t t' hl1 hl2
      have e1 : az = #[x', y'] := by rw [← Array.toArray_toList (xs := az), hl1]
      have e2 : ats = #[t, t'] := by rw [← Array.toArray_toList (xs := ats), hl2]
      cases hb : Nat.beq t t'
      · rw [hb] at h; cases h
      · rw [hb] at h
        have htt := Nat.eq_of_beq_eq_true hb
        subst htt
        simp only [cond_true] at h
        split at h
        · rename_i e hu
          split at h
          · rename_i i hi
            split at h
            · rename_i z hz
              cases hcond : (Nat.beq z.cells.size i.size && Nat.blt 0 i.size)
              · rw [hcond] at h; cases h
              · rw [hcond] at h
                simp only [cond_true] at h
                simp only [Bool.and_eq_true] at hcond
                split at h
                · rename_i n f m g o2 hb1 hn1
                  simp only [Option.some.injEq, Prod.mk.injEq] at h
                  obtain ⟨rfl, rfl, rfl⟩ := h
                  subst e1 e2
                  exact .app x' y' t e i z n f m g o2 ho hu hi hz (Nat.eq_of_beq_eq_true hcond.1) (by simpa [Nat.blt_eq] using hcond.2) hb1 hn1
                · cases h
            · cases h
          · cases h
        · cases h
    · cases h
  · cases h
theorem simGX_st {E : Env} {o : Oper} {s : St} {x : SV} {own : Mem} {q : List (Bool × Bool)} (h : simGX E o s = some (x, own, q)) (hg : Good s) :
    okV own.b.length own.l.length x ∧ s.own.b.length ≤ own.b.length ∧ s.own.l.length ≤ own.l.length ∧ (∀ i, i < s.lo → own.b[i]? = s.own.b[i]?) ∧ (∀ i, i < s.llo → own.l[i]? = s.own.l[i]?) ∧ OkB own.b.length own.l.length own.b := by
  cases simGX_some h with
  | cut t x lo hi k e i l h => exact ⟨by show _ < _; simp, Nat.le_refl _, by simp, fun _ _ => rfl, fun j hj => List.getElem?_append_left (Nat.lt_of_lt_of_le hj hg.llo), hg.okb.mono (Nat.le_refl _) (by simp)⟩
  | mark t x i len cap b et ho hx hlo hb hu he hfr =>
    refine ⟨?_, by simp, Nat.le_refl _, fun j hj => List.getElem?_set_ne (by omega), fun _ _ => rfl, (hg.okb.set (i := i) (b := ⟨b.cells, b.elem, .shut⟩) (hg.okb i b (getB_some hb).1)).mono (by simp) (Nat.le_refl _)⟩
    show i < (s.own.b.set i _).length
    rw [List.length_set]
    exact lt_of_some_list (getB_some hb).1
  | app x y t e i z n f m g o2 => exact ⟨by show _ < _; simp, Nat.le_refl _, by simp, fun _ _ => rfl, fun j hj => List.getElem?_append_left (Nat.lt_of_lt_of_le hj hg.llo), hg.okb.mono (Nat.le_refl _) (by simp)⟩
theorem simLX_some {E : Env} {o : Oper} {s : St} {x : SV} {own : Mem} {q : List (Bool × Bool)} (h : simLX E o s = some (x, own, q)) : ∃ t len parts cells e i, o.op = .buildSlice t len parts ∧ parts.toList.all (fun p => isV (ev s p.2)) = true ∧ litB E.P t len (parts.toList.map fun p => (p.1, rho s p.2)) = some (cells, e) ∧ E.P.info? e = some i ∧ 0 < i.size ∧ cells.length = len * i.size ∧ cells.all Value.oneCell' = true ∧ len ≤ 2 ^ 24 ∧
    x = .c s.own.l.length ∧ own = { s.own with l := s.own.l ++ [⟨e, i.size, len, tabE (chunks i.size len cells), true, false, true⟩] } ∧ q = [] := by
  unfold simLX at h
  split at h
  · rename_i t len parts ho
    cases hb : (E.lit && parts.toList.all (fun p => isV (ev s p.2)))
    · rw [hb] at h; cases h
    · rw [hb] at h
      simp only [cond_true] at h
      simp only [Bool.and_eq_true] at hb
      split at h
      · rename_i cells e hl
        split at h
        · rename_i i hi
          cases hc : (Nat.blt 0 i.size && Nat.beq cells.length (len * i.size) && cells.all Value.oneCell' && Nat.ble len (2 ^ 24))
          · rw [hc] at h; cases h
          · rw [hc] at h
            simp only [cond_true, Option.some.injEq, Prod.mk.injEq] at h
            simp only [Bool.and_eq_true] at hc
            exact ⟨t, len, parts, cells, e, i, ho, hb.2, hl, hi, by simpa [Nat.blt_eq] using hc.1.1.1, Nat.eq_of_beq_eq_true hc.1.1.2, hc.1.2, Nat.le_of_ble_eq_true hc.2, h.1.symm, h.2.1.symm, h.2.2.symm⟩
        · cases h
      · cases h
  · cases h
theorem simMX_some {E : Env} {o : Oper} {s : St} {x : SV} {own : Mem} {q : List (Bool × Bool)} (h : simMX E o s = some (x, own, q)) :
    (∃ t, o.op = .makeMap t none ∧ x = .mp s.own.b.length ∧ own = { s.own with b := s.own.b ++ [⟨[], 0, .map t []⟩] } ∧ q = []) ∨
    ∃ t m ix y i f k g v b kt et T l, o.op = .mapUpdate t m ix y ∧ ev s m = .mp i ∧ ev s ix = .inl (f, .int .i64 k) ∧ ev s y = .inl (g, v) ∧ s.lo ≤ i ∧ s.own.b[i]? = some b ∧ E.P.underlying t = some (.map kt et) ∧ b.kd = .map T l ∧ E.P.underlying kt = some (.int .i64) ∧
      x = .inl ([], undef) ∧ own = { s.own with b := s.own.b.set i ⟨[], 0, .map T ((k, v) :: l)⟩ } ∧ q = [(pre (decide (inI k = true ∧ l.length < maxLen)), true)] := by
  unfold simMX at h
  split at h
  · rename_i t ho
    simp only [Option.some.injEq, Prod.mk.injEq] at h
    exact .inl ⟨t, ho, h.1.symm, h.2.1.symm, h.2.2.symm⟩
  · rename_i t m ix y ho
    split at h
    · rename_i i f k g v hm hix hy
      cases hlo : Nat.ble s.lo i
      · rw [hlo] at h; cases h
      · rw [hlo] at h
        simp only [cond_true] at h
        split at h
        · rename_i b kt et hb hu
          split at h
          · rename_i T l hkd hk
            simp only [Option.some.injEq, Prod.mk.injEq] at h
            exact .inr ⟨t, m, ix, y, i, f, k, g, v, b, kt, et, T, l, ho, hm, hix, hy, Nat.le_of_ble_eq_true hlo, hb, hu, hkd, hk, h.1.symm, h.2.1.symm, h.2.2.symm⟩
          · cases h
        · cases h
    · cases h
  · cases h
theorem selL_okV {k : IntKind} {n v : Int} {N M : Nat} : ∀ (xs : List Int) (j : Nat), ∀ c ∈ selL k n v j xs, okV N M c
  | [], j, c, h => by cases h
  | x :: r, j, c, h => by
    rcases List.mem_cons.mp h with rfl | h
    · trivial
    · exact selL_okV r (j + 1) c h
theorem ia_okV {cs : List SV} {k : IntKind} {n v : Int} {xs : List Int} {off len N M : Nat} (h : ∀ c ∈ cs, okV N M c) : ∀ c ∈ cs.take off ++ (selL k n v 0 xs ++ cs.drop (off + len)), okV N M c := fun c hc => by
  rcases List.mem_append.mp hc with hc | hc
  · exact h c (List.mem_of_mem_take hc)
  · rcases List.mem_append.mp hc with hc | hc
    · exact selL_okV xs 0 c hc
    · exact h c (List.mem_of_mem_drop hc)
theorem selL_len {k : IntKind} {n v : Int} : ∀ (xs : List Int) (j : Nat), (selL k n v j xs).length = xs.length
  | [], j => rfl
  | x :: r, j => by simp [selL, selL_len r]
theorem selL_conc {k : IntKind} {n v : Int} {ν : Nu} : ∀ (xs : List Int) (j i : Nat), i < xs.length → (concB ν (selL k n v j xs))[i]? = some (.int k (bif n == ((j + i : Nat) : Int) then v else (xs[i]?).getD 0))
  | [], j, i, h => by cases h
  | x :: r, j, 0, h => by show some (Value.int k (selZ n j v x)) = _; rw [selZ_eq]; rfl
  | x :: r, j, i + 1, h => by
    show (concB ν (selL k n v (j + 1) r))[i]? = _
    rw [selL_conc r (j + 1) i (by simpa using h)]
    rw [show j + 1 + i = j + (i + 1) by omega]; rfl
theorem simIX_some {E : Env} {o : Oper} {s : St} {x : SV} {own : Mem} {q : List (Bool × Bool)} (h : simIX E o s = some (x, own, q)) :
    ∃ t y z i off len n f k v b ti xs, o.op = .store t y z ∧ ev s y = .ia i off len n ∧ ev s z = .inl (f, .int k v) ∧ s.lo ≤ i ∧ getB s i = some b ∧ E.P.info? t = some ti ∧ bldFree s b.elem = true ∧ ti.size = 1 ∧ intsAt k ((b.cells.drop off).take len) = some xs ∧ xs.length = len ∧
      x = .inl ([], undef) ∧ own = { s.own with b := s.own.b.set i ⟨b.cells.take off ++ (selL k n v 0 xs ++ b.cells.drop (off + len)), b.elem, .cells⟩ } ∧ q = [(pre (idxB n len), true)] := by
  unfold simIX at h
  split at h
  · rename_i t y z ho
    split at h
    · rename_i i off len n f k v hy hz
      cases hlo : Nat.ble s.lo i
      · rw [hlo] at h; cases h
      · rw [hlo] at h
        simp only [cond_true] at h
        split at h
        · rename_i b ti hb hi
          cases hs : (bldFree s b.elem && Nat.beq ti.size 1)
          · rw [hs] at h; cases h
          · rw [hs] at h
            simp only [cond_true] at h
            split at h
            · rename_i xs hxs
              cases hl : Nat.beq xs.length len
              · rw [hl] at h; cases h
              · rw [hl] at h
                simp only [cond_true, Option.some.injEq, Prod.mk.injEq] at h
                rw [Bool.and_eq_true] at hs
                exact ⟨t, y, z, i, off, len, n, f, k, v, b, ti, xs, ho, hy, hz, Nat.le_of_ble_eq_true hlo, hb, hi, hs.1, Nat.eq_of_beq_eq_true hs.2, hxs, Nat.eq_of_beq_eq_true hl, h.1.symm, h.2.1.symm, h.2.2.symm⟩
            · cases h
        · cases h
    · cases h
  · cases h
theorem store_ia {P : Program} {t : TypeId} {ti : TypeInfo} {cs : List SV} {off len : Nat} {k : IntKind} {n v : Int} {xs : List Int} {ν : Nu} (hi : P.info? t = some ti) (hs : ti.size = 1) (h : intsAt k ((cs.drop off).take len) = some xs) (hl : xs.length = len) (hn : 0 ≤ n ∧ n < len) :
    storeB P t (concB ν cs) (off + n.toNat) (.int k v) = some (concB ν (cs.take off ++ (selL k n v 0 xs ++ cs.drop (off + len)))) := by
  have hc := congrArg List.length (intsAt_ok (ν := ν) h)
  have hc : min len (cs.length - off) = len := by simpa [concB, hl] using hc
  have hlen : (concB ν cs).length = cs.length := by simp [concB]
  unfold storeB
  simp only [hi]
  have e1 : (Value.int k v).cells.toList = [Value.int k v] := rfl
  have e2 : (Nat.beq [Value.int k v].length ti.size && Nat.ble (off + n.toNat + ti.size) (concB ν cs).length && [Value.int k v].all Value.oneCell') = true := by
    rw [hs, hlen, show Nat.ble (off + n.toNat + 1) cs.length = true from Nat.ble_eq.mpr (by omega)]; rfl
  rw [e1, e2, cond_true]
  congr 1
  have e3 : putQ (concB ν cs) (off + n.toNat) [Value.int k v] = (concB ν cs).set (off + n.toNat) (.int k v) := by
    unfold putQ
    cases hb : (Nat.beq (off + n.toNat) 0 && Nat.beq [Value.int k v].length (concB ν cs).length)
    · rfl
    · simp only [Bool.and_eq_true] at hb
      have h1 := Nat.eq_of_beq_eq_true hb.1
      have h2 : 1 = (concB ν cs).length := Nat.eq_of_beq_eq_true hb.2
      rw [h1]
      match hcs : concB ν cs, h2 with
      | [c], _ => rfl
  rw [e3]
  apply List.ext_getElem?
  intro j
  have e4 : concB ν (cs.take off ++ (selL k n v 0 xs ++ cs.drop (off + len))) = (concB ν cs).take off ++ (concB ν (selL k n v 0 xs) ++ (concB ν cs).drop (off + len)) := by simp [concB, List.map_take, List.map_drop]
  rw [e4]
  have e5 : ((concB ν cs).take off).length = off := by rw [List.length_take, hlen]; omega
  have e6 : (concB ν (selL k n v 0 xs)).length = len := by simp [concB, selL_len, hl]
  by_cases h1 : j < off
  · rw [List.getElem?_append_left (by omega), List.getElem?_set_ne (by omega), List.getElem?_take_of_lt h1]
  · rw [List.getElem?_append_right (by omega), e5]
    by_cases h2 : j - off < len
    · rw [List.getElem?_append_left (by omega), selL_conc xs 0 (j - off) (by omega)]
      have hat := cells_at h (ν := ν) (j := j - off) (by omega)
      rw [show off + (j - off) = j by omega] at hat
      by_cases h3 : n = ((0 + (j - off) : Nat) : Int)
      · have : off + n.toNat = j := by omega
        rw [this, List.getElem?_set_self (by omega), show (n == ((0 + (j - off) : Nat) : Int)) = true by simpa using h3]; rfl
      · rw [List.getElem?_set_ne (by omega), hat, show (n == ((0 + (j - off) : Nat) : Int)) = false by simpa using h3]; rfl
    · rw [List.getElem?_append_right (by omega), e6, List.getElem?_set_ne (by omega), List.getElem?_drop]
      congr 1
      omega
theorem simFX1_st {E : Env} {o : Oper} {s : St} {x : SV} {own : Mem} {q : List (Bool × Bool)} (h : simFX1 E o s = some (x, own, q)) (hg : Good s) :
    okV own.b.length own.l.length x ∧ s.own.b.length ≤ own.b.length ∧ s.own.l.length ≤ own.l.length ∧ (∀ i, i < s.lo → own.b[i]? = s.own.b[i]?) ∧ (∀ i, i < s.llo → own.l[i]? = s.own.l[i]?) ∧ OkB own.b.length own.l.length own.b := by
  unfold simFX1 at h
  split at h
  · rename_i r hr
    obtain ⟨t, len, parts, cells, e, i, _, _, _, _, _, _, _, _, rfl, rfl, _⟩ := simLX_some (hr.trans h)
    exact ⟨by show _ < _; simp, Nat.le_refl _, by simp, fun _ _ => rfl, fun j hj => List.getElem?_append_left (Nat.lt_of_lt_of_le hj hg.llo), hg.okb.mono (Nat.le_refl _) (by simp)⟩
  · split at h
    · rename_i r hr
      rcases simMX_some (hr.trans h) with ⟨t, ho, rfl, rfl, rfl⟩ | ⟨t, m, ix, y, i, f, k, g, v, b, kt, et, T, l, ho, hm, hix, hy, hlo, hb, hu, hkd, hk, rfl, rfl, rfl⟩
      · exact ⟨by show _ < _; simp, by simp, Nat.le_refl _, fun j hj => List.getElem?_append_left (Nat.lt_of_lt_of_le hj hg.lo), fun _ _ => rfl, (hg.okb.snoc (b := ⟨[], 0, .map t []⟩) (fun c hc => by cases hc)).mono (by simp) (Nat.le_refl _)⟩
      · exact ⟨trivial, by simp, Nat.le_refl _, fun j hj => List.getElem?_set_ne (by omega), fun _ _ => rfl, (hg.okb.set (i := i) (b := ⟨[], 0, .map T ((k, v) :: l)⟩) (fun c hc => by cases hc)).mono (by simp) (Nat.le_refl _)⟩
    · split at h
      · rename_i r hr
        obtain ⟨t, y, z, i, off, len, n, f, k, v, b, ti, xs, ho, hy, hz, hlo, hb, hi, hfr, hs, hxs, hl, rfl, rfl, rfl⟩ := simIX_some (hr.trans h)
        exact ⟨trivial, by simp, Nat.le_refl _, fun j hj => List.getElem?_set_ne (by omega), fun _ _ => rfl, (hg.okb.set (i := i) (b := ⟨b.cells.take off ++ (selL k n v 0 xs ++ b.cells.drop (off + len)), b.elem, .cells⟩) (ia_okV (hg.okb i b (getB_some hb).1))).mono (by simp) (Nat.le_refl _)⟩
      · split at h
        · rename_i r hr
          exact simFX0_st (hr.trans h) hg
        · exact simGX_st h hg
theorem simNA_some {E : Env} {o : Oper} {s : St} {x : SV} {own : Mem} {q : List (Bool × Bool)} (h : simNA E o s = some (x, own, q)) : ∃ y z t e i k k2 e1 e2, o.op = .call { callee := .builtin .append, args := #[y, z], argTypes := #[t, t] } ∧ E.P.underlying t = some (.slice e) ∧ E.P.info? e = some i ∧ ev s y = .c k ∧ ev s z = .c k2 ∧ getL s k = some e1 ∧ getL s k2 = some e2 ∧ x = .c k ∧ own = s.own ∧ q = [(pre (decide (e2.n = 0)), true)] := by
  unfold simNA at h
  split at h
  · rename_i az ats d ho hd
    cases hn : E.non.any (Nat.beq d)
    · rw [hn] at h; cases h
    · rw [hn] at h
      simp only [cond_true] at h
      split at h
      · rename_i y z t t' hl1 hl2
        have e1 : az = #[y, z] := by rw [← Array.toArray_toList (xs := az), hl1]
        have e2 : ats = #[t, t'] := by rw [← Array.toArray_toList (xs := ats), hl2]
        cases hb : Nat.beq t t'
        · rw [hb] at h; cases h
        · rw [hb] at h
          have htt := Nat.eq_of_beq_eq_true hb
          subst htt
          simp only [cond_true] at h
          split at h
          · rename_i e k k2 hu hy hz
            split at h
            · rename_i i la lb hi hk hk2
              simp only [Option.some.injEq, Prod.mk.injEq] at h
              obtain ⟨rfl, rfl, rfl⟩ := h
              subst e1 e2
              exact ⟨y, z, t, e, i, k, k2, la, lb, ho, hu, hi, hy, hz, hk, hk2, rfl, rfl, rfl⟩
            · cases h
          · cases h
      · cases h
  · cases h
theorem simFX3_st {E : Env} {o : Oper} {s : St} {x : SV} {own : Mem} {q : List (Bool × Bool)} (h : simFX3 E o s = some (x, own, q)) (hg : Good s) :
    okV own.b.length own.l.length x ∧ s.own.b.length ≤ own.b.length ∧ s.own.l.length ≤ own.l.length ∧ (∀ i, i < s.lo → own.b[i]? = s.own.b[i]?) ∧ (∀ i, i < s.llo → own.l[i]? = s.own.l[i]?) ∧ OkB own.b.length own.l.length own.b := by
  unfold simFX3 at h
  split at h
  · rename_i r hr
    obtain ⟨y, z, t, e, i, k, k2, e1, e2, _, _, _, _, _, hk, _, rfl, rfl, _⟩ := simNA_some (hr.trans h)
    exact ⟨lt_of_some_list (getL_some hk).1, Nat.le_refl _, Nat.le_refl _, fun _ _ => rfl, fun _ _ => rfl, hg.okb⟩
  · exact simFX1_st h hg
theorem simNB_some {E : Env} {o : Oper} {s : St} {x : SV} {own : Mem} {q : List (Bool × Bool)} (h : simNB E o s = some (x, own, q)) : ∃ y z t e i fl, o.op = .call { callee := .builtin .append, args := #[y, z], argTypes := #[t, t] } ∧ E.P.underlying t = some (.slice e) ∧ E.P.info? e = some i ∧ ev s y = .inl (fl, .slice none 0 0) ∧ x = .inl ([], .slice none 0 0) ∧ own = s.own ∧
    ((∃ k2 e2, ev s z = .c k2 ∧ getL s k2 = some e2 ∧ q = [(pre (decide (e2.n = 0)), true)]) ∨ ∃ f2, ev s z = .inl (f2, .slice none 0 0)) := by
  unfold simNB at h
  split at h
  · rename_i az ats d ho hd
    split at h
    · rename_i y z t t' hl1 hl2
      have e1 : az = #[y, z] := by rw [← Array.toArray_toList (xs := az), hl1]
      have e2 : ats = #[t, t'] := by rw [← Array.toArray_toList (xs := ats), hl2]
      cases hb : Nat.beq t t'
      · rw [hb] at h; cases h
      · rw [hb] at h
        have htt := Nat.eq_of_beq_eq_true hb
        subst htt
        simp only [cond_true] at h
        subst e1 e2
        split at h
        · rename_i e fl k2 hu hy hz
          cases hn : E.non.any (Nat.beq d)
          · rw [hn] at h; cases h
          · rw [hn] at h
            simp only [cond_true] at h
            split at h
            · rename_i i le hi hk
              simp only [Option.some.injEq, Prod.mk.injEq] at h
              obtain ⟨rfl, rfl, rfl⟩ := h
              exact ⟨y, z, t, e, i, fl, ho, hu, hi, hy, rfl, rfl, .inl ⟨k2, le, hz, hk, rfl⟩⟩
            · cases h
        · rename_i e fl f2 hu hy hz
          split at h
          · rename_i i hi
            simp only [Option.some.injEq, Prod.mk.injEq] at h
            obtain ⟨rfl, rfl, rfl⟩ := h
            exact ⟨y, z, t, e, i, fl, ho, hu, hi, hy, rfl, rfl, .inr ⟨f2, hz⟩⟩
          · cases h
        · cases h
    · cases h
  · cases h
theorem simAG_some {E : Env} {o : Oper} {s : St} {x : SV} {own : Mem} {q : List (Bool × Bool)} (h : simAG E o s = some (x, own, q)) : ∃ y z t t' e i zv fl m n f o1 k?, o.op = .call { callee := .builtin .append, args := #[y, z], argTypes := #[t, t'] } ∧ E.P.underlying t = some (.slice e) ∧ E.P.underlying t' = some (.int .i64) ∧ E.P.info? e = some i ∧ i.zero = some zv ∧
    zv.cells.size = i.size ∧ 0 < i.size ∧ bldFree s e = true ∧ zv.cells.toList.all Value.oneCell' = true ∧ ev s z = .inl (fl, .int .i64 m) ∧ baseOf s e i.size (ev s y) = some (n, f, o1, k?) ∧ x = .c s.own.l.length ∧ own = { s.own with l := killL s.own.l k? ++ [⟨e, i.size, n + m.toNat, joinE n f (fun _ => zv.cells.toList), true, false, o1 || anyF fl⟩] } ∧ q = [(pre (decide (0 ≤ m ∧ n + m.toNat ≤ maxLen ∧ (n + m.toNat) * i.bytes ≤ 140737488355328)), true)] := by
  unfold simAG at h
  split at h
  · rename_i az ats ho
    split at h
    · rename_i y z t t' hl1 hl2
      have e1 : az = #[y, z] := by rw [← Array.toArray_toList (xs := az), hl1]
      have e2 : ats = #[t, t'] := by rw [← Array.toArray_toList (xs := ats), hl2]
      subst e1 e2
      split at h
      · rename_i e fl m hu hu' hz
        split at h
        · rename_i i hi
          split at h
          · rename_i zv hzv
            cases hb : (Nat.beq zv.cells.size i.size && Nat.blt 0 i.size && bldFree s e && zv.cells.toList.all Value.oneCell')
            · rw [hb] at h; cases h
            · rw [hb] at h
              simp only [cond_true] at h
              split at h
              · rename_i n f o1 k? hbase
                simp only [Option.some.injEq, Prod.mk.injEq] at h
                obtain ⟨rfl, rfl, rfl⟩ := h
                simp only [Bool.and_eq_true] at hb
                exact ⟨y, z, t, t', e, i, zv, fl, m, n, f, o1, k?, ho, hu, hu', hi, hzv, Nat.eq_of_beq_eq_true hb.1.1.1, by simpa [Nat.blt_eq] using hb.1.1.2, hb.1.2, hb.2, hz, hbase, rfl, rfl, rfl⟩
              · cases h
          · cases h
        · cases h
      · cases h
    · cases h
  · cases h
theorem simFX6_st {E : Env} {o : Oper} {s : St} {x : SV} {own : Mem} {q : List (Bool × Bool)} (h : simFX6 E o s = some (x, own, q)) (hg : Good s) :
    okV own.b.length own.l.length x ∧ s.own.b.length ≤ own.b.length ∧ s.own.l.length ≤ own.l.length ∧ (∀ i, i < s.lo → own.b[i]? = s.own.b[i]?) ∧ (∀ i, i < s.llo → own.l[i]? = s.own.l[i]?) ∧ OkB own.b.length own.l.length own.b := by
  unfold simFX6 at h
  split at h
  · rename_i r hr
    obtain ⟨y, z, t, t', e, i, zv, fl, m, n, f, o1, k?, _, _, _, _, _, _, _, _, _, _, hbase, rfl, rfl, _⟩ := simAG_some (hr.trans h)
    have hk := baseOf_low hbase
    have hlen := killL_len s.own.l k?
    refine ⟨by show _ < _; simp [hlen], Nat.le_refl _, by simp [hlen], fun _ _ => rfl, fun j hj => ?_, hg.okb.mono (Nat.le_refl _) (by simp [hlen])⟩
    show (killL s.own.l k? ++ _)[j]? = _
    have hj2 : j < s.own.l.length := Nat.lt_of_lt_of_le hj hg.llo
    rw [List.getElem?_append_left (by rw [hlen]; exact hj2)]
    exact killL_low hk j hj
  · unfold simFX4 at h
    split at h
    · rename_i r hr
      obtain ⟨_, _, _, _, _, _, _, _, _, _, rfl, rfl, _⟩ := simNB_some (hr.trans h)
      exact ⟨trivial, Nat.le_refl _, Nat.le_refl _, fun _ _ => rfl, fun _ _ => rfl, hg.okb⟩
    · exact simFX3_st h hg
theorem simMY_some {E : Env} {o : Oper} {s : St} {x : SV} {own : Mem} {q : List (Bool × Bool)} (h : simMY E o s = some (x, own, q)) :
    (∃ t, o.op = .makeMap t none ∧ x = .mp s.own.b.length ∧ own = { s.own with b := s.own.b ++ [⟨[], 0, .mapV t []⟩] } ∧ q = []) ∨
    ∃ t m ix y i f k g v b kt et T l, o.op = .mapUpdate t m ix y ∧ ev s m = .mp i ∧ ev s ix = .inl (f, k) ∧ ev s y = .inl (g, v) ∧ s.lo ≤ i ∧ s.own.b[i]? = some b ∧ E.P.underlying t = some (.map kt et) ∧ b.kd = .mapV T l ∧
      x = .inl ([], undef) ∧ own = { s.own with b := s.own.b.set i ⟨[], 0, .mapV T ((k, v) :: l)⟩ } ∧ q = [(pre (decide (l.length < maxLen)), true), (pre (keysB E.P kt k l), true)] := by
  unfold simMY at h
  split at h
  · rename_i t ho
    split at h
    · split at h
      · cases h
      · simp only [Option.some.injEq, Prod.mk.injEq] at h
        exact .inl ⟨t, ho, h.1.symm, h.2.1.symm, h.2.2.symm⟩
    · cases h
  · rename_i t m ix y ho
    split at h
    · rename_i i f k g v hm hix hy
      cases hlo : Nat.ble s.lo i
      · rw [hlo] at h; cases h
      · rw [hlo] at h
        simp only [cond_true] at h
        split at h
        · rename_i b kt et hb hu
          split at h
          · rename_i T l hkd
            simp only [Option.some.injEq, Prod.mk.injEq] at h
            exact .inr ⟨t, m, ix, y, i, f, k, g, v, b, kt, et, T, l, ho, hm, hix, hy, Nat.le_of_ble_eq_true hlo, hb, hu, hkd, h.1.symm, h.2.1.symm, h.2.2.symm⟩
          · cases h
        · cases h
    · cases h
  · cases h
theorem simFX2_st {E : Env} {o : Oper} {s : St} {x : SV} {own : Mem} {q : List (Bool × Bool)} (h : simFX2 E o s = some (x, own, q)) (hg : Good s) :
    okV own.b.length own.l.length x ∧ s.own.b.length ≤ own.b.length ∧ s.own.l.length ≤ own.l.length ∧ (∀ i, i < s.lo → own.b[i]? = s.own.b[i]?) ∧ (∀ i, i < s.llo → own.l[i]? = s.own.l[i]?) ∧ OkB own.b.length own.l.length own.b := by
  unfold simFX2 at h
  split at h
  · rename_i r hr
    rcases simMY_some (hr.trans h) with ⟨t, ho, rfl, rfl, rfl⟩ | ⟨t, m, ix, y, i, f, k, g, v, b, kt, et, T, l, ho, hm, hix, hy, hlo, hb, hu, hkd, rfl, rfl, rfl⟩
    · exact ⟨by show _ < _; simp, by simp, Nat.le_refl _, fun j hj => List.getElem?_append_left (Nat.lt_of_lt_of_le hj hg.lo), fun _ _ => rfl, (hg.okb.snoc (b := ⟨[], 0, .mapV t []⟩) (fun c hc => by cases hc)).mono (by simp) (Nat.le_refl _)⟩
    · exact ⟨trivial, by simp, Nat.le_refl _, fun j hj => List.getElem?_set_ne (by omega), fun _ _ => rfl, (hg.okb.set (i := i) (b := ⟨[], 0, .mapV T ((k, v) :: l)⟩) (fun c hc => by cases hc)).mono (by simp) (Nat.le_refl _)⟩
  · exact simFX6_st h hg
theorem simRW_some {E : Env} {o : Oper} {s : St} {x : SV} {own : Mem} {q : List (Bool × Bool)} (h : simRW E o s = some (x, own, q)) : ∃ fl v e qs, simRO E o s = some (.inl (fl, v), false, qs) ∧ e.own = false ∧ x = .c s.own.l.length ∧ own = { s.own with l := s.own.l ++ [e] } ∧ q = (pre (rowB E.glob v e), true) :: qs := by
  unfold simRW at h
  split at h
  · split at h
    · rename_i R _
      split at h
      · rename_i fl v qs hro
        simp only [Option.some.injEq, Prod.mk.injEq] at h
        obtain ⟨rfl, rfl, rfl⟩ := h
        exact ⟨fl, v, getIn (R v), qs, hro, rfl, rfl, rfl, rfl⟩
      · cases h
    · cases h
  · cases h
theorem simRS_some {E : Env} {o : Oper} {s : St} {x : SV} {own : Mem} {q : List (Bool × Bool)} (h : simRS E o s = some (x, own, q)) : ∃ fl cs v r e qs, simRO E o s = some (.inl (fl, .agg cs), false, qs) ∧ cs.toList = v :: r ∧ e.own = false ∧ x = .st (.l s.own.l.length :: r.map (.v [true])) ∧ own = { s.own with l := s.own.l ++ [e] } ∧ q = (pre (rowB E.glob v e), true) :: qs := by
  unfold simRS at h
  split at h
  · split at h
    · rename_i R _
      split at h
      · rename_i fl cs qs hro
        split at h
        · rename_i v r hcs
          simp only [Option.some.injEq, Prod.mk.injEq] at h
          obtain ⟨rfl, rfl, rfl⟩ := h
          exact ⟨fl, cs, v, r, getIn (R v), qs, hro, hcs, rfl, rfl, rfl, rfl⟩
        · cases h
      · cases h
    · cases h
  · cases h
theorem simFX_st {E : Env} {o : Oper} {s : St} {x : SV} {own : Mem} {q : List (Bool × Bool)} (h : simFX E o s = some (x, own, q)) (hg : Good s) :
    okV own.b.length own.l.length x ∧ s.own.b.length ≤ own.b.length ∧ s.own.l.length ≤ own.l.length ∧ (∀ i, i < s.lo → own.b[i]? = s.own.b[i]?) ∧ (∀ i, i < s.llo → own.l[i]? = s.own.l[i]?) ∧ OkB own.b.length own.l.length own.b := by
  unfold simFX at h
  split at h
  · rename_i r hr
    obtain ⟨fl, cs, v, r', e, qs, _, _, _, rfl, rfl, _⟩ := simRS_some (hr.trans h)
    refine ⟨fun c hc => ?_, Nat.le_refl _, by simp, fun _ _ => rfl, fun i hi => List.getElem?_append_left (Nat.lt_of_lt_of_le hi hg.llo), hg.okb.mono (Nat.le_refl _) (by simp)⟩
    rcases List.mem_cons.mp hc with rfl | hc
    · show s.own.l.length < (s.own.l ++ [e]).length; simp
    · obtain ⟨y, _, rfl⟩ := List.mem_map.mp hc; trivial
  · split at h
    · rename_i r hr
      obtain ⟨fl, v, e, qs, _, _, rfl, rfl, _⟩ := simRW_some (hr.trans h)
      exact ⟨by show s.own.l.length < (s.own.l ++ [e]).length; simp, Nat.le_refl _, by simp, fun _ _ => rfl, fun i hi => List.getElem?_append_left (Nat.lt_of_lt_of_le hi hg.llo), hg.okb.mono (Nat.le_refl _) (by simp)⟩
    · exact simFX2_st h hg
theorem simNX_st {o : Oper} {s s' : St} {x : SV} (h : simNX o s = some (x, s')) (hg : Good s) : Le s s' ∧ Good s' ∧ okV s'.own.b.length s'.own.l.length x := by
  unfold simNX at h; cases h
end Go.Proofs.YtiajbijbhhpllaaDoor.S2
namespace Go.Proofs.YtiajbijbhhpllaaDoor.S2
open Go Go.RowKit Sim
theorem conc_one {ν : Nu} {s : St} {w0 : Base} {w : World} {mem : Bool} (hw : WR w0 ν s.own mem w) {y : SV} (h : oneS s y = true) : y ≠ .any ∧ (conc ν y).cells = #[conc ν y] ∧ (conc ν y).oneCell' = true := by
  cases y with
  | inl p =>
    obtain ⟨fl, v⟩ := p
    have h : v.oneCell' = true := h
    refine ⟨by simp, ?_, h⟩
    show v.cells = #[v]
    cases v <;> first | rfl | (cases h; done)
  | inr p =>
    obtain ⟨i, off, _ | ⟨len, cap⟩⟩ := p
    · exact ⟨by simp, rfl, rfl⟩
    · exact ⟨by simp, rfl, rfl⟩
  | c k =>
    unfold oneS at h
    simp only at h
    split at h
    · rename_i e he
      obtain ⟨hk, hd⟩ := getL_some he
      obtain ⟨_, a, cap, hv, _⟩ := hw.inB hk hd
      refine ⟨by simp, ?_, ?_⟩
      · show (ν.v k).cells = #[ν.v k]
        rw [hv]; rfl
      · show (ν.v k).oneCell' = true
        rw [hv]; rfl
    · cases h
  | fn f fs cs => exact ⟨by simp, rfl, rfl⟩
  | lp k j o sz => cases h
  | tp l => cases h
  | sub k lo n sz => cases h
  | st cs => cases h
  | mp i => cases h
  | ia i off len n => cases h
  | rp v e j o => cases h
  | any => cases h
theorem cellsS_ok {s : St} {y : SV} {cs : List SV} (h : cellsS s y = some cs) {w0 : Base} {w : World} {ν : Nu} {mem : Bool} (hw : WR w0 ν s.own mem w) : y ≠ .any ∧ concB ν cs = (conc ν y).cells.toList ∧ (conc ν y).cells.toList.all Value.oneCell' = true := by
  have one : ∀ {y : SV}, oneS s y = true → y ≠ .any ∧ concB ν [y] = (conc ν y).cells.toList ∧ (conc ν y).cells.toList.all Value.oneCell' = true := fun {y} hy => by
    obtain ⟨h1, h2, h3⟩ := conc_one hw hy
    exact ⟨h1, by rw [h2]; rfl, by rw [h2]; simp [h3]⟩
  unfold cellsS at h
  split at h
  · rename_i fl v
    cases hb : v.cells.toList.all Value.oneCell'
    · rw [hb] at h; cases h
    · rw [hb] at h
      simp only [cond_true, Option.some.injEq] at h
      subst h
      exact ⟨by simp, concB_mkCells ν _ _, hb⟩
  · simp only [Option.some.injEq] at h
    subst h
    exact one rfl
  · rename_i k
    split at h
    · rename_i e he
      simp only [Option.some.injEq] at h
      subst h
      exact one (by unfold oneS; simp only [he])
    · cases h
  · simp only [Option.some.injEq] at h
    subst h
    exact one rfl
  · rename_i cs'
    cases hb : cs'.all (oneC s)
    · rw [hb] at h; cases h
    · rw [hb] at h
      simp only [cond_true, Option.some.injEq] at h
      subst h
      refine ⟨by simp, ?_, ?_⟩
      · show (cs'.map svC).map (conc ν) = cs'.map (concC ν)
        rw [List.map_map]
        exact List.map_congr_left fun c _ => svC_conc ν c
      · show (cs'.map (concC ν)).all Value.oneCell' = true
        rw [List.all_map]
        refine List.all_eq_true.mpr fun c hc => ?_
        have hc1 := List.all_eq_true.mp hb c hc
        cases c with
        | v fl x => exact hc1
        | a i off => rfl
        | l k =>
          have hk : oneS s (.c k) = true := hc1
          exact (conc_one hw hk).2.2
  · cases h
theorem putLS_conc (ν : Nu) : ∀ (vs c : List SV) (o : Nat), concB ν (putLS c o vs) = putL (concB ν c) o (concB ν vs)
  | [], c, o => rfl
  | v :: r, c, o => by
    show concB ν (putLS (c.set o v) (o + 1) r) = putL ((concB ν c).set o (conc ν v)) (o + 1) (concB ν r)
    rw [putLS_conc ν r]
    unfold concB
    rw [List.map_set]
theorem storeS_ok {P : Program} {t : TypeId} {cs us cs' : List SV} {off : Nat} {ν : Nu} {v : Value} (h : storeS P t cs off us = some cs') (h1 : concB ν us = v.cells.toList) (h2 : v.cells.toList.all Value.oneCell' = true) : storeB P t (concB ν cs) off v = some (concB ν cs') := by
  unfold storeS at h
  unfold storeB
  split at h
  · rename_i i hi
    cases hb : (Nat.beq us.length i.size && Nat.ble (off + i.size) cs.length)
    · rw [hb] at h; cases h
    · rw [hb] at h
      simp only [cond_true, Option.some.injEq] at h
      subst h
      have l1 : us.length = v.cells.toList.length := by rw [← h1]; unfold concB; simp
      have l2 : cs.length = (concB ν cs).length := by unfold concB; simp
      rw [l1, l2] at hb
      simp only [hi, hb, h2, Bool.and_self, cond_true, Option.some.injEq]
      unfold putQ putQS
      rw [l1, l2]
      cases (Nat.beq off 0 && Nat.beq v.cells.toList.length (concB ν cs).length)
      · simp only [cond_false]; rw [putLS_conc, h1]
      · simp only [cond_true]; exact h1.symm
  · cases h
theorem fill_seq : ∀ (parts : List (Nat × Value)) (k : Nat) (cells : Array Value), (∀ p ∈ parts, p.2.cells = #[p.2]) → parts.map (·.1) = List.range' k parts.length → k + parts.length ≤ cells.size →
    ∃ r, Instr.fill (fun k => some (k * 1, 1)) cells parts = some r ∧ r.toList = cells.toList.take k ++ parts.map (·.2) ++ cells.toList.drop (k + parts.length)
  | [], k, cells, _, _, _ => ⟨cells, rfl, by simp⟩
  | (i, v) :: r, k, cells, h1, h2, h3 => by
    simp only [List.map_cons, List.length_cons, List.range'_succ, List.cons.injEq] at h2
    obtain ⟨rfl, h2⟩ := h2
    have hv : v.cells = #[v] := h1 (i, v) List.mem_cons_self
    simp only [List.length_cons] at h3
    obtain ⟨r', k1, k2⟩ := fill_seq r (i + 1) (cells.setIfInBounds i v) (fun p hp => h1 p (List.mem_cons_of_mem _ hp)) h2 (by simp; omega)
    refine ⟨r', ?_, ?_⟩
    · unfold Instr.fill
      have : ¬ (i + 1 > cells.size) := by omega
      simp only [Nat.mul_one] at k1
      simp [hv, this, k1]
    · rw [k2]
      have hlt : i < cells.toList.length := by simp; omega
      simp only [Array.toList_setIfInBounds, List.map_cons, List.length_cons]
      rw [List.take_set, List.drop_set, if_pos (by omega), List.take_add_one, List.getElem?_eq_getElem hlt]
      rw [List.set_append_right _ _ (by rw [List.length_take]; exact Nat.min_le_left _ _), show i - (cells.toList.take i).length = 0 by simp only [List.length_take]; omega]
      simp [show i + 1 + r.length = i + (r.length + 1) by omega]
theorem seqB_ok : ∀ (k : Nat) (l : List (Nat × SV)), seqB k l = true → l.map (·.1) = List.range' k l.length
  | _, [], _ => rfl
  | k, (i, v) :: r, h => by
    simp only [seqB, Bool.and_eq_true] at h
    simp only [List.map_cons, List.length_cons, List.range'_succ, List.cons.injEq]
    exact ⟨Nat.eq_of_beq_eq_true h.1, seqB_ok (k + 1) r h.2⟩
theorem zero_made (z : Array Value) (n : Nat) : Builtin.zeroCells z n = madeCells z (n * z.size) := rfl
theorem run_append_zeros {P : Program} (w : World) (base : Nat) (t tn ty e : TypeId) (i : TypeInfo) (z : Value) (ht : P.underlying t = some (.slice e)) (htn : P.underlying tn = some (.int .i64)) (hi : P.info? e = some i) (hz : i.zero = some z)
    (hzs : z.cells.size = i.size) (hsz : 0 < i.size) (m : Nat) (h1 : ∀ u ∈ (Builtin.zeroCells z.cells m).toList, u.oneCell' = true) (v : Value) (n : Nat) (xs : List Value) (hown : w.ownsRow base e i.size v n xs)
    (h63 : n + m ≤ maxLen) (hbytes : (n + m) * i.bytes ≤ 140737488355328) (hbase : base ≤ w.heap.size) :
    ∃ v' w', (Builtin.append_ #[t, tn] ty #[v, .int .i64 (m : Int)]).run P w = .ok v' w' ∧ w'.ownsRow base e i.size v' (n + m) (xs ++ (Builtin.zeroCells z.cells m).toList) ∧ w.grownBy w' v.ownBlock ∧ (v'.ownBlock = v.ownBlock ∨ v'.ownBlock = some w.heap.size) := by
  have hmx : n + m ≤ 9223372036854775807 := by simp only [maxLen] at h63; omega
  have hw : IntKind.i64.wrap (m : Int) = m := by rw [IntKind.wrap_i64]; omega
  have hneg : ¬ ((m : Int) < 0) := by omega
  have hmb : m * i.bytes ≤ 140737488355328 := Nat.le_trans (Nat.mul_le_mul_right _ (Nat.le_add_left _ _)) hbytes
  have h48i : ¬ (281474976710656 < (m : Int) * (i.bytes : Int)) := by
    rw [← Int.natCast_mul]; omega
  have hzl : (Builtin.zeroCells z.cells m).toList.length = m * i.size := by rw [Array.length_toList, size_zeroCells, hzs]
  have hlen : (xs ++ (Builtin.zeroCells z.cells m).toList).length = (n + m) * i.size := by rw [List.length_append, hown.1, hzl, Nat.add_mul]
  by_cases hm : m = 0
  · subst hm
    have e0 : (Builtin.zeroCells z.cells 0).toList = [] := List.eq_nil_of_length_eq_zero (by rw [hzl, Nat.zero_mul])
    have hw0 : IntKind.i64.wrap 0 = 0 := by decide
    rw [e0, List.append_nil, Nat.add_zero]
    refine ⟨v, w, ?_, hown, ⟨rfl, rfl, rfl, Nat.le_refl _, fun _ _ _ => rfl⟩, .inl rfl⟩
    rcases hown.2 with ⟨rfl, rfl⟩ | ⟨g, cap, cur, rfl, hbg, hg, hnc, hcm, hcs, htake⟩
    · simp [Builtin.append_, run_underlying ht, run_underlying htn, sizeOf, typeInfo, hi, asInt, asIntOf, hw0]
    · simp [Builtin.append_, run_underlying ht, run_underlying htn, sizeOf, typeInfo, hi, asInt, asIntOf, hw0, hnc, storeCells]
  · have hns : ¬ (m * i.size = 0) := Nat.mul_ne_zero hm (by omega)
    have grown : ∀ (old : Nat), old < n + m → ∀ (row : Option Nat),
        (w.drew.alloc (.cells (xs.toArray ++ Builtin.zeroCells z.cells m ++ Builtin.zeroCells z.cells (grownCap w (n + m) old e - (n + m))) e)).ownsRow base e i.size
          (.slice (some ⟨w.heap.size, 0, none⟩) (n + m) (grownCap w (n + m) old e)) (n + m) (xs ++ (Builtin.zeroCells z.cells m).toList) ∧
        w.grownBy (w.drew.alloc (.cells (xs.toArray ++ Builtin.zeroCells z.cells m ++ Builtin.zeroCells z.cells (grownCap w (n + m) old e - (n + m))) e)) row := by
      intro old ho row
      have hge := grownCap_ge w (n + m) old e
      have hcm : grownCap w (n + m) old e ≤ maxLen := grownCap_le_maxLen w (n + m) old e h63
      refine ⟨⟨hlen, .inr ⟨w.heap.size, _, _, rfl, hbase, heap_alloc_new w.drew _, hge, hcm, ?_, ?_⟩⟩, ⟨rfl, rfl, rfl, by simp, fun k hk _ => heap_alloc_old w.drew _ hk⟩⟩
      · simp only [Array.size_append, List.size_toArray, size_zeroCells, hzs, hown.1, ← Nat.add_mul]
        congr 1
        omega
      · simp only [Array.toList_append, List.append_assoc]
        rw [← List.append_assoc, ← hlen]
        exact List.take_left
    rcases hown.2 with ⟨rfl, rfl⟩ | ⟨g, cap, cur, rfl, hbg, hg, hnc, hcm, hcs, htake⟩
    · have hx : xs = [] := List.eq_nil_of_length_eq_zero (by simpa using hown.1)
      subst hx
      have hp0 : 0 < m := by omega
      have k1 : ¬ (281474976710656 < Builtin.nextslicecap m 0 * i.bytes) := by rw [nextslicecap_zero hp0]; omega
      have k2 : ¬ (9223372036854775807 < (m : Int)) := by omega
      have hr : (Builtin.append_ #[t, tn] ty #[.slice none 0 0, .int .i64 (m : Int)]).run P w = .ok (.slice (some ⟨w.heap.size, 0, none⟩) m (grownCap w m 0 e)) (w.drew.alloc (.cells (Builtin.zeroCells z.cells m ++ Builtin.zeroCells z.cells (grownCap w m 0 e - m)) e)) := by
        simp [Builtin.append_, run_underlying ht, run_underlying htn, sizeOf, typeInfo, zeroValue, hi, hz, asInt, asIntOf, hw, hneg, h48i, hm, hns, k1, k2, Question.forced, run_firstCells_none, newRow, grownCap]
      have hgr := grown 0 (by omega) (Value.ownBlock (.slice none 0 0))
      simp only [Nat.zero_add, List.nil_append, Array.empty_append] at hgr ⊢
      exact ⟨_, _, hr, hgr.1, hgr.2, .inr rfl⟩
    · by_cases hroom : n + m ≤ cap
      · have hfit : n * i.size + (Builtin.zeroCells z.cells m).toList.length ≤ cur.size := by rw [hzl, hcs, ← Nat.add_mul]; exact Nat.mul_le_mul_right _ hroom
        have hst := run_storeCells_at P g (n * i.size) e (Builtin.zeroCells z.cells m).toList 0 cur w hg (by simpa using hfit) h1
        simp only [Nat.add_zero] at hst
        have hr : (Builtin.append_ #[t, tn] ty #[.slice (some ⟨g, 0, none⟩) n cap, .int .i64 (m : Int)]).run P w = .ok (.slice (some ⟨g, 0, none⟩) (n + m) cap) (w.setRow g (cur.toList.take (n * i.size) ++ (Builtin.zeroCells z.cells m).toList ++ cur.toList.drop (n * i.size + (Builtin.zeroCells z.cells m).toList.length)).toArray) := by
          simp [Builtin.append_, run_underlying ht, run_underlying htn, sizeOf, typeInfo, zeroValue, hi, hz, asInt, asIntOf, hw, hneg, h48i, hns, hroom, Addr.add_lit, hst]
        refine ⟨_, _, hr, ⟨hlen, .inr ⟨g, cap, _, rfl, hbg, setRow_heap w g cur _ e _ hg, hroom, hcm, ?_, ?_⟩⟩, ⟨rfl, rfl, rfl, by simp, fun k _ hk => setRow_other w g k _ (fun e => hk (by simp [Value.ownBlock, e]))⟩, .inl rfl⟩
        · simp only [List.size_toArray, List.length_append, List.length_take, List.length_drop, Array.length_toList] at hfit ⊢
          omega
        · rw [htake, ← hlen]
          exact List.take_left
      · have holds : ∀ j u, xs[j]? = some u → w.cell? ((⟨g, 0, none⟩ : Addr).add j) = some u := hown.cells (g := g) rfl
        have hfo := run_firstCells_some (P := P) w.drew i.size n ⟨g, 0, none⟩ n cap xs hown.1 (by simpa using holds)
        have h63' : ¬ (9223372036854775807 < ((n : Int) + (m : Int))) := by omega
        have h48' : ¬ (281474976710656 < Builtin.nextslicecap (n + m) cap * i.bytes) := by have := growslice_fits (need := n + m) (old := cap) (by omega) hbytes; omega
        have hr : (Builtin.append_ #[t, tn] ty #[.slice (some ⟨g, 0, none⟩) n cap, .int .i64 (m : Int)]).run P w = .ok (.slice (some ⟨w.heap.size, 0, none⟩) (n + m) (grownCap w (n + m) cap e))
            (w.drew.alloc (.cells (xs.toArray ++ Builtin.zeroCells z.cells m ++ Builtin.zeroCells z.cells (grownCap w (n + m) cap e - (n + m))) e)) := by
          simp [Builtin.append_, run_underlying ht, run_underlying htn, sizeOf, typeInfo, zeroValue, hi, hz, asInt, asIntOf, hw, hneg, h48i, hns, hroom, h63', h48', Question.forced, hfo, newRow, grownCap]
        have hgr := grown cap (by omega) (Value.ownBlock (.slice (some ⟨g, 0, none⟩) n cap))
        exact ⟨_, _, hr, hgr.1, hgr.2, .inr rfl⟩
theorem foldl_cells : ∀ (l : List Value) (k : Nat) (cs : Array Value), k + l.length ≤ cs.size → ((l.zipIdx k).foldl (fun cs (p : Value × Nat) => cs.setIfInBounds (0 + p.2) p.1) cs).toList = cs.toList.take k ++ l ++ cs.toList.drop (k + l.length)
  | [], k, cs, h => by simp
  | v :: r, k, cs, h => by
    simp only [List.length_cons] at h
    rw [List.zipIdx_cons, List.foldl_cons, foldl_cells r (k + 1) _ (by simp; omega)]
    have hlt : k < cs.toList.length := by simp; omega
    simp only [Nat.zero_add, Array.toList_setIfInBounds, List.length_cons]
    rw [List.take_set, List.drop_set, if_pos (by omega), List.take_add_one, List.getElem?_eq_getElem hlt]
    rw [List.set_append_right _ _ (by rw [List.length_take]; exact Nat.min_le_left _ _), show k - (cs.toList.take k).length = 0 by simp only [List.length_take]; omega]
    simp [show k + 1 + r.length = k + (r.length + 1) by omega]
theorem fill_one (sz : Nat) (cs : Array Value) (v : Value) (h1 : v.cells.size = sz) (h2 : cs.size = sz) : Instr.fill (fun k => some (k * sz, sz)) cs [(0, v)] = some v.cells := by
  unfold Instr.fill
  have hc : (decide (v.cells.size ≠ sz) || decide (0 * sz + v.cells.size > cs.size)) = false := by
    rw [Bool.or_eq_false_iff, decide_eq_false_iff_not, decide_eq_false_iff_not]; omega
  unfold Instr.fill
  simp only [hc, Bool.false_eq_true, if_false, Option.some.injEq]
  apply Array.toList_inj.mp
  have := foldl_cells v.cells.toList 0 cs (by rw [Array.length_toList]; omega)
  rw [List.take_zero, List.nil_append, Nat.zero_add, List.drop_eq_nil_of_le (by simp; omega), List.append_nil] at this
  rw [Nat.zero_mul]
  rw [← Array.foldl_toList, Array.toList_zipIdx]
  exact this
theorem litS_ok {P : Program} {s : St} {t e : TypeId} {len : Nat} {parts : List (Nat × SV)} {cells : List SV} (h : litS P s t len parts = some (cells, e)) {w0 : Base} {w : World} {ν : Nu} {mem : Bool} (hw : WR w0 ν s.own mem w) :
    (∀ p ∈ parts, p.2 ≠ .any) ∧ litB P t len (parts.map fun p => (p.1, conc ν p.2)) = some (concB ν cells, e) := by
  unfold litS at h
  unfold litB
  split at h
  · rename_i e' hu
    split at h
    · rename_i i hi
      split at h
      · rename_i z hz
        cases hb : (Nat.beq i.size 1 && Nat.beq parts.length len && Nat.blt 0 len && Nat.ble len (2 ^ 24) && seqB 0 parts && parts.all (fun p => oneS s p.2))
        · rw [hb] at h
          simp only [cond_false] at h
          split at h
          · rename_i us hus
            simp only [Option.some.injEq, Prod.mk.injEq] at h
            obtain ⟨rfl, rfl⟩ := h
            obtain ⟨cs, rfl, rfl, hl, h0, h24, hcs⟩ := litT_some hus
            obtain ⟨k1, k2, k3⟩ := cellsS_ok hcs hw
            have hul : us.length = i.size := by
              rw [← hl]
              have hcs : (bif cs.all (oneC s) then some (cs.map svC) else none) = some us := hcs
              cases ho : cs.all (oneC s) <;> rw [ho] at hcs
              · cases hcs
              · simp only [cond_true, Option.some.injEq] at hcs
                rw [← hcs, List.length_map]
            have hvs : (conc ν (.st cs)).cells.size = i.size := by
              rw [← Array.length_toList, ← k2, ← hul]; unfold concB; simp
            refine ⟨fun p hp => by rw [List.mem_singleton.mp hp]; exact k1, ?_⟩
            have c1 : (Nat.beq (1 * i.size) 0 || Nat.blt (2 ^ 24) (1 * i.size)) = false := by
              rw [Nat.one_mul]
              cases hq : (Nat.beq i.size 0 || Nat.blt (2 ^ 24) i.size)
              · rfl
              · simp only [Bool.or_eq_true] at hq
                rcases hq with hq | hq
                · have := Nat.eq_of_beq_eq_true hq; omega
                · have : 2 ^ 24 < i.size := by simpa [Nat.blt_eq] using hq
                  omega
            simp only [hu, hi, hz, c1, cond_false, List.map_cons, List.map_nil]
            rw [fill_one i.size _ (conc ν (.st cs)) hvs (by simp)]
            simp only [Option.some.injEq, Prod.mk.injEq, and_true]
            exact k2.symm
          · cases h
        · rw [hb] at h
          simp only [cond_true, Option.some.injEq, Prod.mk.injEq] at h
          have hc := h.1.symm
          simp only [Bool.and_eq_true, List.all_eq_true] at hb
          obtain ⟨⟨⟨⟨⟨b1, b2⟩, b3⟩, b4⟩, b5⟩, b6⟩ := hb
          have b1 := Nat.eq_of_beq_eq_true b1
          have b2 := Nat.eq_of_beq_eq_true b2
          have b3 : 0 < len := by simpa [Nat.blt_eq] using b3
          have b4 := Nat.le_of_ble_eq_true b4
          have hone := fun p hp => conc_one hw (b6 p hp)
          refine ⟨fun p hp => (hone p hp).1, ?_⟩
          have c1 : (Nat.beq (len * i.size) 0 || Nat.blt (2 ^ 24) (len * i.size)) = false := by
            rw [b1, Nat.mul_one]
            cases hq : (Nat.beq len 0 || Nat.blt (2 ^ 24) len)
            · rfl
            · simp only [Bool.or_eq_true] at hq
              rcases hq with hq | hq
              · have := Nat.eq_of_beq_eq_true hq; omega
              · have : 2 ^ 24 < len := by simpa [Nat.blt_eq] using hq
                omega
          simp only [hu, hi, hz, c1, cond_false]
          obtain ⟨r, r1, r2⟩ := fill_seq (parts.map fun p => (p.1, conc ν p.2)) 0 ((Array.range (len * i.size)).map fun k => z.cells[k % z.cells.size]!) (fun p hp => by
            obtain ⟨q, hq, rfl⟩ := List.mem_map.mp hp
            exact (hone q hq).2.1) (by rw [List.map_map, List.length_map]; exact seqB_ok 0 parts b5) (by simp [b1, b2])
          rw [b1] at r1 r2 ⊢
          rw [r1]
          simp only [Option.some.injEq, Prod.mk.injEq]
          refine ⟨?_, h.2⟩
          rw [r2, hc]
          unfold concB
          rw [List.drop_eq_nil_of_le (by simp [b2])]
          simp
      · cases h
    · cases h
  · cases h
theorem bldOf_ok {E : Env} {t e : TypeId} {zs : List Value} (h : bldOf E t zs = some e) : zs = [.pointer none, .slice none 0 0] ∧ t ≠ e := by
  unfold bldOf at h
  split at h
  · rename_i T e' _
    cases hb : (Nat.beq T t && zeroBld zs && !Nat.beq T e')
    · rw [hb] at h; cases h
    · rw [hb] at h
      simp only [cond_true, Option.some.injEq] at h
      simp only [Bool.and_eq_true, Bool.not_eq_true'] at hb
      obtain ⟨⟨b1, b2⟩, b3⟩ := hb
      have b1 := Nat.eq_of_beq_eq_true b1
      subst h
      refine ⟨?_, fun heq => ?_⟩
      · unfold zeroBld at b2
        split at b2
        · rfl
        · cases b2
      · rw [b1, heq] at b3; simp at b3
  · cases h
theorem op_nx {E : Env} {n : Nat} {o : Oper} {s s' : St} {x : SV} {w0 : Base} {ν : Nu} {a : Act} {w : World} {K : Act → World → Prop} {Q : Exit → Act → World → Prop}
    (h : simNX o s = some (x, s')) (hh : Holds' s') (ht : TR n ν s a) (hw : WR w0 ν s.own s.mem w)
    (hK : ∀ v w', s'.tmps = s.tmps → Is ν x v → WR w0 ν s'.own s'.mem w' → K (a.put o.dst v) w') : o.wp E.P a w K Q := by
  unfold simNX at h; cases h
theorem flat_same (zs : List Value) (z : Array Value) (hz : z.toList = zs) (h0 : 0 < z.size) (n : Nat) : (List.range n).flatMap (fun _ => zs) = (madeCells z (n * z.size)).toList := by
  have hzl : zs.length = z.size := by rw [← hz, Array.length_toList]
  refine List.ext_getElem? fun p => ?_
  have hl := flat_len (f := fun _ => zs) (s := z.size) n (fun j _ => hzl)
  rcases Nat.lt_or_ge p (n * z.size) with hp | hp
  · have hq : p / z.size < n := Nat.div_lt_of_lt_mul (by rw [Nat.mul_comm]; exact hp)
    have hr := Nat.mod_lt p h0
    have hg := flat_get (f := fun _ => zs) (s := z.size) n (fun j _ => hzl) (p / z.size) hq (p % z.size) hr
    have hpe : p / z.size * z.size + p % z.size = p := by rw [Nat.mul_comm]; exact Nat.div_add_mod p z.size
    rw [hpe] at hg
    rw [hg]
    subst hz
    have e1 : (madeCells z (n * z.size)).toList[p]? = some (z[p % z.size]!) := by
      simp [madeCells, hp]
    rw [e1, getElem!_pos z _ hr, Array.getElem?_toList, Array.getElem?_eq_getElem hr]
  · rw [List.getElem?_eq_none (by rw [hl]; exact hp), List.getElem?_eq_none (by rw [Array.length_toList, size_madeCells]; exact hp)]
theorem putL_get : ∀ (vs c : List Value) (o i : Nat), o + vs.length ≤ c.length → (putL c o vs)[i]? = if o ≤ i ∧ i < o + vs.length then vs[i - o]? else c[i]?
  | [], c, o, i, _ => by
    show c[i]? = _
    rw [if_neg (by simp only [List.length_nil]; omega)]
  | v :: r, c, o, i, h => by
    simp only [List.length_cons] at h ⊢
    show (putL (c.set o v) (o + 1) r)[i]? = _
    rw [putL_get r (c.set o v) (o + 1) i (by rw [List.length_set]; omega)]
    by_cases h1 : o + 1 ≤ i ∧ i < o + 1 + r.length
    · rw [if_pos h1, if_pos (by omega), show i - o = (i - (o + 1)) + 1 by omega]; rfl
    · rw [if_neg h1, List.getElem?_set]
      by_cases h2 : o = i
      · subst h2
        rw [if_pos rfl, if_pos (by omega), if_pos (by omega), Nat.sub_self]; rfl
      · rw [if_neg h2, if_neg (by omega)]
theorem putL_mem : ∀ (vs c : List Value) (o : Nat), ∀ x ∈ putL c o vs, x ∈ c ∨ x ∈ vs
  | [], c, o, x, hx => .inl hx
  | v :: r, c, o, x, hx => by
    rcases putL_mem r (c.set o v) (o + 1) x hx with h | h
    · rcases List.mem_or_eq_of_mem_set h with h | h
      · exact .inl h
      · exact .inr (by rw [h]; exact List.mem_cons_self)
    · exact .inr (List.mem_cons_of_mem _ h)
theorem setE_len {f : Nat → List Value} {s j o : Nat} {vs : List Value} (n : Nat) (hf : ∀ i, i < n → (f i).length = s) (hj : j < n) : ∀ i, i < n → (setE f j (putL (f j) o vs) i).length = s := fun i hi => by
  unfold setE
  cases hb : Nat.beq i j
  · exact hf i hi
  · show (putL (f j) o vs).length = s
    rw [putL_len, hf j hj]
theorem flat_set {f : Nat → List Value} {s j o n : Nat} {vs cur : List Value} (h0 : 0 < s) (hf : ∀ i, i < n → (f i).length = s) (hj : j < n) (ho : o + vs.length ≤ s) (hc : n * s ≤ cur.length) (ht : cur.take (n * s) = (List.range n).flatMap f) :
    (putL cur (j * s + o) vs).take (n * s) = (List.range n).flatMap (setE f j (putL (f j) o vs)) := by
  have hjs : j * s + s ≤ n * s := by
    have : (j + 1) * s ≤ n * s := Nat.mul_le_mul_right _ hj
    rwa [Nat.add_mul, Nat.one_mul] at this
  have hl := flat_len (f := setE f j (putL (f j) o vs)) (s := s) n (setE_len n hf hj)
  refine List.ext_getElem? fun p => ?_
  rcases Nat.lt_or_ge p (n * s) with hp | hp
  · have hq : p / s < n := Nat.div_lt_of_lt_mul (by rw [Nat.mul_comm]; exact hp)
    have hr := Nat.mod_lt p h0
    have hpe : p / s * s + p % s = p := by rw [Nat.mul_comm]; exact Nat.div_add_mod p s
    have hg := flat_get (f := setE f j (putL (f j) o vs)) (s := s) n (setE_len n hf hj) (p / s) hq (p % s) hr
    have hg0 := flat_get (f := f) (s := s) n hf (p / s) hq (p % s) hr
    rw [hpe] at hg hg0
    have hcp : cur[p]? = (f (p / s))[p % s]? := by
      rw [← hg0, ← ht, List.getElem?_take, if_pos hp]
    rw [hg, List.getElem?_take, if_pos hp, putL_get vs cur _ p (by omega), hcp]
    generalize p / s = q at *
    generalize p % s = r at *
    unfold setE
    cases hb : Nat.beq q j
    · have hne : q ≠ j := fun e => by rw [e] at hb; simp at hb
      have hno : ¬ (j * s + o ≤ p ∧ p < j * s + o + vs.length) := by
        rcases Nat.lt_or_ge q j with h | h
        · have : (q + 1) * s ≤ j * s := Nat.mul_le_mul_right _ h
          rw [Nat.add_mul, Nat.one_mul] at this
          omega
        · have : (j + 1) * s ≤ q * s := Nat.mul_le_mul_right _ (by omega)
          rw [Nat.add_mul, Nat.one_mul] at this
          omega
      rw [if_neg hno]; rfl
    · have he := Nat.eq_of_beq_eq_true hb
      subst he
      show _ = (putL (f q) o vs)[r]?
      rw [putL_get vs (f q) o r (by rw [hf q hj]; exact ho)]
      by_cases h : o ≤ r ∧ r < o + vs.length
      · rw [if_pos (by omega), if_pos h, show p - (q * s + o) = r - o by omega]
      · rw [if_neg (by omega), if_neg h]
  · rw [List.getElem?_eq_none (by rw [List.length_take]; omega), List.getElem?_eq_none (by rw [hl]; exact hp)]
theorem store_elem {P : Program} {t : TypeId} {i : TypeInfo} {B : Nat} {w : World} {e : LE} {u v : Value} {j o : Nat} (h : OwnB B w e u) (hi : P.info? t = some i) (hl : v.cells.toList.length = i.size) (ho : o + i.size ≤ e.size) (h1 : v.cells.toList.all Value.oneCell' = true) (hj : j < e.n) :
    ∃ g w', placeOf u (j * e.size + o) = .pointer (some ⟨g, j * e.size + o, none⟩) ∧ u.ownBlock = some g ∧ (storeVar t ⟨g, j * e.size + o, none⟩ v).run P w = .ok () w' ∧ OwnB B w' { e with el := setE e.el j (putL (e.el j) o v.cells.toList) } u ∧ w.grownBy w' (some g) ∧
      ∀ cs ty fz, w.heap[g]? = some (.cells cs ty fz) → ty = e.elT := by
  obtain ⟨⟨hs, hwf⟩, hlen, hrow⟩ := h
  rcases hrow with ⟨_, hn⟩ | ⟨g, cap, cur, rfl, hb, hg, hnc, hcm, hcs, htake⟩
  · omega
  · have hjs : j * e.size + e.size ≤ e.n * e.size := by
      have : (j + 1) * e.size ≤ e.n * e.size := Nat.mul_le_mul_right _ hj
      rwa [Nat.add_mul, Nat.one_mul] at this
    have hcl : e.n * e.size ≤ cur.toList.length := by rw [Array.length_toList, hcs]; exact Nat.mul_le_mul_right _ hnc
    have hsb : storeB P t cur.toList (j * e.size + o) v = some (putL cur.toList (j * e.size + o) v.cells.toList) := by
      unfold storeB
      rw [hi]
      have hbb : (Nat.beq v.cells.toList.length i.size && Nat.ble (j * e.size + o + i.size) cur.toList.length && v.cells.toList.all Value.oneCell') = true := by
        rw [hl, h1]
        have : Nat.ble (j * e.size + o + i.size) cur.toList.length = true := Nat.ble_eq.mpr (by omega)
        rw [this]; simp
      simp only [hbb, cond_true]
      rw [putQ_eq]
    obtain ⟨w', r1, r2, r3, r4, r5, r6, r7⟩ := run_storeB (e := e.elT) hsb w (by rw [Array.toArray_toList]; exact hg)
    refine ⟨g, w', by simp [placeOf], rfl, r1, ⟨⟨hs, fun q hq => ⟨setE_len e.n (fun i hi => (hwf i hi).1) hj q hq, ?_⟩⟩, ?_, .inr ⟨g, cap, _, rfl, hb, r2, hnc, hcm, ?_, ?_⟩⟩, ⟨r5, r6, r7, by omega, fun k _ hk => r3 k (fun e => hk (by rw [e]))⟩, fun cs ty fz heq => by
      rw [hg] at heq
      simp only [Option.some.injEq, Obj.cells.injEq] at heq
      exact heq.2.1.symm⟩
    · show (setE e.el j (putL (e.el j) o v.cells.toList) q).all Value.oneCell' = true
      unfold setE
      cases hbq : Nat.beq q j
      · exact (hwf q hq).2
      · refine List.all_eq_true.mpr fun x hx => ?_
        rcases putL_mem _ _ _ x hx with h | h
        · exact List.all_eq_true.mp (hwf j hj).2 x h
        · exact List.all_eq_true.mp h1 x h
    · exact flat_len e.n (setE_len e.n (fun i hi => (hwf i hi).1) hj)
    · show (putL cur.toList (j * e.size + o) v.cells.toList).toArray.size = _
      rw [List.size_toArray, putL_len, Array.length_toList, hcs]
    · show (putL cur.toList (j * e.size + o) v.cells.toList).toArray.toList.take (e.n * e.size) = _
      exact flat_set hs (fun i hi => (hwf i hi).1) hj (by rw [hl]; exact ho) hcl htake
theorem op_fx0 {E : Env} {n : Nat} {o : Oper} {s : St} {x : SV} {own : Mem} {q : List (Bool × Bool)} {w0 : Base} {ν : Nu} {a : Act} {w : World} {K : Act → World → Prop} {Q : Exit → Act → World → Prop}
    (h : simFX0 E o s = some (x, own, q)) (hq : ∀ p ∈ q, p.1 = p.2) (hg : Good s) (ht : TR n ν s a) (hw : WR w0 ν s.own s.mem w)
    (hK : ∀ ν' v w', Ag s.own ν ν' → Is ν' x v → WR w0 ν' own true w' → K (a.put o.dst v) w') : o.wp E.P a w K Q := by
  unfold simFX0 at h
  unfold Oper.wp
  split at h
  · rename_i t ho
    split at h
    · rename_i i hi
      split at h
      · rename_i z hz
        have hr : (execOp a.eval o).run E.P w = .ok (.value (.pointer (some ⟨w.heap.size, 0, none⟩))) (w.alloc (.cells z.cells t)) := by
          simp only [execOp, ho, Instr.alloc, zeroValue, typeInfo, Sem.run_bind, run_program, Result.andThen_ok, hi, Sem.run_pure, hz, newVar, newRow, run_newObj, World.alloc_eq]
        rw [hr, Oper.upon_value]
        split at h
        · rename_i e hbo
          simp only [Option.some.injEq, Prod.mk.injEq] at h
          obtain ⟨rfl, rfl, _⟩ := h
          obtain ⟨hz2, hTe⟩ := bldOf_ok hbo
          refine hK (extL ν s.own.b.length w.heap.size) _ (w.alloc (.cells z.cells t)) (extL_old _ _ _ _) (by show _ = _; simp [conc, extL_new]) (hw.growB ⟨[], 0, .bld [] t e ByteArray.empty⟩ _ (fun c hc => by cases hc) ⟨.inl ⟨hw.below.size, .slice none 0 0, ?_, ⟨rfl, .inl ⟨rfl, rfl⟩⟩, by simp [Value.ownBlock]⟩, hTe⟩)
          have e1 : z.cells = #[.pointer none, .slice none 0 0] := by rw [← Array.toArray_toList (xs := z.cells), hz2]
          rw [e1, heap_alloc_new]
        simp only [Option.some.injEq, Prod.mk.injEq] at h
        obtain ⟨rfl, rfl, _⟩ := h
        exact hK (extL ν s.own.b.length w.heap.size) _ (w.alloc (.cells z.cells t)) (extL_old _ _ _ _) (by show _ = _; simp [conc, extL_new]) (by have := hw.grow (mkCells z.cells.toList []) t (okV_mkCells _ _); rw [concB_mkCells] at this; exact this)
      · cases h
    · cases h
  · rename_i t x' ho
    split at h
    · rename_i fl str hx hu
      simp only [Option.some.injEq, Prod.mk.injEq] at h
      obtain ⟨rfl, rfl, _⟩ := h
      have he := eval_v ht hx
      have hr : (execOp a.eval o).run E.P w = .ok (.value (.pointer (some ⟨w.heap.size, 0, none⟩))) (w.alloc (.stringIter str 0)) := by
        simp only [execOp, ho, he, Sem.run_bind, run_range_string w t str hu, Result.andThen_ok, Sem.run_pure]; rfl
      rw [hr, Oper.upon_value]
      exact hK (extL ν s.own.b.length w.heap.size) _ (w.alloc (.stringIter str 0)) (extL_old _ _ _ _) (by show _ = _; simp [conc, extL_new]) (hw.growB ⟨[], 0, .iter fl str 0⟩ _ (fun c hc => by cases hc) (by show (w.alloc _).heap[w.heap.size]? = _; rw [heap_alloc_new]))
    · cases h
  · rename_i t x' ho
    split at h
    · rename_i fl y hx
      simp only [Option.some.injEq, Prod.mk.injEq] at h
      obtain ⟨rfl, rfl, _⟩ := h
      have he := eval_v ht hx
      have hr : (execOp a.eval o).run E.P w = .ok (.value (.pointer (some ⟨w.heap.size, 0, none⟩))) (w.alloc (.cells y.cells t)) := by
        simp only [execOp, ho, he, Instr.box, Sem.run_bind, Result.andThen_ok, Sem.run_pure, newVar, newRow, run_newObj, World.alloc_eq]
      rw [hr, Oper.upon_value]
      exact hK (extL ν s.own.b.length w.heap.size) _ (w.alloc (.cells y.cells t)) (extL_old _ _ _ _) (by show _ = _; simp [conc, extL_new]) (by have := hw.grow (mkCells y.cells.toList fl) t (okV_mkCells _ _); rw [concB_mkCells] at this; exact this)
    · split at h
      · rename_i cs hcs
        simp only [Option.some.injEq, Prod.mk.injEq] at h
        obtain ⟨rfl, rfl, _⟩ := h
        obtain ⟨hne, h1, _⟩ := cellsS_ok hcs hw
        have he := eval_ev ht rfl hne
        have hr : (execOp a.eval o).run E.P w = .ok (.value (.pointer (some ⟨w.heap.size, 0, none⟩))) (w.alloc (.cells (conc ν (ev s x')).cells t)) := by
          simp only [execOp, ho, he, Instr.box, Sem.run_bind, Result.andThen_ok, Sem.run_pure, newVar, newRow, run_newObj, World.alloc_eq]
        rw [hr, Oper.upon_value]
        exact hK (extL ν s.own.b.length w.heap.size) _ (w.alloc (.cells (conc ν (ev s x')).cells t)) (extL_old _ _ _ _) (by show _ = _; simp [conc, extL_new]) (by have := hw.grow cs t (cellsS_okV hcs (ev_ok hg x')); rw [h1] at this; exact this)
      · cases h
  · rename_i t x' y' ho
    split at h
    · rename_i i off us hx hy
      cases hlo : Nat.ble s.lo i
      · rw [hlo] at h; cases h
      · rw [hlo] at h
        simp only [cond_true] at h
        split at h
        · rename_i b hb
          cases hfr : bldFree s b.elem
          · rw [hfr] at h; cases h
          · rw [hfr] at h
            simp only [cond_true] at h
            split at h
            · rename_i cs hcs
              simp only [Option.some.injEq, Prod.mk.injEq] at h
              obtain ⟨rfl, rfl, _⟩ := h
              obtain ⟨hb, hkd⟩ := getB_some hb
              have hex := eval_own ht hx
              obtain ⟨hne, h1, h2⟩ := cellsS_ok hy hw
              have hey := eval_ev ht rfl hne
              obtain ⟨w', r1, r2, r3, r4, r5, r6, r7⟩ := run_storeB (storeS_ok hcs h1 h2) w ((hw.blk i b hb).1.cells hkd)
              have hr : (execOp a.eval o).run E.P w = .ok .skip w' := by
                simp only [execOp, ho, hex, hey, Instr.storeAt, Instr.sureAddr, Sem.run_bind, Sem.run_pure, Result.andThen_ok, r1]
              rw [hr, Oper.upon_skip]
              exact hK ν _ w' (Agree.refl _ _ _) rfl (hw.store hb hkd (storeS_okV hcs (hg.okb i b hb) (cellsS_okV hy (ev_ok hg y'))) (bldFree_ok hfr) r2 r3 r4 r5 r6 r7)
            · cases h
        · cases h
    · rename_i k j p sz hx
      split at h
      · rename_i fl v hy
        split at h
        · rename_i e' q' hsto
          simp only [Option.some.injEq, Prod.mk.injEq] at h
          obtain ⟨rfl, rfl, rfl⟩ := h
          obtain ⟨e, i, hk, hd, hi, ho1, hlo, rfl, hfr, hl, hos, h1, rfl, rfl⟩ := stoL_some hsto
          have hj : j < e.n := by have := hq (pre (decide (j < e.n)), true) (by simp); simpa [pre] using this
          have hex := eval_lp ht hx
          have hey := eval_v ht hy
          obtain ⟨g, w', e1, e2, e3, e4, e5, e6⟩ := store_elem (P := E.P) (t := t) (v := v) (hw.row hk hd ho1) hi hl hos h1 hj
          have hr : (execOp a.eval o).run E.P w = .ok .skip w' := by
            simp only [execOp, ho, hex, hey, e1, Instr.storeAt, Instr.sureAddr, Sem.run_bind, Sem.run_pure, Result.andThen_ok, e3]
          rw [hr, Oper.upon_skip]
          refine hK ν _ w' (Agree.refl _ _ _) rfl (hw.turnL hk hd ho1 ho1 hd e4 (by rw [e2]; exact e5) (fun j2 c fl2 T e3 acc hj2 hkd g2 cs fz hg2 heq => ?_))
          rw [e2] at hg2
          cases hg2
          exact bldFree_ok hfr j2 c fl2 T e3 acc hj2 hkd (e6 cs e3 fz heq)
        · cases h
      · cases h
    · cases h
  · rename_i t lo co ho
    split at h
    · rename_i f kl n f2 kc m e hln hcn hu
      split at h
      · rename_i i hi
        split at h
        · rename_i z hz
          simp only [cond_eq_ite] at h
          split at h
          · rename_i hb
            simp only [Bool.and_eq_true] at hb
            simp only [Option.some.injEq, Prod.mk.injEq] at h
            obtain ⟨rfl, rfl, rfl⟩ := h
            have hpre := hq (pre (decide (n = m ∧ 0 ≤ n ∧ i.bytes * n.toNat ≤ 281474976710656 ∧ n.toNat ≤ maxLen)), true) (by simp)
            simp only [pre, decide_eq_true_eq] at hpre
            obtain ⟨rfl, hn0, hby, hmx⟩ := hpre
            have hsz := Nat.eq_of_beq_eq_true hb.1.1
            have h0 : 0 < i.size := by simpa [Nat.blt_eq] using hb.1.2
            have hel := eval_v ht hln
            have hec := eval_v ht hcn
            obtain ⟨w', hrun, r1, r2⟩ := run_make_full (P := E.P) w w0.heap.size t e i z i.size hu hi hz rfl kl kc n.toNat hby hmx hw.below.size
            rw [Int.toNat_of_nonneg hn0] at hrun
            have hr : (execOp a.eval o).run E.P w = .ok (.value (.slice (some ⟨w.heap.size, 0, none⟩) n.toNat n.toNat)) w' := by
              simp only [execOp, ho, hel, hec, Sem.run_bind, hrun, Result.andThen_ok, Sem.run_pure]
            rw [hr, Oper.upon_value]
            have hzl : z.cells.toList.length = i.size := by rw [Array.length_toList, hsz]
            have hown : OwnB w0.heap.size w' ⟨e, i.size, n.toNat, fun _ => z.cells.toList, true, false, anyF f⟩ (.slice (some ⟨w.heap.size, 0, none⟩) n.toNat n.toNat) := by
              refine ⟨⟨h0, fun j hj => ⟨hzl, hb.2⟩⟩, ?_⟩
              have hfl := flat_same z.cells.toList z.cells rfl (by rw [hsz]; exact h0) n.toNat
              rw [hsz] at hfl
              show w'.ownsRow w0.heap.size e i.size _ n.toNat ((List.range n.toNat).flatMap fun _ => z.cells.toList)
              rw [hfl]; exact r1
            exact hK (extV ν s.own.l.length (.slice (some ⟨w.heap.size, 0, none⟩) n.toNat n.toNat)) _ w' (extV_old _ _ _ _) (by show _ = _; simp [conc, extV_new])
              (hw.append (k? := none) (v := .slice none 0 0) (ne := ⟨e, i.size, n.toNat, fun _ => z.cells.toList, true, false, anyF f⟩) hown rfl (fun g e => by cases e) r2 (.inr rfl) (fun _ _ _ _ _ _ _ _ _ _ _ e => by cases e))
          · cases h
        · cases h
      · cases h
    · cases h
  · rename_i t len parts ho
    cases hb : parts.toList.all (fun p => isV (ev s p.2))
    · rw [hb] at h
      simp only [cond_false] at h
      split at h
      · rename_i cells e hlit
        simp only [Option.some.injEq, Prod.mk.injEq] at h
        obtain ⟨rfl, rfl, _⟩ := h
        obtain ⟨hne, hl⟩ := litS_ok hlit hw
        have hp : (parts.map fun (i, x) => (i, a.eval x)) = ((parts.toList.map fun p => (p.1, ev s p.2)).map fun p => (p.1, conc ν p.2)).toArray := by
          rw [← Array.toArray_toList (xs := parts.map _), Array.toList_map, List.map_map]
          congr 1
          refine List.map_congr_left fun p hp => ?_
          show (p.1, a.eval p.2) = (p.1, conc ν (ev s p.2))
          rw [eval_ev ht rfl (hne (p.1, ev s p.2) (List.mem_map.mpr ⟨p, hp, rfl⟩))]
        have hr : (execOp a.eval o).run E.P w = .ok (.value (.slice (some ⟨w.heap.size, 0, none⟩) len len)) (w.alloc (.cells (concB ν cells).toArray e)) := by
          simp only [execOp, ho, hp, Sem.run_bind, run_litB hl w, Result.andThen_ok, Sem.run_pure]
        rw [hr, Oper.upon_value]
        refine hK (extL ν s.own.b.length w.heap.size) _ (w.alloc (.cells (concB ν cells).toArray e)) (extL_old _ _ _ _) (by show _ = _; simp [conc, extL_new]) (hw.grow cells e fun c hc => ?_)
        exact litS_okV hlit (fun p hp => by
          obtain ⟨p, _, rfl⟩ := List.mem_map.mp hp
          exact ev_ok hg p.2) c hc
      · cases h
    · rw [hb] at h
      simp only [cond_true] at h
      split at h
      · rename_i cells e hlit
        simp only [Option.some.injEq, Prod.mk.injEq] at h
        obtain ⟨rfl, rfl, _⟩ := h
        have hp : (parts.map fun (i, x) => (i, a.eval x)) = (parts.toList.map fun p => (p.1, rho s p.2)).toArray := by
          rw [← Array.toArray_toList (xs := parts.map _), Array.toList_map]
          congr 1
          refine List.map_congr_left fun p hp => ?_
          rw [List.all_eq_true] at hb
          show (p.1, a.eval p.2) = _
          rw [eval_rho ht (hb p hp)]
        have hr : (execOp a.eval o).run E.P w = .ok (.value (.slice (some ⟨w.heap.size, 0, none⟩) len len)) (w.alloc (.cells cells.toArray e)) := by
          simp only [execOp, ho, hp, Sem.run_bind, run_litB hlit w, Result.andThen_ok, Sem.run_pure]
        rw [hr, Oper.upon_value]
        exact hK (extL ν s.own.b.length w.heap.size) _ (w.alloc (.cells cells.toArray e)) (extL_old _ _ _ _) (by show _ = _; simp [conc, extL_new]) (by have := hw.grow (mkCells cells (bif E.mks then List.replicate cells.length (openS s (parts.toList.map (·.2))) else [])) e (okV_mkCells _ _); rw [concB_mkCells] at this; exact this)
      · cases h
  · rename_i az ats ho
    split at h
    · rename_i x' y' t t' hl1 hl2
      have e1 : az = #[x', y'] := by rw [← Array.toArray_toList (xs := az), hl1]
      have e2 : ats = #[t, t'] := by rw [← Array.toArray_toList (xs := ats), hl2]
      cases hb : Nat.beq t t'
      · rw [hb] at h; cases h
      · rw [hb] at h
        have htt := Nat.eq_of_beq_eq_true hb
        subst htt
        simp only [cond_true] at h
        split at h
        · rename_i e hu
          split at h
          · rename_i i hi
            split at h
            · rename_i z hz
              simp only [cond_eq_ite] at h
              split at h
              · rename_i hcond
                simp only [Bool.and_eq_true] at hcond
                have hzs := Nat.eq_of_beq_eq_true hcond.1.1
                have hsz : 0 < i.size := by simpa [Nat.blt_eq] using hcond.1.2
                have hfree := bldFree_ok hcond.2
                split at h
                · rename_i n' f o1 k? m g o2 hbase hnews
                  simp only [Option.some.injEq, Prod.mk.injEq] at h
                  obtain ⟨rfl, rfl, rfl⟩ := h
                  have hpre := hq (pre (decide (n' + m ≤ maxLen ∧ (n' + m) * i.bytes ≤ 140737488355328 ∧ 0 < m)), true) (by simp)
                  simp only [pre, decide_eq_true_eq] at hpre
                  obtain ⟨h63, hby, hm⟩ := hpre
                  obtain ⟨hown, hwf1, hne1, hk1, hv1⟩ := baseOf_ok hbase hw
                  obtain ⟨⟨ad, c, hy, hcell⟩, hwf2, hne2⟩ := newsOf_ok hnews hsz hm hw
                  have hex := eval_ev ht rfl hne1
                  have hey := (eval_ev ht rfl hne2).trans hy
                  have hl : ((List.range m).flatMap g).length = m * i.size := flat_len m (fun j hj => (hwf2 j hj).1)
                  have hone : ∀ u ∈ (List.range m).flatMap g, u.oneCell' = true := fun u hu => by
                    obtain ⟨j, hj, hju⟩ := List.mem_flatMap.mp hu
                    exact List.all_eq_true.mp (hwf2 j (List.mem_range.mp hj)).2 u hju
                  obtain ⟨v', w', hr, h2, h3, h4⟩ := run_append_own (P := E.P) w w0.heap.size t o.type e i z i.size i.bytes hu hi hz rfl rfl hzs hsz _ n' _ hown ad m c _ hl hcell hone h63 hby hw.below.size
                  have hwh := append_where hr hu hi hz hown hm hl hcell hone h63 hby
                  have hr' : (execOp a.eval o).run E.P w = .ok (.value v') w' := by
                    subst e1 e2
                    unfold execOp
                    simp only [ho, resolve, invoke, builtin, Sem.run_bind, Sem.run_pure, Result.andThen_ok, List.map_toArray, List.map_cons, List.map_nil, hex, hey, hr]
                  rw [hr', Oper.upon_value]
                  have hlen := killL_len s.own.l k?
                  refine hK (extV ν s.own.l.length v') v' w' (extV_old _ _ _ _) (by show _ = _; simp [conc, extV_new]) (hw.append (ne := ⟨e, i.size, n' + m, joinE n' f g, true, false, o1 || o2⟩) ⟨⟨hsz, fun j hj => ?_⟩, ?_⟩ rfl hv1 h3 hwh (fun j c fl T e2 acc hj hkd g cs fz hg2 heq => by
                    rcases hown.2 with ⟨hv0, _⟩ | ⟨g', cap', cur', hv0, _, hgg, _⟩
                    · rw [hv0] at hg2; cases hg2
                    · rw [hv0] at hg2
                      simp only [Value.ownBlock, Option.some.injEq] at hg2
                      subst hg2
                      rw [hgg] at heq
                      simp only [Option.some.injEq, Obj.cells.injEq] at heq
                      exact hfree j c fl T e2 acc hj hkd heq.2.1.symm))
                  · show (joinE n' f g j).length = i.size ∧ (joinE n' f g j).all Value.oneCell' = true
                    unfold joinE
                    cases hjb : Nat.blt j n'
                    · have : ¬ j < n' := by intro hc; rw [← Nat.blt_eq, hjb] at hc; cases hc
                      have hj' : j < n' + m := hj
                      exact hwf2 (j - n') (by omega)
                    · exact hwf1 j (by simpa [Nat.blt_eq] using hjb)
                  · unfold LE.flat
                    show w'.ownsRow w0.heap.size e i.size v' (n' + m) ((List.range (n' + m)).flatMap (joinE n' f g))
                    rw [flat_join]; exact h2
                · split at h
                  · rename_i n' f m g o2 hbase hnews
                    simp only [Option.some.injEq, Prod.mk.injEq] at h
                    obtain ⟨rfl, rfl, rfl⟩ := h
                    have hpre := hq (pre (decide (n' + m ≤ maxLen ∧ (n' + m) * i.bytes ≤ 140737488355328 ∧ 0 < m)), true) (by simp)
                    simp only [pre, decide_eq_true_eq] at hpre
                    obtain ⟨h63, hby, hm⟩ := hpre
                    obtain ⟨gb, hcv, hne1, hown, hwf1⟩ := baseB_ok hbase hsz hw
                    obtain ⟨⟨ad, c, hy, hcell⟩, hwf2, hne2⟩ := newsOf_ok hnews hsz hm hw
                    have hex := (eval_ev ht rfl hne1).trans hcv
                    have hey := (eval_ev ht rfl hne2).trans hy
                    have hl : ((List.range m).flatMap g).length = m * i.size := flat_len m (fun j hj => (hwf2 j hj).1)
                    have hone : ∀ u ∈ (List.range m).flatMap g, u.oneCell' = true := fun u hu => by
                      obtain ⟨j, hj, hju⟩ := List.mem_flatMap.mp hu
                      exact List.all_eq_true.mp (hwf2 j (List.mem_range.mp hj)).2 u hju
                    obtain ⟨v', w', hr, h2, h3, h4⟩ := run_append_own (P := E.P) w w0.heap.size t o.type e i z i.size i.bytes hu hi hz rfl rfl hzs hsz _ n' _ hown ad m c _ hl hcell hone h63 hby hw.below.size
                    have h63' : n' + m ≤ 9223372036854775807 := by simp only [maxLen] at h63; omega
                    have hgr := run_append_grow (P := E.P) w t o.type e i z hu hi hz ⟨gb, 0, none⟩ n' n' _ hown.1 (World.ownsRow.cells hown (g := gb) rfl) ad m c _ hl hcell (by omega) (by omega) (growslice_fits (by omega) hby)
                    rw [hr] at hgr
                    simp only [Result.ok.injEq] at hgr
                    have hga := World.grownBy_alloc w.drew (.cells (((List.range n').flatMap f).toArray ++ ((List.range m).flatMap g).toArray ++ Builtin.zeroCells z.cells (grownCap w (n' + m) n' e - (n' + m))) e) none
                    have hgn : w.grownBy w' none := by rw [hgr.2]; exact ⟨hga.os, hga.tape, hga.output, hga.size, hga.block⟩
                    have hr' : (execOp a.eval o).run E.P w = .ok (.value v') w' := by
                      subst e1 e2
                      unfold execOp
                      simp only [ho, resolve, invoke, builtin, Sem.run_bind, Sem.run_pure, Result.andThen_ok, List.map_toArray, List.map_cons, List.map_nil, hex, hey, hr]
                    rw [hr', Oper.upon_value]
                    refine hK (extV ν s.own.l.length v') v' w' (extV_old _ _ _ _) (by show _ = _; simp [conc, extV_new]) (hw.append (k? := none) (v := .slice none 0 0) (ne := ⟨e, i.size, n' + m, joinE n' f g, true, false, o2⟩) ⟨⟨hsz, fun j hj => ?_⟩, ?_⟩ rfl (fun g e => by cases e) hgn (.inr (by rw [hgr.1]; rfl)) (fun _ _ _ _ _ _ _ _ _ _ _ e => by cases e))
                    · show (joinE n' f g j).length = i.size ∧ (joinE n' f g j).all Value.oneCell' = true
                      unfold joinE
                      cases hjb : Nat.blt j n'
                      · have : ¬ j < n' := by intro hc; rw [← Nat.blt_eq, hjb] at hc; cases hc
                        have hj' : j < n' + m := hj
                        exact hwf2 (j - n') (by omega)
                      · exact hwf1 j (by simpa [Nat.blt_eq] using hjb)
                    · unfold LE.flat
                      show w'.ownsRow w0.heap.size e i.size v' (n' + m) ((List.range (n' + m)).flatMap (joinE n' f g))
                      rw [flat_join]; exact h2
                  · cases h
              · cases h
            · cases h
          · cases h
        · cases h
    · cases h
  · cases h
def ClSt (cl : Callee) : Prop := ∀ f args s x s', s.lo ≤ s.own.b.length → s.llo ≤ s.own.l.length → OkB s.own.b.length s.own.l.length s.own.b → (∀ y ∈ args, okV s.own.b.length s.own.l.length y) → cl f args s = some (x, s') → Le s s' ∧ okV s'.own.b.length s'.own.l.length x ∧ OkB s'.own.b.length s'.own.l.length s'.own.b
def ClOk (E : Env) (w0 : Base) (cl : Callee) : Prop := ∀ f args s x s', s.lo ≤ s.own.b.length → s.llo ≤ s.own.l.length → (∀ y ∈ args, okV s.own.b.length s.own.l.length y) → cl f args s = some (x, s') → Holds' s' → ∀ ν w vs, IsL ν args vs → WR w0 ν s.own s.mem w →
  (∃ fn, E.P.funcs[f]? = some fn ∧ (fn.name == "runtime.NumGoroutine") = false ∧ fn.body.isNone = false) ∧
    Calls E.P f vs.toArray w fun e w' => ∃ ν' v, Ag s.own ν ν' ∧ e = .returned v ∧ Is ν' x v ∧ WR w0 ν' s'.own s'.mem w'
theorem run_convert_mark {P : Program} (w : World) (t e ty : TypeId) (C : Array Value) (g n c : Nat) (ht : P.underlying t = some (.slice e)) (he : P.underlying e = some (.int .u8)) (hg : w.heap[g]? = some (.cells C ty (0, 0))) :
    (convert t t (.slice (some ⟨g, 0, none⟩) n c)).run P w = .ok (.slice (some ⟨g, 0, none⟩) n c) (w.freeze ⟨g, C.size, none⟩ 1) := by
  have hsh : w.shape? g = some (ty, C.size) := by unfold World.shape?; rw [hg]
  simp [convert, run_underlying ht, run_underlying he, markStringish, hsh]
theorem freeze_at (w : World) (g k : Nat) (C : Array Value) (ty : TypeId) (hg : w.heap[g]? = some (.cells C ty (0, 0))) : (w.freeze ⟨g, k, none⟩ 1).heap[g]? = some (.cells C ty (k, k + 1)) := by
  unfold World.freeze
  rw [if_neg (by decide)]
  show (w.heap.modify g _)[g]? = _
  rw [Array.getElem?_modify, if_pos rfl, hg]
  rfl
theorem freeze_other (w : World) (g k j : Nat) (hj : j ≠ g) : (w.freeze ⟨g, k, none⟩ 1).heap[j]? = w.heap[j]? := by
  unfold World.freeze
  rw [if_neg (by decide)]
  show (w.heap.modify g _)[j]? = _
  rw [Array.getElem?_modify, if_neg (fun e => hj e.symm)]
theorem freeze_rest (w : World) (g k : Nat) : (w.freeze ⟨g, k, none⟩ 1).heap.size = w.heap.size ∧ (w.freeze ⟨g, k, none⟩ 1).os = w.os ∧ (w.freeze ⟨g, k, none⟩ 1).tape = w.tape ∧ (w.freeze ⟨g, k, none⟩ 1).output = w.output := by
  unfold World.freeze
  rw [if_neg (by decide)]
  exact ⟨Array.size_modify, rfl, rfl, rfl⟩
theorem op_gx {E : Env} {n : Nat} {o : Oper} {s : St} {x : SV} {own : Mem} {q : List (Bool × Bool)} {w0 : Base} {ν : Nu} {a : Act} {w : World} {K : Act → World → Prop} {Q : Exit → Act → World → Prop}
    (h : simGX E o s = some (x, own, q)) (hq : ∀ p ∈ q, p.1 = p.2) (hg : Good s) (ht : TR n ν s a) (hw : WR w0 ν s.own s.mem w)
    (hK : ∀ ν' v w', Ag s.own ν ν' → Is ν' x v → WR w0 ν' own true w' → K (a.put o.dst v) w') : o.wp E.P a w K Q := by
  unfold Oper.wp
  cases simGX_some h with
  | cut t y lo hi k e i l hh ho hx hk hu hi' hl hhh hsz hown =>
    obtain ⟨hkl, hd⟩ := getL_some hk
    have hr : 0 ≤ l ∧ l ≤ hh ∧ hh ≤ (e.n : Int) := by have := hq (pre (decide (0 ≤ l ∧ l ≤ hh ∧ hh ≤ (e.n : Int))), true) (by simp); simpa [pre] using this
    have hev := eval_c ht hx
    have hLk := hw.lst k e hkl hd
    unfold LOk at hLk
    rw [hown] at hLk
    have hin : InB w0.heap.size w e (ν.v k) := hLk
    have hin2 := hin
    obtain ⟨_, aa, cap, hv0, hcap, _⟩ := hin2
    have hbl : (lo.map a.eval = none ∧ l = 0) ∨ ∃ k, lo.map a.eval = some (.int k l) := by
      rcases boundS_ok ht hl with ⟨rfl, rfl⟩ | h'
      · exact .inl ⟨rfl, rfl⟩
      · exact .inr h'
    have hbh : (hi.map a.eval = none ∧ hh = e.n) ∨ ∃ k, hi.map a.eval = some (.int k hh) := by
      rcases boundS_ok ht hhh with ⟨rfl, rfl⟩ | h'
      · exact .inl ⟨rfl, rfl⟩
      · exact .inr h'
    have hrun := run_sliceE hu hi' (a := aa) (cap := cap) hbl hbh hr.1 hr.2.1 hr.2.2 hcap w
    rw [hsz, ← hv0] at hrun
    have hr' : (execOp a.eval o).run E.P w = .ok (.value (subOf (ν.v k) l.toNat (hh.toNat - l.toNat) e.size)) w := by
      simp only [execOp, ho, hev, Sem.run_bind, hrun, Result.andThen_ok, Sem.run_pure, Option.map_none]
    rw [hr', Oper.upon_value]
    refine hK (extV ν s.own.l.length (subOf (ν.v k) l.toNat (hh.toNat - l.toNat) e.size)) _ w (extV_old _ _ _ _) (by show _ = _; simp [conc, extV_new]) (hw.addIn rfl ?_)
    exact InB.sub hin l.toNat (hh.toNat - l.toNat) (by omega) true
  | mark t y i len cap b et ho hx hlo hb hu he hfr =>
    obtain ⟨hbb, hkd⟩ := getB_some hb
    have hc := (hw.blk i b hbb).1.cells hkd
    have hev := eval_sl ht hx
    have hrun := run_convert_mark (P := E.P) w t et b.elem _ (ν.l i) len cap hu he hc
    have hr' : (execOp a.eval o).run E.P w = .ok (.value (.slice (some ⟨ν.l i, 0, none⟩) len cap)) (w.freeze ⟨ν.l i, (concB ν b.cells).toArray.size, none⟩ 1) := by
      simp only [execOp, ho, hev, Sem.run_bind, hrun, Result.andThen_ok, Sem.run_pure]
    rw [hr', Oper.upon_value]
    obtain ⟨r1, r2, r3, r4⟩ := freeze_rest w (ν.l i) (concB ν b.cells).toArray.size
    have hsz : (concB ν b.cells).toArray.size = b.cells.length := by simp [concB]
    refine hK ν _ _ (.refl _ _ _) rfl (hw.turnB hbb (nb := ⟨b.cells, b.elem, .shut⟩) (hg.okb i b hbb) ?_ (fun j c fl T e acc cs fz hj hk2 heq => ?_) (fun k hk => freeze_other w _ _ k hk) r1 r2 r3 r4)
    · show (w.freeze _ 1).heap[ν.l i]? = some (.cells (concB ν b.cells).toArray b.elem (b.cells.length, b.cells.length + 1))
      rw [freeze_at w _ _ _ _ hc, hsz]
    · rw [hc] at heq
      simp only [Option.some.injEq, Obj.cells.injEq] at heq
      exact bldFree_ok hfr j c fl T e acc hj hk2 heq.2.1.symm
  | app x' y' t e i z n' f m g o2 ho hu hi hz hzs hsz hbase hnews =>
    have hpre := hq (pre (decide (n' + m ≤ maxLen ∧ (n' + m) * i.bytes ≤ 140737488355328 ∧ 0 < m)), true) (by simp)
    simp only [pre, decide_eq_true_eq] at hpre
    obtain ⟨h63, hby, hm⟩ := hpre
    obtain ⟨gb, hcv, hne1, hlx, hcx, hwf1⟩ := baseF_ok hbase hsz hw
    obtain ⟨⟨ad, c, hy, hcell⟩, hwf2, hne2⟩ := newsOf_ok hnews hsz hm hw
    have hex := (eval_ev ht rfl hne1).trans hcv
    have hey := (eval_ev ht rfl hne2).trans hy
    have hl : ((List.range m).flatMap g).length = m * i.size := flat_len m (fun j hj => (hwf2 j hj).1)
    have h63' : n' + m ≤ 9223372036854775807 := by simp only [maxLen] at h63; omega
    have hr := run_append_grow (P := E.P) w t o.type e i z hu hi hz ⟨gb, 0, none⟩ n' n' _ hlx hcx ad m c _ hl hcell (by omega) (by omega) (growslice_fits (by omega) hby)
    have hr' : (execOp a.eval o).run E.P w = .ok (.value (.slice (some ⟨w.heap.size, 0, none⟩) (n' + m) (grownCap w (n' + m) n' e))) (w.drew.alloc (.cells (((List.range n').flatMap f).toArray ++ ((List.range m).flatMap g).toArray ++ Builtin.zeroCells z.cells (grownCap w (n' + m) n' e - (n' + m))) e)) := by
      unfold execOp
      simp only [ho, resolve, invoke, builtin, Sem.run_bind, Sem.run_pure, Result.andThen_ok, List.map_toArray, List.map_cons, List.map_nil, hex, hey, hr]
    rw [hr', Oper.upon_value]
    have hga := World.grownBy_alloc w.drew (.cells (((List.range n').flatMap f).toArray ++ ((List.range m).flatMap g).toArray ++ Builtin.zeroCells z.cells (grownCap w (n' + m) n' e - (n' + m))) e) none
    have hge := grownCap_ge w (n' + m) n' e
    have hcm : grownCap w (n' + m) n' e ≤ maxLen := grownCap_le_maxLen w (n' + m) n' e h63
    refine hK (extV ν s.own.l.length _) _ _ (extV_old _ _ _ _) (by show _ = _; simp [conc, extV_new]) (hw.append (k? := none) (v := .slice none 0 0) (v' := .slice (some ⟨w.heap.size, 0, none⟩) (n' + m) (grownCap w (n' + m) n' e)) (ne := ⟨e, i.size, n' + m, joinE n' f g, true, false, o2⟩) ⟨⟨hsz, fun j hj => ?_⟩, ?_⟩ rfl (fun g e => by cases e) ⟨hga.os, hga.tape, hga.output, hga.size, hga.block⟩ (.inr rfl) (fun _ _ _ _ _ _ _ _ _ _ _ e => by cases e))
    · show (joinE n' f g j).length = i.size ∧ (joinE n' f g j).all Value.oneCell' = true
      unfold joinE
      cases hjb : Nat.blt j n'
      · have : ¬ j < n' := by intro hc; rw [← Nat.blt_eq, hjb] at hc; cases hc
        have hj' : j < n' + m := hj
        exact hwf2 (j - n') (by omega)
      · exact hwf1 j (by simpa [Nat.blt_eq] using hjb)
    · unfold LE.flat
      show (World.alloc w.drew _).ownsRow w0.heap.size e i.size _ (n' + m) ((List.range (n' + m)).flatMap (joinE n' f g))
      rw [flat_join]
      have hlen : ((List.range n').flatMap f ++ (List.range m).flatMap g).length = (n' + m) * i.size := by rw [List.length_append, hlx, hl, Nat.add_mul]
      refine ⟨hlen, .inr ⟨w.heap.size, _, _, rfl, hw.below.size, heap_alloc_new w.drew _, hge, hcm, ?_, ?_⟩⟩
      · simp only [Array.size_append, List.size_toArray, size_zeroCells, hzs, hlx, hl, ← Nat.add_mul]
        congr 1
        omega
      · simp only [Array.toList_append, List.append_assoc]
        rw [← List.append_assoc, ← hlen]
        exact List.take_left
theorem op_fx1 {E : Env} {n : Nat} {o : Oper} {s : St} {x : SV} {own : Mem} {q : List (Bool × Bool)} {w0 : Base} {ν : Nu} {a : Act} {w : World} {K : Act → World → Prop} {Q : Exit → Act → World → Prop}
    (h : simFX1 E o s = some (x, own, q)) (hq : ∀ p ∈ q, p.1 = p.2) (hg : Good s) (ht : TR n ν s a) (hw : WR w0 ν s.own s.mem w)
    (hK : ∀ ν' v w', Ag s.own ν ν' → Is ν' x v → WR w0 ν' own true w' → K (a.put o.dst v) w') : o.wp E.P a w K Q := by
  unfold simFX1 at h
  split at h
  · rename_i r hr
    obtain ⟨t, len, parts, cells, e, i, ho, hb, hlit, hi, hsz, hlen, hone, hle, rfl, rfl, rfl⟩ := simLX_some (hr.trans h)
    unfold Oper.wp
    have hp : (parts.map fun (i, x) => (i, a.eval x)) = (parts.toList.map fun p => (p.1, rho s p.2)).toArray := by
      rw [← Array.toArray_toList (xs := parts.map _), Array.toList_map]
      congr 1
      refine List.map_congr_left fun p hp => ?_
      rw [List.all_eq_true] at hb
      show (p.1, a.eval p.2) = _
      rw [eval_rho ht (hb p hp)]
    have hr' : (execOp a.eval o).run E.P w = .ok (.value (.slice (some ⟨w.heap.size, 0, none⟩) len len)) (w.alloc (.cells cells.toArray e)) := by
      simp only [execOp, ho, hp, Sem.run_bind, run_litB hlit w, Result.andThen_ok, Sem.run_pure]
    rw [hr', Oper.upon_value]
    have hga := World.grownBy_alloc w (.cells cells.toArray e) none
    have hfl := chunks_flat hsz hlen
    refine hK (extV ν s.own.l.length (.slice (some ⟨w.heap.size, 0, none⟩) len len)) _ _ (extV_old _ _ _ _) (by show _ = _; simp [conc, extV_new]) (hw.append (k? := none) (v := .slice none 0 0) (v' := .slice (some ⟨w.heap.size, 0, none⟩) len len) (ne := ⟨e, i.size, len, tabE (chunks i.size len cells), true, false, true⟩) ⟨⟨hsz, fun j hj => ?_⟩, ?_⟩ rfl (fun g e => by cases e) hga (.inr rfl) (fun _ _ _ _ _ _ _ _ _ _ _ e => by cases e))
    · have hj : j < len := hj
      have hm : j * i.size + i.size ≤ len * i.size := by
        have := Nat.mul_le_mul_right i.size (show j + 1 ≤ len from hj)
        rwa [Nat.add_mul, Nat.one_mul] at this
      show (tabE (chunks i.size len cells) j).length = i.size ∧ (tabE (chunks i.size len cells) j).all Value.oneCell' = true
      rw [tabE_chunks i.size len cells j hj]
      exact ⟨by rw [List.length_take, List.length_drop]; omega, List.all_eq_true.mpr fun x hx => List.all_eq_true.mp hone x (List.mem_of_mem_drop (List.mem_of_mem_take hx))⟩
    · show (World.alloc w _).ownsRow w0.heap.size e i.size _ len ((List.range len).flatMap (tabE (chunks i.size len cells)))
      rw [hfl]
      exact ⟨hlen, .inr ⟨w.heap.size, len, cells.toArray, rfl, hw.below.size, heap_alloc_new w _, Nat.le_refl _, by unfold maxLen; omega, by rw [List.size_toArray]; exact hlen, List.take_of_length_le (by show cells.length ≤ _; omega)⟩⟩
  · split at h
    · rename_i r hr
      rcases simMX_some (hr.trans h) with ⟨t, ho, rfl, rfl, rfl⟩ | ⟨t, m, ix, y, i, f, k, g, v, b, kt, et, T, l, ho, hm, hix, hy, hlo, hb, hu, hkd, hk, rfl, rfl, rfl⟩
      · unfold Oper.wp
        have hrun : (execOp a.eval o).run E.P w = .ok (.value (.map (some w.heap.size))) (w.alloc (.map #[] 0)) := by
          simp only [execOp, ho, Option.map_none, Sem.run_bind, run_makeMap, Result.andThen_ok, Sem.run_pure]
        rw [hrun, Oper.upon_value]
        exact hK (extL ν s.own.b.length w.heap.size) _ _ (extL_old _ _ _ _) (by show _ = _; simp [conc, extL_new]) (hw.growB ⟨[], 0, .map t []⟩ _ (fun c hc => by cases hc) (MapL_made w))
      · have hc := hq (pre (decide (inI k = true ∧ l.length < maxLen)), true) (by simp)
        have hc : inI k = true ∧ l.length < maxLen := by simpa [pre] using hc
        have hml : MapL w (ν.l i) l := by
          have := (hw.blk i b hb).1
          unfold BOk at this
          rw [hkd] at this; exact this
        obtain ⟨ob, hrun0, hnew⟩ := hml.store hu hk hc.2 (wf_inI hc.1) v
        unfold Oper.wp
        have hrun : (execOp a.eval o).run E.P w = .ok .skip (Go.ChangeMaps.setBlock w (ν.l i) ob) := by
          simp only [execOp, ho, eval_mp ht hm, eval_v ht hix, eval_v ht hy, Sem.run_bind, hrun0, Result.andThen_ok, Sem.run_pure]
        rw [hrun, Oper.upon_skip]
        exact hK ν _ _ (.refl _ _ _) rfl (hw.turnB hb (nb := ⟨[], 0, .map T ((k, v) :: l)⟩) (fun c hc => by cases hc) hnew (fun j c fl T e acc cs fz _ _ heq => hml.not_cells cs e fz heq) (fun k hne => setBlock_other hml ob k hne) (setBlock_size w _ ob) rfl rfl rfl)
    · split at h
      · rename_i r hr
        obtain ⟨t, y, z, i, off, len, m, f, k, v, b, ti, xs, ho, hy, hz, hlo, hb, hi, hfr, hs, hxs, hl, rfl, rfl, rfl⟩ := simIX_some (hr.trans h)
        have hin := idx_of (hq _ List.mem_cons_self)
        obtain ⟨hb, hkd⟩ := getB_some hb
        obtain ⟨w', r1, r2, r3, r4, r5, r6, r7⟩ := run_storeB (store_ia (ν := ν) (v := v) hi hs hxs hl hin) w ((hw.blk i b hb).1.cells hkd)
        unfold Oper.wp
        have hr : (execOp a.eval o).run E.P w = .ok .skip w' := by
          simp only [execOp, ho, eval_ia ht hy, eval_v ht hz, Instr.storeAt, Instr.sureAddr, Sem.run_bind, Sem.run_pure, Result.andThen_ok, r1]
        rw [hr, Oper.upon_skip]
        exact hK ν _ w' (Agree.refl _ _ _) rfl (hw.store hb hkd (ia_okV (hg.okb i b hb)) (bldFree_ok hfr) r2 r3 r4 r5 r6 r7)
      · split at h
        · rename_i r hr
          exact op_fx0 (hr.trans h) hq hg ht hw hK
        · exact op_gx h hq hg ht hw hK
theorem run_append_non {P : Program} (w : World) (t ty e : TypeId) (i : TypeInfo) (ht : P.underlying t = some (.slice e)) (hi : P.info? e = some i) (a : Option Addr) (n cap : Nat) (hle : n ≤ cap) (a2 : Option Addr) (c2 : Nat) :
    (Builtin.append_ #[t, t] ty #[.slice a n cap, .slice a2 0 c2]).run P w = .ok (.slice a n cap) w := by
  cases a <;> cases a2 <;> simp [Builtin.append_, run_underlying ht, sizeOf, typeInfo, hi, hle, storeCells, Builtin.lenOf, Builtin.firstCells, loadCells, loadCellsFrom]
theorem op_fx3 {E : Env} {n : Nat} {o : Oper} {s : St} {x : SV} {own : Mem} {q : List (Bool × Bool)} {w0 : Base} {ν : Nu} {a : Act} {w : World} {K : Act → World → Prop} {Q : Exit → Act → World → Prop}
    (h : simFX3 E o s = some (x, own, q)) (hq : ∀ p ∈ q, p.1 = p.2) (hg : Good s) (ht : TR n ν s a) (hw : WR w0 ν s.own s.mem w)
    (hK : ∀ ν' v w', Ag s.own ν ν' → Is ν' x v → WR w0 ν' own true w' → K (a.put o.dst v) w') : o.wp E.P a w K Q := by
  unfold simFX3 at h
  split at h
  · rename_i r hr
    obtain ⟨y, z, t, e, i, k, k2, e1, e2, ho, hu, hi, hy, hz, hk, hk2, rfl, rfl, rfl⟩ := simNA_some (hr.trans h)
    have h0 : e2.n = 0 := by have := hq (pre (decide (e2.n = 0)), true) (by simp); simpa [pre] using this
    obtain ⟨hkl, hkd⟩ := getL_some hk
    obtain ⟨hkl2, hkd2⟩ := getL_some hk2
    obtain ⟨_, a1, c1, hv1, hc1, _⟩ := hw.inB hkl hkd
    obtain ⟨_, a2, c2, hv2, hc2, _⟩ := hw.inB hkl2 hkd2
    rw [h0] at hv2
    have hex := (eval_c ht hy).trans hv1
    have hey := (eval_c ht hz).trans hv2
    unfold Oper.wp
    have hr' : (execOp a.eval o).run E.P w = .ok (.value (.slice a1 e1.n c1)) w := by
      unfold execOp
      simp only [ho, resolve, invoke, builtin, Sem.run_bind, Sem.run_pure, Result.andThen_ok, List.map_toArray, List.map_cons, List.map_nil, hex, hey, run_append_non w t o.type e i hu hi a1 e1.n c1 hc1 a2 c2]
    rw [hr', Oper.upon_value]
    exact hK ν _ w (.refl _ _ _) (by show _ = _; rw [← hv1]; rfl) hw.mem
  · exact op_fx1 h hq hg ht hw hK
theorem op_fx6 {E : Env} {n : Nat} {o : Oper} {s : St} {x : SV} {own : Mem} {q : List (Bool × Bool)} {w0 : Base} {ν : Nu} {a : Act} {w : World} {K : Act → World → Prop} {Q : Exit → Act → World → Prop}
    (h : simFX6 E o s = some (x, own, q)) (hq : ∀ p ∈ q, p.1 = p.2) (hg : Good s) (ht : TR n ν s a) (hw : WR w0 ν s.own s.mem w)
    (hK : ∀ ν' v w', Ag s.own ν ν' → Is ν' x v → WR w0 ν' own true w' → K (a.put o.dst v) w') : o.wp E.P a w K Q := by
  unfold simFX6 at h
  split at h
  · rename_i r hr
    obtain ⟨y, z, t, t', e, i, zv, fl, m, n', f, o1, k?, ho, hu, hu', hi, hzv, hzs, hsz, hfr, h1, hz, hbase, rfl, rfl, rfl⟩ := simAG_some (hr.trans h)
    have hpre := hq (pre (decide (0 ≤ m ∧ n' + m.toNat ≤ maxLen ∧ (n' + m.toNat) * i.bytes ≤ 140737488355328)), true) (by simp)
    simp only [pre, decide_eq_true_eq] at hpre
    obtain ⟨hm0, h63, hby⟩ := hpre
    obtain ⟨m, rfl⟩ := Int.eq_ofNat_of_zero_le hm0
    simp only [Int.toNat_natCast] at h63 hby ⊢
    obtain ⟨hown, hwf1, hne1, hk1, hv1⟩ := baseOf_ok hbase hw
    have hfree := bldFree_ok hfr
    have hex := eval_ev ht rfl hne1
    have hey := eval_v ht hz
    have hfl := flat_same zv.cells.toList zv.cells rfl (by rw [hzs]; exact hsz) m
    rw [← zero_made] at hfl
    have hone : ∀ u ∈ (Builtin.zeroCells zv.cells m).toList, u.oneCell' = true := fun u hu => by
      rw [← hfl] at hu
      obtain ⟨j, _, hju⟩ := List.mem_flatMap.mp hu
      exact List.all_eq_true.mp h1 u hju
    obtain ⟨v', w', hr, h2, h3, hwh⟩ := run_append_zeros (P := E.P) w w0.heap.size t t' o.type e i zv hu hu' hi hzv hzs hsz m hone _ n' _ hown h63 hby hw.below.size
    have hr' : (execOp a.eval o).run E.P w = .ok (.value v') w' := by
      unfold execOp
      simp only [ho, resolve, invoke, builtin, Sem.run_bind, Sem.run_pure, Result.andThen_ok, List.map_toArray, List.map_cons, List.map_nil, hex, hey, hr]
    unfold Oper.wp
    rw [hr', Oper.upon_value]
    refine hK (extV ν s.own.l.length v') v' w' (extV_old _ _ _ _) (by show _ = _; simp [conc, extV_new]) (hw.append (ne := ⟨e, i.size, n' + m, joinE n' f (fun _ => zv.cells.toList), true, false, o1 || anyF fl⟩) ⟨⟨hsz, fun j hj => ?_⟩, ?_⟩ rfl hv1 h3 hwh (fun j c fl T e2 acc hj hkd g cs fz hg2 heq => by
      rcases hown.2 with ⟨hv0, _⟩ | ⟨g', cap', cur', hv0, _, hgg, _⟩
      · rw [hv0] at hg2; cases hg2
      · rw [hv0] at hg2
        simp only [Value.ownBlock, Option.some.injEq] at hg2
        subst hg2
        rw [hgg] at heq
        simp only [Option.some.injEq, Obj.cells.injEq] at heq
        exact hfree j c fl T e2 acc hj hkd heq.2.1.symm))
    · show (joinE n' f (fun _ => zv.cells.toList) j).length = i.size ∧ (joinE n' f (fun _ => zv.cells.toList) j).all Value.oneCell' = true
      unfold joinE
      cases hjb : Nat.blt j n'
      · exact ⟨by rw [← hzs]; exact Array.length_toList, h1⟩
      · exact hwf1 j (by simpa [Nat.blt_eq] using hjb)
    · unfold LE.flat
      show w'.ownsRow w0.heap.size e i.size v' (n' + m) ((List.range (n' + m)).flatMap (joinE n' f (fun _ => zv.cells.toList)))
      rw [flat_join, hfl]; exact h2
  · unfold simFX4 at h
    split at h
    · rename_i r hr
      obtain ⟨y, z, t, e, i, fl, ho, hu, hi, hy, rfl, rfl, hc⟩ := simNB_some (hr.trans h)
      have hex := eval_v ht hy
      obtain ⟨a2, c2, hey⟩ : ∃ a2 c2, a.eval z = .slice a2 0 c2 := by
        rcases hc with ⟨k2, e2, hz, hk2, rfl⟩ | ⟨f2, hz⟩
        · have h0 : e2.n = 0 := by have := hq (pre (decide (e2.n = 0)), true) (by simp); simpa [pre] using this
          obtain ⟨hkl2, hkd2⟩ := getL_some hk2
          obtain ⟨_, a2, c2, hv2, _, _⟩ := hw.inB hkl2 hkd2
          rw [h0] at hv2
          exact ⟨a2, c2, (eval_c ht hz).trans hv2⟩
        · exact ⟨none, 0, eval_v ht hz⟩
      unfold Oper.wp
      have hr' : (execOp a.eval o).run E.P w = .ok (.value (.slice none 0 0)) w := by
        unfold execOp
        simp only [ho, resolve, invoke, builtin, Sem.run_bind, Sem.run_pure, Result.andThen_ok, List.map_toArray, List.map_cons, List.map_nil, hex, hey, run_append_non w t o.type e i hu hi none 0 0 (Nat.le_refl _) a2 c2]
      rw [hr', Oper.upon_value]
      exact hK ν _ w (.refl _ _ _) (by show _ = _; rfl) hw.mem
    · exact op_fx3 h hq hg ht hw hK
theorem op_fx2 {E : Env} {n : Nat} {o : Oper} {s : St} {x : SV} {own : Mem} {q : List (Bool × Bool)} {w0 : Base} {ν : Nu} {a : Act} {w : World} {K : Act → World → Prop} {Q : Exit → Act → World → Prop}
    (h : simFX2 E o s = some (x, own, q)) (hq : ∀ p ∈ q, p.1 = p.2) (hg : Good s) (ht : TR n ν s a) (hw : WR w0 ν s.own s.mem w)
    (hK : ∀ ν' v w', Ag s.own ν ν' → Is ν' x v → WR w0 ν' own true w' → K (a.put o.dst v) w') : o.wp E.P a w K Q := by
  unfold simFX2 at h
  split at h
  · rename_i r hr
    rcases simMY_some (hr.trans h) with ⟨t, ho, rfl, rfl, rfl⟩ | ⟨t, m, ix, y, i, f, k, g, v, b, kt, et, T, l, ho, hm, hix, hy, hlo, hb, hu, hkd, rfl, rfl, rfl⟩
    · unfold Oper.wp
      have hrun : (execOp a.eval o).run E.P w = .ok (.value (.map (some w.heap.size))) (w.alloc (.map #[] 0)) := by
        simp only [execOp, ho, Option.map_none, Sem.run_bind, run_makeMap, Result.andThen_ok, Sem.run_pure]
      rw [hrun, Oper.upon_value]
      exact hK (extL ν s.own.b.length w.heap.size) _ _ (extL_old _ _ _ _) (by show _ = _; simp [conc, extL_new]) (hw.growB ⟨[], 0, .mapV t []⟩ _ (fun c hc => by cases hc) (MapV_made w))
    · have hc := hq (pre (decide (l.length < maxLen)), true) (by simp)
      have hc : l.length < maxLen := by simpa [pre] using hc
      have hin := keysB_ok.mp (hq (pre (keysB E.P kt k l), true) (by simp))
      have hml : MapV w (ν.l i) l := by
        have := (hw.blk i b hb).1
        unfold BOk at this
        rw [hkd] at this; exact this
      obtain ⟨ob, hrun0, hnew⟩ := hml.store hu hc hin v
      unfold Oper.wp
      have hrun : (execOp a.eval o).run E.P w = .ok .skip (Go.ChangeMaps.setBlock w (ν.l i) ob) := by
        simp only [execOp, ho, eval_mp ht hm, eval_v ht hix, eval_v ht hy, Sem.run_bind, hrun0, Result.andThen_ok, Sem.run_pure]
      rw [hrun, Oper.upon_skip]
      exact hK ν _ _ (.refl _ _ _) rfl (hw.turnB hb (nb := ⟨[], 0, .mapV T ((k, v) :: l)⟩) (fun c hc => by cases hc) hnew (fun j c fl T e acc cs fz _ _ heq => hml.not_cells cs e fz heq) (fun k hne => setBlock_otherV hml ob k hne) (setBlock_size w _ ob) rfl rfl rfl)
  · exact op_fx6 h hq hg ht hw hK
theorem op_fx {E : Env} {n : Nat} {o : Oper} {s : St} {x : SV} {own : Mem} {q : List (Bool × Bool)} {w0 : Base} (hG : GlobB E w0) {ν : Nu} {a : Act} {w : World} {K : Act → World → Prop} {Q : Exit → Act → World → Prop}
    (h : simFX E o s = some (x, own, q)) (hq : ∀ p ∈ q, p.1 = p.2) (hg : Good s) (ht : TR n ν s a) (hw : WR w0 ν s.own s.mem w)
    (hK : ∀ ν' v w', Ag s.own ν ν' → Is ν' x v → WR w0 ν' own true w' → K (a.put o.dst v) w') : o.wp E.P a w K Q := by
  unfold simFX at h
  split at h
  · rename_i r hr
    obtain ⟨fl, cs, v, r', e, qs, hro, hcs, ho, rfl, rfl, rfl⟩ := simRS_some (hr.trans h)
    have hp := rowB_ok.mp (hq (pre (rowB E.glob v e), true) List.mem_cons_self)
    obtain ⟨v', hv, hd⟩ := simRO_ok (mem := s.mem) hro (fun p hp => hq p (List.mem_cons_of_mem _ hp)) ht hG (simRO_st hro hg)
    have hv : v' = .agg cs := hv
    subst hv
    unfold Oper.wp
    rcases hd with ⟨_, hd⟩ | ⟨hc, _⟩
    · rw [hd w hw, Oper.upon_value]
      refine hK (extV ν s.own.l.length v) (.agg cs) w (extV_old _ _ _ _) ?_ (hw.mem.addIn ho ?_)
      · show Value.agg cs = .agg (((CV.l s.own.l.length :: r'.map (CV.v [true])).map (concC (extV ν s.own.l.length v))).toArray)
        have e1 : (r'.map (CV.v [true])).map (concC (extV ν s.own.l.length v)) = r' := by
          rw [List.map_map]; exact List.map_id' r'
        rw [List.map_cons, e1]
        show Value.agg cs = .agg ((extV ν s.own.l.length v).v s.own.l.length :: r').toArray
        rw [extV_new, ← hcs]
      · have h0 := rowG_in hG.glob hp
        have := LOk.kept (e := e) (row := none) (w' := w) (show LOk w0.heap.size w0.toWorld e v by unfold LOk; rw [ho]; exact h0) (grownBy_of hw.below none) (Nat.le_refl _) (fun g hg => by cases hg) (fun hc => by rw [ho] at hc; cases hc)
        unfold LOk at this
        rw [ho] at this; exact this
    · cases hc
  · split at h
    · rename_i r hr
      obtain ⟨fl, v, e, qs, hro, ho, rfl, rfl, rfl⟩ := simRW_some (hr.trans h)
      have hp := rowB_ok.mp (hq (pre (rowB E.glob v e), true) List.mem_cons_self)
      obtain ⟨v', hv, hd⟩ := simRO_ok (mem := s.mem) hro (fun p hp => hq p (List.mem_cons_of_mem _ hp)) ht hG (simRO_st hro hg)
      have hv : v' = v := hv
      subst hv
      unfold Oper.wp
      rcases hd with ⟨_, hd⟩ | ⟨hc, _⟩
      · rw [hd w hw, Oper.upon_value]
        refine hK (extV ν s.own.l.length v') v' w (extV_old _ _ _ _) (by show _ = _; simp [conc, extV_new]) (hw.mem.addIn ho ?_)
        have h0 := rowG_in hG.glob hp
        have := LOk.kept (e := e) (row := none) (w' := w) (show LOk w0.heap.size w0.toWorld e v' by unfold LOk; rw [ho]; exact h0) (grownBy_of hw.below none) (Nat.le_refl _) (fun g hg => by cases hg) (fun hc => by rw [ho] at hc; cases hc)
        unfold LOk at this
        rw [ho] at this; exact this
      · cases hc
    · exact op_fx2 h hq hg ht hw hK
theorem isL_map {n : Nat} {ν : Nu} {s : St} {a : Act} (ht : TR n ν s a) : ∀ (l : List Operand), IsL ν (l.map (ev s)) (l.map a.eval)
  | [] => trivial
  | x :: r => ⟨eval_is ht x, isL_map ht r⟩
theorem evals {a : Act} (az : Array Operand) : az.map a.eval = (az.toList.map a.eval).toArray := by rw [← Array.toArray_toList (xs := az.map a.eval), Array.toList_map]
theorem isL_append {ν : Nu} : ∀ {l r : List SV} {vs us : List Value}, IsL ν l vs → IsL ν r us → IsL ν (l ++ r) (vs ++ us)
  | [], r, [], us, _, h => h
  | [], _, _ :: _, _, h, _ => h.elim
  | _ :: _, _, [], _, h, _ => h.elim
  | x :: l, r, v :: vs, us, h, k => ⟨h.1, isL_append h.2 k⟩
theorem svC_is (ν : Nu) : ∀ (cs : List CV), IsL ν (cs.map svC) (cs.map (concC ν))
  | [] => trivial
  | c :: r => ⟨by cases c <;> rfl, svC_is ν r⟩
theorem svC_okV {n m : Nat} {c : CV} (h : okC n m c) : okV n m (svC c) := by
  cases c with
  | v fl x => trivial
  | a i off => exact h
  | l k => exact h
theorem callArgs_okV {s : St} {o : Oper} {f : FuncId} {args : List SV} (h : callArgs s o = some (f, args)) (hg : Good s) : ∀ y ∈ args, okV s.own.b.length s.own.l.length y := by
  unfold callArgs at h
  split at h
  · rename_i x az ats ho
    split at h
    · rename_i f' fs cs hf
      simp only [Option.some.injEq, Prod.mk.injEq] at h
      obtain ⟨rfl, rfl⟩ := h
      have hx := ev_ok hg x
      have key : (∀ y ∈ fs, okV s.own.b.length s.own.l.length y) ∧ ∀ y ∈ cs, okV s.own.b.length s.own.l.length y := by
        unfold fnOf at hf
        split at hf
        · rename_i f0 fs0 cs0 he
          simp only [Option.some.injEq, Prod.mk.injEq] at hf
          obtain ⟨rfl, rfl, rfl⟩ := hf
          rw [he] at hx
          exact ⟨fun y hy => by obtain ⟨c, hc, rfl⟩ := List.mem_map.mp hy; exact svC_okV (hx.1 c hc), fun y hy => by obtain ⟨c, hc, rfl⟩ := List.mem_map.mp hy; exact svC_okV (hx.2 c hc)⟩
        · simp only [Option.some.injEq, Prod.mk.injEq] at hf
          obtain ⟨rfl, rfl, rfl⟩ := hf
          exact ⟨fun y hy => (by cases hy), fun y hy => (by cases hy)⟩
        · cases hf
      intro y hy
      rcases List.mem_append.mp hy with hy | hy
      · exact key.1 y hy
      · rcases List.mem_append.mp hy with hy | hy
        · obtain ⟨x', _, rfl⟩ := List.mem_map.mp hy
          exact ev_ok hg x'
        · exact key.2 y hy
    · cases h
  · cases h
theorem callArgs_run {P : Program} {n : Nat} {ν : Nu} {s : St} {a : Act} {o : Oper} {f : FuncId} {args : List SV} (h : callArgs s o = some (f, args)) (ht : TR n ν s a) :
    ∃ vs, IsL ν args vs ∧ ((∃ fn, P.funcs[f]? = some fn ∧ (fn.name == "runtime.NumGoroutine") = false ∧ fn.body.isNone = false) → ∀ w, (execOp a.eval o).run P w = .ok (.enter f vs.toArray) w) := by
  unfold callArgs at h
  split at h
  · rename_i x az ats ho
    split at h
    · rename_i f' fs cs hf
      simp only [Option.some.injEq, Prod.mk.injEq] at h
      obtain ⟨rfl, rfl⟩ := h
      have key : ∃ us ws, IsL ν fs us ∧ IsL ν cs ws ∧ a.eval x = .func (.func f') us.toArray ws.toArray := by
        unfold fnOf at hf
        split at hf
        · rename_i f0 fs0 cs0 he
          simp only [Option.some.injEq, Prod.mk.injEq] at hf
          obtain ⟨rfl, rfl, rfl⟩ := hf
          exact ⟨_, _, svC_is ν fs0, svC_is ν cs0, eval_fn ht he⟩
        · rename_i fl f0 he
          simp only [Option.some.injEq, Prod.mk.injEq] at hf
          obtain ⟨rfl, rfl, rfl⟩ := hf
          exact ⟨[], [], trivial, trivial, eval_v ht he⟩
        · cases hf
      obtain ⟨us, ws, h1, h2, he⟩ := key
      refine ⟨us ++ (az.toList.map a.eval ++ ws), isL_append h1 (isL_append (isL_map ht az.toList) h2), fun hfn w => ?_⟩
      obtain ⟨fn, k1, k2, k3⟩ := hfn
      have e1 : execOp a.eval o = callFunc f' (us ++ (az.toList.map a.eval ++ ws)).toArray := by
        have : us.toArray ++ az.map a.eval ++ ws.toArray = (us ++ (az.toList.map a.eval ++ ws)).toArray := by
          rw [evals az]; simp
        rw [← this]
        unfold execOp
        simp [ho, resolve, Deferred.ofValue, invoke, he]
      rw [e1]
      simp only [callFunc, Sem.run_bind, run_program, Result.andThen_ok, k1, k2, k3, Bool.false_eq_true, if_false, Sem.run_pure]
    · cases h
  · cases h
theorem Le.upd {s t : St} (h : Le s t) (s' : St) (h1 : s'.obl = t.obl) (h2 : s'.own = t.own) (h3 : s'.lo = s.lo) (h4 : s'.llo = s.llo) : Le s s' :=
  ⟨fun p hp => by rw [h1]; exact h.ext p hp, by rw [h2]; exact h.len, by rw [h2]; exact h.llen, h3, h4, fun i hi => by rw [h2]; exact h.keep i hi, fun i hi => by rw [h2]; exact h.lkeep i hi⟩
theorem more_ext (s : St) (q : List (Bool × Bool)) : ∀ p ∈ s.obl, p ∈ more s q := fun p hp => List.mem_append_right _ hp
theorem more_q {s : St} {q : List (Bool × Bool)} (h : ∀ p ∈ more s q, p.1 = p.2) : (∀ p ∈ q, p.1 = p.2) ∧ Holds' s := ⟨fun p hp => h p (List.mem_append_left _ hp), fun p hp => h p (List.mem_append_right _ hp)⟩
theorem Good.grow {s : St} (hg : Good s) {s' : St} (h1 : s'.tmps = s.tmps) (h2 : s'.lo = s.lo) (h3 : s'.llo = s.llo) (h4 : s.own.b.length ≤ s'.own.b.length) (h5 : s.own.l.length ≤ s'.own.l.length) (h6 : OkB s'.own.b.length s'.own.l.length s'.own.b) : Good s' :=
  ⟨by rw [h2]; exact Nat.le_trans hg.lo h4, by rw [h3]; exact Nat.le_trans hg.llo h5, fun p hp => (hg.ok p (by rw [← h1]; exact hp)).mono h4 h5, h6⟩
theorem simOps_st {E : Env} {cl : Callee} (hcl : ClSt cl) {n : Nat} {ops : Array Oper} {ro : Bool} : ∀ (l : List Oper) (s s' : St), Good s → simOps E cl n ops ro l s = some s' → Le s s' ∧ Good s' ∧ (ro = true → s'.own = s.own)
  | [], s, s', hg, h => by simp only [simOps, Option.some.injEq] at h; subst h; exact ⟨Le.refl s, hg, fun _ => rfl⟩
  | o :: rest, s, s', hg, h => by
    have go : ∀ (s1 s2 s3 : St) (x : SV), Le s s1 → Le s1 s2 → Good s2 → okV s2.own.b.length s2.own.l.length x → (ro = true → s2.own = s.own) → putS n o.dst x s2 = some s3 → simOps E cl n ops ro rest s3 = some s' → Le s s' ∧ Good s' ∧ (ro = true → s'.own = s.own) := fun s1 s2 s3 x k1 k2 k3 k4 k5 hp hr => by
      obtain ⟨g3, l3⟩ := putS_good hp k3 k4
      obtain ⟨r1, r2, r3⟩ := simOps_st hcl rest s3 s' g3 hr
      exact ⟨((k1.trans k2).trans l3).trans r1, r2, fun hro => by rw [r3 hro, (putS_keep hp).2.1, k5 hro]⟩
    unfold simOps at h
    split at h
    · cases h
    · rename_i s1 hw
      obtain ⟨k1, k2, k3, k4⟩ := wantS_st hw
      split at h
      · rename_i s2 hp
        exact go s1 s1 s2 (.inl ([], undef)) k1 (Le.refl _) (k4 hg) trivial (fun _ => k2) hp h
      · cases h
    · rename_i s1 hw
      obtain ⟨k1, k2, k3, k4⟩ := wantS_st hw
      have g1 := k4 hg
      split at h
      · rename_i x s1' hnx
        cases ro with
        | true => cases hnx
        | false =>
          simp only [cond_false] at hnx
          obtain ⟨f1, f2, f3⟩ := simNX_st hnx g1
          split at h
          · rename_i s2 hp
            exact go s1 s1' s2 x k1 f1 f2 f3 (fun h => by cases h) hp h
          · cases h
      split at h
      · rename_i x own q hfx
        cases ro with
        | true => cases hfx
        | false =>
          simp only [cond_false] at hfx
          obtain ⟨f1, f2, f3, f4, f5, f6⟩ := simFX_st hfx g1
          split at h
          · rename_i s2 hp
            refine go s1 { s1 with own := own, mem := true, obl := more s1 q } s2 x k1 ⟨more_ext s1 q, f2, f3, rfl, rfl, f4, f5⟩ (g1.grow rfl rfl rfl f2 f3 f6) f1 (fun h => by cases h) hp h
          · cases h
      · split at h
        · rename_i x c q hro
          have hx := simRO_st hro g1
          split at h
          · rename_i s2 hp
            exact go s1 { s1 with mem := s1.mem || c, obl := more s1 q } s2 x k1 (.same (more_ext s1 q) rfl rfl rfl) ⟨g1.lo, g1.llo, g1.ok, g1.okb⟩ hx (fun _ => k2) hp h
          · cases h
        · split at h
          · cases h
          · rename_i f args hca
            have hargs : ∀ y ∈ args, okV s1.own.b.length s1.own.l.length y := callArgs_okV hca g1
            cases ro with
            | true =>
              simp only [cond_true] at h
              split at h
              · rename_i fl x s2 hc
                obtain ⟨c1, c2, _⟩ := hcl f args { s1 with lo := s1.own.b.length, llo := s1.own.l.length } _ s2 (Nat.le_refl _) (Nat.le_refl _) g1.okb hargs hc
                split at h
                · rename_i s3 hp
                  exact go s1 { s1 with mem := true, orc := s2.orc, obl := s2.obl } s3 (.inl (fl, x)) k1 (.same c1.ext rfl rfl rfl) ⟨g1.lo, g1.llo, g1.ok, g1.okb⟩ trivial (fun _ => k2) hp h
                · cases h
              · cases h
            | false =>
              simp only [cond_false] at h
              split at h
              · rename_i x s2 hc
                obtain ⟨c1, c2, c3⟩ := hcl f args s1 _ s2 g1.lo g1.llo g1.okb hargs hc
                split at h
                · rename_i s3 hp
                  exact go s1 { s1 with own := s2.own, mem := s2.mem, orc := s2.orc, obl := s2.obl } s3 _ k1 (c1.upd _ rfl rfl rfl rfl) (g1.grow rfl rfl rfl c1.len c1.llen c3) c2 (fun h => by cases h) hp h
                · cases h
              · cases h
theorem Ag.step {s s2 : St} {ν ν' ν'' : Nu} (h1 : Ag s.own ν ν') (h2 : Ag s2.own ν' ν'') (hn : s.own.b.length ≤ s2.own.b.length) (hm : s.own.l.length ≤ s2.own.l.length) : Ag s.own ν ν'' := Agree.trans h1 h2 hn hm
theorem simOps_wp {E : Env} (HC : CallOk E) {cl : Callee} (hst : ClSt cl) {w0 : Base} (hok : ClOk E w0 cl) {n : Nat} {ops : Array Oper} (hG : GlobB E w0) {Q : Exit → Act → World → Prop} :
    ∀ (l : List Oper) (s s' : St), simOps E cl n ops false l s = some s' → Good s → Holds' s' → ∀ ν a w, TR n ν s a → WR w0 ν s.own s.mem w →
      (∀ ν' a' w', Ag s.own ν ν' → TR n ν' s' a' → WR w0 ν' s'.own s'.mem w' → Q .normal a' w') → wpList E.P ops Q l a w
  | [], s, s', h, _, _, ν, a, w, ht, hw, hQ => by
    simp only [simOps, Option.some.injEq] at h; subst h
    exact wpList_nil (hQ ν a w (Agree.refl _ _ _) ht hw)
  | o :: rest, s, s', h, hg, hh, ν, a, w, ht, hw, hQ => by
    unfold simOps at h
    refine wpList_step fun K hK => ?_
    split at h
    · cases h
    · rename_i s1 hwant
      obtain ⟨k1, k2, k3, k4⟩ := wantS_st hwant
      have g1 := k4 hg
      split at h
      · rename_i s2 hp
        obtain ⟨p1, p2, p3, p4, _⟩ := putS_keep hp
        obtain ⟨g2, l2⟩ := putS_good hp g1 trivial
        have hh1 : Holds' s1 := (l2.trans (simOps_st hst rest s2 s' g2 h).1).holds hh
        obtain ⟨hwn, ht1⟩ := wantS_ok hwant hh1 ht
        rw [if_neg (by rw [hwn]; simp)]
        exact hK _ _ (simOps_wp HC hst hok hG rest s2 s' h g2 hh ν _ w (tr_put hp rfl ht1) (by rw [p2, p3, k2, k3]; exact hw) (fun ν' a' w' ha => hQ ν' a' w' (by rw [p2, k2] at ha; exact ha)))
      · cases h
    · rename_i s1 hwant
      obtain ⟨k1, k2, k3, k4⟩ := wantS_st hwant
      have g1 := k4 hg
      have hw1 : WR w0 ν s1.own s1.mem w := by rw [k2, k3]; exact hw
      split at h
      · rename_i x s1' hnx
        simp only [cond_false] at hnx
        obtain ⟨f1, f2, f3⟩ := simNX_st hnx g1
        split at h
        · rename_i s2 hp
          obtain ⟨p1, p2, p3, p4, _⟩ := putS_keep hp
          obtain ⟨g2, l2⟩ := putS_good hp f2 f3
          have hh1 : Holds' s1' := (l2.trans (simOps_st hst rest s2 s' g2 h).1).holds hh
          obtain ⟨hwn, ht1⟩ := wantS_ok hwant (f1.holds hh1) ht
          rw [if_pos hwn]
          refine op_nx hnx hh1 ht1 hw1 fun v w' htm hv hw' => ?_
          exact hK _ _ (simOps_wp HC hst hok hG rest s2 s' h g2 hh ν _ w' (tr_put hp hv (ht1.of htm)) (by rw [p2, p3]; exact hw')
            (fun ν'' a' w'' ha' => hQ ν'' a' w'' (by rw [← k2]; exact ha'.mono (by rw [p2]; exact f1.len) (by rw [p2]; exact f1.llen))))
        · cases h
      split at h
      · rename_i x own q hfx
        simp only [cond_false] at hfx
        obtain ⟨f1, f2, f3, f4, f5, f6⟩ := simFX_st hfx g1
        split at h
        · rename_i s2 hp
          obtain ⟨p1, p2, p3, p4, _⟩ := putS_keep hp
          have gm : Good { s1 with own := own, mem := true, obl := more s1 q } := g1.grow rfl rfl rfl f2 f3 f6
          obtain ⟨g2, l2⟩ := putS_good hp gm f1
          obtain ⟨hq, hh1⟩ := more_q ((l2.trans (simOps_st hst rest s2 s' g2 h).1).holds hh)
          obtain ⟨hwn, ht1⟩ := wantS_ok hwant hh1 ht
          rw [if_pos hwn]
          refine op_fx hG hfx hq g1 ht1 hw1 fun ν' v w' ha hv hw' => ?_
          exact hK _ _ (simOps_wp HC hst hok hG rest s2 s' h g2 hh ν' _ w' (tr_put hp hv (ht1.move g1 ha rfl)) (by rw [p2, p3]; exact hw')
            (fun ν'' a' w'' ha' => hQ ν'' a' w'' (by rw [← k2]; exact Agree.trans ha ha' (by rw [p2]; exact f2) (by rw [p2]; exact f3))))
        · cases h
      · split at h
        · rename_i x c q hro
          split at h
          · rename_i s2 hp
            obtain ⟨p1, p2, p3, p4, _⟩ := putS_keep hp
            have gm : Good { s1 with mem := s1.mem || c, obl := more s1 q } := ⟨g1.lo, g1.llo, g1.ok, g1.okb⟩
            have hx := simRO_st hro g1
            obtain ⟨g2, l2⟩ := putS_good hp gm hx
            obtain ⟨hq, hh1⟩ := more_q ((l2.trans (simOps_st hst rest s2 s' g2 h).1).holds hh)
            obtain ⟨hwn, ht1⟩ := wantS_ok hwant hh1 ht
            rw [if_pos hwn]
            refine op_ro HC hG hro hq g1 ht1 hw1 fun v w' hv hw' => ?_
            exact hK _ _ (simOps_wp HC hst hok hG rest s2 s' h g2 hh ν _ w' (tr_put hp hv (ht1.of rfl)) (by rw [p2, p3]; exact hw')
              (fun ν'' a' w'' ha' => hQ ν'' a' w'' (by rw [p2] at ha'; rw [← k2]; exact ha')))
          · cases h
        · split at h
          · cases h
          · rename_i f args hca
            have hok1 : ∀ y ∈ args, okV s1.own.b.length s1.own.l.length y := callArgs_okV hca g1
            simp only [cond_false] at h
            split at h
            · rename_i x s2 hc
              obtain ⟨c1, c2, c3⟩ := hst f args s1 _ s2 g1.lo g1.llo g1.okb hok1 hc
              split at h
              · rename_i s3 hp
                obtain ⟨p1, p2, p3, p4, _⟩ := putS_keep hp
                have gm : Good { s1 with own := s2.own, mem := s2.mem, orc := s2.orc, obl := s2.obl } := g1.grow rfl rfl rfl c1.len c1.llen c3
                obtain ⟨g3, l3⟩ := putS_good hp gm c2
                have hh2 : Holds' s2 := fun p hp' => ((l3.trans (simOps_st hst rest s3 s' g3 h).1).holds hh) p hp'
                have hh1 : Holds' s1 := c1.holds hh2
                obtain ⟨hwn, ht1⟩ := wantS_ok hwant hh1 ht
                rw [if_pos hwn]
                obtain ⟨vs, hvs, hrun⟩ := callArgs_run (P := E.P) hca ht1
                obtain ⟨hf, hcalls⟩ := hok f args s1 x s2 g1.lo g1.llo hok1 hc hh2 ν w vs hvs hw1
                unfold Oper.wp
                rw [hrun hf w, Oper.upon_enter]
                refine hcalls.mono fun e w' ⟨ν', v, ha, he, hv, hw'⟩ => ?_
                subst he
                exact hK _ _ (simOps_wp HC hst hok hG rest s3 s' h g3 hh ν' _ w' (tr_put hp hv (ht1.move g1 ha rfl)) (by rw [p2, p3]; exact hw')
                  (fun ν'' a' w'' ha' => hQ ν'' a' w'' (by rw [← k2]; exact Agree.trans ha ha' (by rw [p2]; exact c1.len) (by rw [p2]; exact c1.llen))))
              · cases h
            · cases h
theorem simOps_quiet {E : Env} (HC : CallOk E) {cl : Callee} (hst : ClSt cl) {w0 : Base} (hok : ClOk E w0 cl) {n : Nat} {ops : Array Oper} (hG : GlobB E w0) {ν : Nu} {own : Mem} {Q : Act → Prop} :
    ∀ (l : List Oper) (s s' : St), simOps E cl n ops true l s = some s' → Good s → Holds' s' → s.own = own → s.mem = true → ∀ a, TR n ν s a →
      (s'.mem = true → ∀ a', TR n ν s' a' → Q a') → wpQuiet E.P ops (fun w => WR w0 ν own true w) Q l a
  | [], s, s', h, _, _, h1, h2, a, ht, hQ => by
    simp only [simOps, Option.some.injEq] at h; subst h
    exact wpQuiet_nil (hQ h2 a ht)
  | o :: rest, s, s', h, hg, hh, h1, h2, a, ht, hQ => by
    unfold simOps at h
    refine wpQuiet_step fun K hK => ?_
    split at h
    · cases h
    · rename_i s1 hwant
      obtain ⟨k1, k2, k3, k4⟩ := wantS_st hwant
      have g1 := k4 hg
      split at h
      · rename_i s2 hp
        obtain ⟨p1, p2, p3, p4, _⟩ := putS_keep hp
        obtain ⟨g2, l2⟩ := putS_good hp g1 trivial
        have hh1 : Holds' s1 := (l2.trans (simOps_st hst rest s2 s' g2 h).1).holds hh
        obtain ⟨hwn, ht1⟩ := wantS_ok hwant hh1 ht
        rw [if_neg (by rw [hwn]; simp)]
        exact hK _ (simOps_quiet HC hst hok hG rest s2 s' h g2 hh (by rw [p2, k2, h1]) (by rw [p3, k3, h2]) _ (tr_put hp rfl ht1) hQ)
      · cases h
    · rename_i s1 hwant
      obtain ⟨k1, k2, k3, k4⟩ := wantS_st hwant
      have g1 := k4 hg
      have e1 : s1.own = own := k2.trans h1
      split at h
      · rename_i x s1' hnx
        cases hnx
      split at h
      · rename_i x own' q hfx
        cases hfx
      · split at h
        · rename_i x c q hro
          split at h
          · rename_i s2 hp
            obtain ⟨p1, p2, p3, p4, _⟩ := putS_keep hp
            have gm : Good { s1 with mem := s1.mem || c, obl := more s1 q } := ⟨g1.lo, g1.llo, g1.ok, g1.okb⟩
            have hx := simRO_st hro g1
            obtain ⟨g2, l2⟩ := putS_good hp gm hx
            obtain ⟨hq, hh1⟩ := more_q ((l2.trans (simOps_st hst rest s2 s' g2 h).1).holds hh)
            obtain ⟨hwn, ht1⟩ := wantS_ok hwant hh1 ht
            rw [if_pos hwn]
            obtain ⟨v, hv, hdo⟩ := simRO_ok (mem := true) hro hq ht1 hG hx
            refine ⟨v, fun w hw => ?_, hK _ (simOps_quiet HC hst hok hG rest s2 s' h g2 hh (by rw [p2]; exact e1) (by rw [p3]; show (s1.mem || c) = true; rw [k3, h2]; rfl) _ (tr_put hp hv (ht1.of rfl)) hQ)⟩
            unfold Oper.quietAt
            rcases hdo with ⟨rfl, hd⟩ | ⟨rfl, f, args, hf, hd⟩
            · rw [hd w (by rw [e1]; exact hw)]; exact ⟨rfl, rfl⟩
            · rw [hd w]
              exact ⟨rfl, (HC.1 f args _ hf w (hG.below hw.below)).mono fun e w' ⟨he, hb⟩ => ⟨he, hw.grown hb⟩⟩
          · cases h
        · split at h
          · cases h
          · rename_i f args hca
            have hok1 : ∀ y ∈ args, okV s1.own.b.length s1.own.l.length y := callArgs_okV hca g1
            simp only [cond_true] at h
            split at h
            · rename_i fl x s2 hc
              obtain ⟨c1, c2, _⟩ := hst f args { s1 with lo := s1.own.b.length, llo := s1.own.l.length } _ s2 (Nat.le_refl _) (Nat.le_refl _) g1.okb hok1 hc
              split at h
              · rename_i s3 hp
                obtain ⟨p1, p2, p3, p4, _⟩ := putS_keep hp
                have gm : Good { s1 with mem := true, orc := s2.orc, obl := s2.obl } := ⟨g1.lo, g1.llo, g1.ok, g1.okb⟩
                obtain ⟨g3, l3⟩ := putS_good hp gm trivial
                have hh2 : Holds' s2 := fun p hp' => ((l3.trans (simOps_st hst rest s3 s' g3 h).1).holds hh) p hp'
                have hh1 : Holds' s1 := fun p hp' => hh2 p (c1.ext p hp')
                obtain ⟨hwn, ht1⟩ := wantS_ok hwant hh1 ht
                rw [if_pos hwn]
                obtain ⟨vs, hvs, hrun⟩ := callArgs_run (P := E.P) hca ht1
                refine ⟨x, fun w hw => ?_, hK _ (simOps_quiet HC hst hok hG rest s3 s' h g3 hh (by rw [p2]; exact e1) (by rw [p3]) _ (tr_put hp rfl (ht1.of rfl)) hQ)⟩
                obtain ⟨hf, hcalls⟩ := hok f args { s1 with lo := s1.own.b.length, llo := s1.own.l.length } _ s2 (Nat.le_refl _) (Nat.le_refl _) hok1 hc hh2 ν w vs hvs (by show WR w0 ν s1.own s1.mem w; rw [e1, k3, h2]; exact hw)
                unfold Oper.quietAt
                rw [hrun hf w]
                refine ⟨rfl, hcalls.mono fun e w' ⟨ν', v, ha, he, hv, hw'⟩ => ⟨by rw [he, (show v = x from hv)], ?_⟩⟩
                have := hw'.restrict (own := s1.own) g1.okb ha c1.len (fun i hi => c1.keep i hi) (fun i hi => c1.lkeep i hi)
                rw [e1] at this
                exact this
              · cases h
            · cases h
end Go.Proofs.YtiajbijbhhpllaaDoor.S2
namespace Go.Proofs.YtiajbijbhhpllaaDoor.S2
open Go Go.RowKit Sim
theorem askC_ok {n : Nat} {s s1 : St} {c : Operand} {fl : List Bool} {b t : Bool} (hev : ev s c = .inl (fl, (.bool b))) (h : askC s c fl b = (t, s1)) :
    Le s s1 ∧ s1.own = s.own ∧ s1.mem = s.mem ∧ (Good s → Good s1) ∧ (Holds' s1 → b = t ∧ ∀ ν a, TR n ν s a → TR n ν s1 a) := by
  obtain ⟨a1, a2, a3, a4, a5, a6⟩ := ask_ok s fl b
  unfold askC at h
  split at h
  · rename_i d
    simp only [Prod.mk.injEq] at h
    obtain ⟨rfl, rfl⟩ := h
    refine ⟨(ask_le s fl b).trans (know_le _ _ _), a4, a5, fun hg => know_good (ask_good hg fl b) _ _, fun hh => ⟨(a2 hh).symm, fun ν a ht => (ht.ask fl b).know ?_⟩⟩
    rw [a2 hh]
    exact eval_v ht hev
  · have e1 : (ask s fl b).2 = s1 := by rw [h]
    have e2 : (ask s fl b).1 = t := by rw [h]
    rw [← e1, ← e2]
    exact ⟨ask_le s fl b, a4, a5, fun hg => ask_good hg fl b, fun hh => ⟨(a2 hh).symm, fun ν a ht => ht.ask fl b⟩⟩
def RunSt (ih : Runner) : Prop := ∀ n c s x s', Good s → ih n c s = some (x, s') → Le s s' ∧ Good s'
def RunOk (E : Env) (w0 : Base) (k : Nat) (ih : Runner) : Prop := ∀ n c s x s', Good s → ih n c s = some (x, s') → Holds' s' → ∀ Q ν a w, TR n ν s a → WR w0 ν s.own s.mem w →
  (∀ ν' a' w', Ag s.own ν ν' → TR n ν' s' a' → WR w0 ν' s'.own s'.mem w' → Q x.toExit a' w') → Piece E.P k Q a w c
theorem resV_st {P : Program} {s : St} {r : ResultVar} {x : SV} (h : resV P s r = some x) (hg : Good s) : okV s.own.b.length s.own.l.length x ∧ x ≠ .any := by
  unfold resV at h
  split at h
  · rename_i t
    split at h
    · cases h
    · rename_i hne
      simp only [Option.some.injEq] at h
      subst h
      exact ⟨look_ok hg.ok, fun e => hne e⟩
  · split at h
    · rename_i i off hl
      split at h
      · rename_i b hb
        exact ⟨loadS_okV h (hg.okb i b (getB_some hb).1), (loadS_ok h ⟨fun _ => 0, fun _ => undef⟩).1⟩
      · cases h
    · cases h
theorem is_conc {ν : Nu} {x : SV} (h : x ≠ .any) : Is ν x (conc ν x) := by
  cases x <;> first | rfl | exact absurd rfl h
theorem resV_ok {E : Env} {n : Nat} {w0 : Base} {w : World} {ν : Nu} {s : St} {a : Act} {r : ResultVar} {x : SV} (h : resV E.P s r = some x) (ht : TR n ν s a) (hw : WR w0 ν s.own s.mem w) :
    ∃ v, Is ν x v ∧ (resM a.tmps r).run E.P w = .ok v w := by
  unfold resV at h
  split at h
  · rename_i t
    split at h
    · cases h
    · simp only [Option.some.injEq] at h
      subst h
      exact ⟨_, ht.tm t, by simp only [resM, Sem.run_pure]⟩
  · rename_i p t
    have h0 := ht.tm p
    split at h
    · rename_i i off hl
      split at h
      · rename_i b hb
        obtain ⟨hne, hv⟩ := loadS_ok h ν
        rw [hl] at h0
        have h0 : a.tmps.getD p undef = .pointer (some ⟨ν.l i, off, none⟩) := h0
        have := run_loadB hv w (cells_of_blk ((hw.blk i b (getB_some hb).1).1.cells (getB_some hb).2))
        exact ⟨_, is_conc hne, by simp only [resM, h0, asAddr, Sem.run_bind, Sem.run_pure, Result.andThen_ok, this]⟩
      · cases h
    · cases h
theorem tupL_st {P : Program} {s : St} (hg : Good s) : ∀ (rs : List ResultVar) (l : List TV), tupL (rs.map (resV P s)) = some l → ∀ x ∈ l, okT s.own.b.length s.own.l.length x
  | [], l, h => by simp only [List.map_nil, tupL, Option.some.injEq] at h; subst h; intro x hx; cases hx
  | r :: rs, l, h => by
    rw [List.map_cons] at h
    cases hr : resV P s r with
    | none => rw [hr] at h; simp [tupL] at h
    | some y =>
      rw [hr] at h
      simp only [tupL] at h
      split at h
      · rename_i y' l' hy hl
        simp only [Option.some.injEq] at h
        subst h
        intro x hx
        rcases List.mem_cons.mp hx with rfl | hx
        · have := (resV_st hr hg).1
          unfold tupOf at hy
          split at hy <;> simp at hy
          all_goals (subst hy; first | trivial | exact this)
        · exact tupL_st hg rs l' hl x hx
      · cases h
theorem mkTup_ok (l : List TV) (ν : Nu) : Is ν (mkTup l) (.tuple (l.map (concT ν)).toArray) := by
  have key : ∀ (l : List TV) f vs, plainL l = some (f, vs) → l.map (concT ν) = vs := by
    intro l
    induction l with
    | nil => intro f vs h; simp [plainL] at h; simp [h.2]
    | cons x r ih =>
      intro f vs h
      cases x with
      | inl p =>
        unfold plainL at h
        split at h
        · rename_i g l' hp
          simp only [Option.some.injEq, Prod.mk.injEq] at h
          rw [← h.2, List.map_cons, ih _ _ hp]; rfl
        · cases h
      | inr k => simp [plainL] at h
      | st cs => simp [plainL] at h
  unfold mkTup
  split
  · rename_i f vs hp
    rw [key _ _ _ hp]; rfl
  · rfl
theorem mkTup_st {n m : Nat} {l : List TV} (h : ∀ x ∈ l, okT n m x) : okV n m (mkTup l) := by
  unfold mkTup
  split
  · trivial
  · exact h
theorem simRes_st {P : Program} {fn : Func} {s : St} {x : SV} (h : simRes P fn s = some x) (hg : Good s) : okV s.own.b.length s.own.l.length x := by
  unfold simRes at h
  split at h
  · exact (resV_st h hg).1
  · split at h
    · rename_i l hl
      simp only [Option.some.injEq] at h
      subst h
      exact mkTup_st (tupL_st hg _ l hl)
    · cases h
theorem tupL_ok {E : Env} {n : Nat} {w0 : Base} {w : World} {ν : Nu} {s : St} {a : Act} (ht : TR n ν s a) (hw : WR w0 ν s.own s.mem w) : ∀ (rs : List ResultVar) (l : List TV), tupL (rs.map (resV E.P s)) = some l → (rs.mapM (resM a.tmps)).run E.P w = .ok (l.map (concT ν)) w
  | [], l, h => by simp only [List.map_nil, tupL, Option.some.injEq] at h; subst h; simp
  | r :: rs, l, h => by
    rw [List.map_cons] at h
    cases hr : resV E.P s r with
    | none => rw [hr] at h; simp [tupL] at h
    | some y =>
      rw [hr] at h
      simp only [tupL] at h
      split at h
      · rename_i y' l' hy hl
        simp only [Option.some.injEq] at h
        subst h
        obtain ⟨v, hv, hrun⟩ := resV_ok hr ht hw
        have ih := tupL_ok ht hw rs l' hl
        have e : v = concT ν y' := by
          unfold tupOf at hy
          split at hy <;> simp at hy
          · subst hy; exact hv
          · subst hy; exact hv
          · subst hy; exact hv
        simp only [List.mapM_cons, Sem.run_bind, hrun, Result.andThen_ok, ih, Sem.run_pure, List.map_cons, e]
      · cases h
theorem simRes_ok {E : Env} {n : Nat} {w0 : Base} {w : World} {ν : Nu} {s : St} {a : Act} {fn : Func} {x : SV} (h : simRes E.P fn s = some x) (ht : TR n ν s a) (hw : WR w0 ν s.own s.mem w) :
    ∃ v, Is ν x v ∧ (results fn a.tmps).run E.P w = .ok v w := by
  unfold simRes at h
  split at h
  · rename_i r hr
    have hl : fn.results = #[r] := by rw [← Array.toArray_toList (xs := fn.results), hr]
    obtain ⟨v, hv, h1⟩ := resV_ok h ht hw
    refine ⟨v, hv, ?_⟩
    rw [results_resM, hl]
    simp only [List.mapM_toArray, List.mapM_cons, List.mapM_nil, Sem.run_bind, Sem.run_map, h1, Result.andThen_ok, Sem.run_pure]
    rfl
  · rename_i hne
    split at h
    · rename_i l hl
      simp only [Option.some.injEq] at h
      subst h
      refine ⟨_, mkTup_ok l ν, ?_⟩
      have h1 := tupL_ok ht hw _ l hl
      have hlen : ∀ (rs : List (Option SV)) l, tupL rs = some l → l.length = rs.length := by
        intro rs
        induction rs with
        | nil => intro l h; simp [tupL] at h; subst h; rfl
        | cons y r ih =>
          intro l h
          cases y with
          | none => simp [tupL] at h
          | some y =>
            simp only [tupL] at h
            split at h
            · rename_i _ l' _ hl'
              simp only [Option.some.injEq] at h
              subst h
              simp [ih l' hl']
            · cases h
      have hl1 := hlen _ _ hl
      rw [results_resM]
      have e : fn.results.mapM (resM a.tmps) = (do let l ← fn.results.toList.mapM (resM a.tmps); pure l.toArray) := by
        rw [← Array.toArray_toList (xs := fn.results), List.mapM_toArray]; simp
      rw [e]
      simp only [Sem.run_bind, h1, Result.andThen_ok, Sem.run_pure]
      have hsz : ¬ (l.map (concT ν)).toArray.size = 1 := by
        intro h1
        simp only [List.size_toArray, List.length_map] at h1
        rw [hl1, List.length_map] at h1
        match hm : fn.results.toList, h1 with
        | [r], _ => exact hne r hm
      simp only [hsz, dite_false]
    · cases h
end Go.Proofs.YtiajbijbhhpllaaDoor.S2
namespace Go.Proofs.YtiajbijbhhpllaaDoor.S2
open Go Go.RowKit Sim
theorem openV_is {ν : Nu} {b : Bool} {x : SV} {v : Value} (h : Is ν x v) : Is ν (openV b x) v := by
  cases x with
  | inl p => cases b <;> exact h
  | _ => exact h
theorem BOk.of {B : Nat} {ν ν' : Nu} {w : World} {a : Nat} {b b0 : Blk} {o : Bool} (h : BOk B ν w a b0) (h1 : concB ν' b.cells = concB ν b0.cells) (h2 : b.elem = b0.elem) (h3 : b.kd = openK o b0.kd) : BOk B ν' w a b := by
  unfold BOk at *
  rw [h3]
  cases hk : b0.kd with
  | cells =>
    rw [hk] at h
    show w.heap[a]? = some (.cells (concB ν' b.cells).toArray b.elem (0, 0))
    rw [h1, h2]; exact h
  | iter fl s p => rw [hk] at h; exact h
  | bld fl T e acc => rw [hk] at h; exact h
  | shut =>
    rw [hk] at h
    have hl : b.cells.length = b0.cells.length := by have := congrArg List.length h1; simpa [concB] using this
    show w.heap[a]? = some (.cells (concB ν' b.cells).toArray b.elem (b.cells.length, b.cells.length + 1))
    rw [h1, h2, hl]; exact h
  | map T l => rw [hk] at h; exact h
  | mapV T l => rw [hk] at h; exact h
theorem posN_ok : ∀ (l : List Nat) (i k : Nat), posN l i = some k → l[k]? = some i
  | [], i, k, h => by simp [posN] at h
  | x :: r, i, k, h => by
    unfold posN at h
    cases hb : Nat.beq x i
    · rw [hb] at h
      simp only [cond_false] at h
      split at h
      · rename_i k' hk
        simp only [Option.some.injEq] at h
        subst h
        exact posN_ok r i k' hk
      · cases h
    · rw [hb] at h
      simp only [cond_true, Option.some.injEq] at h
      subst h
      rw [Nat.eq_of_beq_eq_true hb]; rfl
theorem takeL_get {α : Type} {l : List α} : ∀ (is : List Nat) (t : List α), takeL l is = some t → t.length = is.length ∧ ∀ (k i : Nat), is[k]? = some i → t[k]? = l[i]?
  | [], t, h => by simp only [takeL, Option.some.injEq] at h; subst h; exact ⟨rfl, fun k i h => by simp at h⟩
  | i :: r, t, h => by
    unfold takeL at h
    split at h
    · rename_i x t' hx ht
      simp only [Option.some.injEq] at h
      subst h
      obtain ⟨h1, h2⟩ := takeL_get r t' ht
      refine ⟨by simp [h1], fun k j hk => ?_⟩
      cases k with
      | zero => simp at hk; subst hk; simp [hx]
      | succ k => simp at hk ⊢; exact h2 k j hk
    · cases h
theorem nodupB_ok : ∀ (l : List Nat), nodupB l = true → ∀ (i j x : Nat), l[i]? = some x → l[j]? = some x → i = j
  | [], _, i, j, x, hi, _ => by simp at hi
  | y :: r, h, i, j, x, hi, hj => by
    simp only [nodupB, Bool.and_eq_true, Bool.not_eq_true', List.any_eq_false] at h
    have hn : ∀ z ∈ r, z ≠ y := fun z hz e => h.1 z hz (by rw [e]; simp)
    cases i with
    | zero =>
      cases j with
      | zero => rfl
      | succ j =>
        simp at hi hj
        subst hi
        exact absurd rfl (hn _ (List.mem_of_getElem? hj))
    | succ i =>
      cases j with
      | zero =>
        simp at hi hj
        subst hj
        exact absurd rfl (hn _ (List.mem_of_getElem? hi))
      | succ j =>
        simp at hi hj
        rw [nodupB_ok r h.2 i j x hi hj]
theorem look_map (f : Nat → SV) (t : Nat) : ∀ (ts : List Nat), look (ts.map fun t => (t, f t)) t = .any ∨ look (ts.map fun t => (t, f t)) t = f t
  | [] => .inl rfl
  | t0 :: r => by
    show look ((t0, f t0) :: r.map fun t => (t, f t)) t = .any ∨ look ((t0, f t0) :: r.map fun t => (t, f t)) t = f t
    unfold look
    cases hb : Nat.beq t0 t
    · exact look_map f t r
    · rw [Nat.eq_of_beq_eq_true hb]; exact .inr rfl
def pickNu (p : Pick) (ν : Nu) : Nu := ⟨fun i => ν.l ((p.bs[i]?).getD 0), fun k => ν.v ((p.ls[k]?).getD 0)⟩
theorem pickC_ok {p : Pick} {ν : Nu} {c c' : CV} (hc : pickC p c = some c') : concC (pickNu p ν) c' = concC ν c ∧ okC p.bs.length p.ls.length c' := by
  unfold pickC at hc
  split at hc
  · simp only [Option.some.injEq] at hc; subst hc; exact ⟨rfl, trivial⟩
  · split at hc
    · rename_i i off _ i' hp
      simp only [Option.some.injEq] at hc; subst hc
      have hl := posN_ok _ _ _ hp
      have e : (pickNu p ν).l i' = ν.l i := by show ν.l ((p.bs[i']?).getD 0) = _; rw [hl]; rfl
      exact ⟨by simp only [concC, e], lt_of_some_list hl⟩
    · cases hc
  · split at hc
    · rename_i k _ k' hp
      simp only [Option.some.injEq] at hc; subst hc
      have hl := posN_ok _ _ _ hp
      exact ⟨by show ν.v ((p.ls[k']?).getD 0) = _; rw [hl]; rfl, lt_of_some_list hl⟩
    · cases hc
theorem pickCL_ok {p : Pick} {ν : Nu} : ∀ (l l' : List CV), pickCL p l = some l' → l'.map (concC (pickNu p ν)) = l.map (concC ν) ∧ ∀ x ∈ l', okC p.bs.length p.ls.length x
  | [], l', h => by simp only [pickCL, Option.some.injEq] at h; subst h; exact ⟨rfl, fun x hx => by cases hx⟩
  | c :: r, l', h => by
    unfold pickCL at h
    split at h
    · rename_i y t hy ht
      simp only [Option.some.injEq] at h; subst h
      obtain ⟨h1, h2⟩ := pickC_ok (ν := ν) hy
      obtain ⟨h3, h4⟩ := pickCL_ok (ν := ν) r t ht
      refine ⟨by rw [List.map_cons, List.map_cons, h1, h3], fun x hx => ?_⟩
      rcases List.mem_cons.mp hx with rfl | hx
      · exact h2
      · exact h4 x hx
    · cases h
theorem pickV_ok (p : Pick) (ν : Nu) (x : SV) : pickV p x = .any ∨ (x ≠ .any ∧ conc (pickNu p ν) (pickV p x) = conc ν x ∧ okV p.bs.length p.ls.length (pickV p x)) := by
  cases x with
  | inl q => exact .inr ⟨by simp, rfl, trivial⟩
  | inr q =>
    obtain ⟨i, off, r⟩ := q
    unfold pickV
    simp only
    split
    · rename_i i' hp
      have hl := posN_ok _ _ _ hp
      have e : (pickNu p ν).l i' = ν.l i := by show ν.l ((p.bs[i']?).getD 0) = _; rw [hl]; rfl
      rcases r with _ | ⟨len, cap⟩
      · exact .inr ⟨by simp, by simp only [conc, e], lt_of_some_list hl⟩
      · exact .inr ⟨by simp, by simp only [conc, e], lt_of_some_list hl⟩
    · exact .inl rfl
  | c k =>
    unfold pickV
    simp only
    split
    · rename_i k' hp
      have hl := posN_ok _ _ _ hp
      have e : (pickNu p ν).v k' = ν.v k := by show ν.v ((p.ls[k']?).getD 0) = _; rw [hl]; rfl
      exact .inr ⟨by simp, e, lt_of_some_list hl⟩
    · exact .inl rfl
  | lp k j o sz =>
    unfold pickV
    simp only
    split
    · rename_i k' hp
      have hl := posN_ok _ _ _ hp
      have e : (pickNu p ν).v k' = ν.v k := by show ν.v ((p.ls[k']?).getD 0) = _; rw [hl]; rfl
      exact .inr ⟨by simp, by simp only [conc, e], lt_of_some_list hl⟩
    · exact .inl rfl
  | tp l => exact .inl rfl
  | fn f fs cs =>
    unfold pickV
    simp only
    split
    · rename_i fs' cs' hfs hcs
      obtain ⟨h1, h2⟩ := pickCL_ok (ν := ν) fs fs' hfs
      obtain ⟨h3, h4⟩ := pickCL_ok (ν := ν) cs cs' hcs
      exact .inr ⟨by simp, by simp only [conc, h1, h3], h2, h4⟩
    · exact .inl rfl
  | st cs =>
    unfold pickV
    simp only
    split
    · rename_i cs' hcs
      obtain ⟨h1, h2⟩ := pickCL_ok (ν := ν) cs cs' hcs
      exact .inr ⟨by simp, by simp only [conc, h1], h2⟩
    · exact .inl rfl
  | sub k lo n sz =>
    unfold pickV
    simp only
    split
    · rename_i k' hp
      have hl := posN_ok _ _ _ hp
      have e : (pickNu p ν).v k' = ν.v k := by show ν.v ((p.ls[k']?).getD 0) = _; rw [hl]; rfl
      exact .inr ⟨by simp, by simp only [conc, e], lt_of_some_list hl⟩
    · exact .inl rfl
  | mp i =>
    unfold pickV
    simp only
    split
    · rename_i i' hp
      have hl := posN_ok _ _ _ hp
      have e : (pickNu p ν).l i' = ν.l i := by show ν.l ((p.bs[i']?).getD 0) = _; rw [hl]; rfl
      exact .inr ⟨by simp, by simp only [conc, e], lt_of_some_list hl⟩
    · exact .inl rfl
  | rp v e j o => exact .inr ⟨by simp, rfl, trivial⟩
  | ia i off len n =>
    unfold pickV
    simp only
    split
    · rename_i i' hp
      have hl := posN_ok _ _ _ hp
      have e : (pickNu p ν).l i' = ν.l i := by show ν.l ((p.bs[i']?).getD 0) = _; rw [hl]; rfl
      exact .inr ⟨by simp, by simp only [conc, e], lt_of_some_list hl⟩
    · exact .inl rfl
  | any => exact .inl rfl
theorem pickV_is (p : Pick) {ν : Nu} {x : SV} {v : Value} (h : Is ν x v) : Is (pickNu p ν) (pickV p x) v := by
  rcases pickV_ok p ν x with h0 | ⟨h1, h2, _⟩
  · rw [h0]; trivial
  · have e : v = conc ν x := by cases x <;> first | exact h | exact absurd rfl h1
    rw [e, ← h2]
    cases hy : pickV p x with
    | any => trivial
    | _ => rfl
theorem openV_conc (ν : Nu) (o : Bool) (x : SV) : conc ν (openV o x) = conc ν x := by
  cases x with
  | inl p => cases o <;> rfl
  | _ => rfl
theorem openV_ok {n m : Nat} {o : Bool} {x : SV} (h : okV n m x) : okV n m (openV o x) := by
  cases x with
  | inl p => cases o <;> trivial
  | _ => exact h
theorem pickCells_ok {ν : Nu} (p : Pick) {o : Bool} : ∀ (cs cs' : List SV), pickCells p o cs = some cs' → concB (pickNu p ν) cs' = concB ν cs ∧ ∀ c ∈ cs', okV p.bs.length p.ls.length c
  | [], cs', h => by simp only [pickCells, Option.some.injEq] at h; subst h; exact ⟨rfl, fun c hc => by cases hc⟩
  | x :: r, cs', h => by
    unfold pickCells at h
    split at h
    · cases h
    · rename_i y hne
      split at h
      · rename_i l hl
        simp only [Option.some.injEq] at h
        subst h
        obtain ⟨h1, h2⟩ := pickCells_ok (ν := ν) p r l hl
        rcases pickV_ok p ν x with h0 | ⟨_, h3, h4⟩
        · exact absurd h0 hne
        · refine ⟨?_, fun c hc => ?_⟩
          · show conc (pickNu p ν) (openV o (pickV p x)) :: concB (pickNu p ν) l = conc ν x :: concB ν r
            rw [openV_conc, h3, h1]
          · rcases List.mem_cons.mp hc with rfl | hc
            · exact openV_ok h4
            · exact h2 c hc
      · cases h
theorem pickBs_len (p : Pick) : ∀ (bs bs' : List Blk) (n : Nat), pickBs p n bs = some bs' → bs'.length = bs.length
  | [], bs', n, h => by simp only [pickBs, Option.some.injEq] at h; subst h; rfl
  | b :: r, bs', n, h => by
    unfold pickBs at h
    split at h
    · rename_i cs l hc hl
      simp only [Option.some.injEq] at h
      subst h
      simp [pickBs_len p r l _ hl]
    · cases h
theorem pickBs_get (p : Pick) : ∀ (bs bs' : List Blk) {n : Nat}, pickBs p n bs = some bs' → ∀ (i : Nat) (b : Blk), bs'[i]? = some b → ∃ b0, bs[i]? = some b0 ∧ pickCells p (p.opb.any fun y => Nat.beq y (n + i)) b0.cells = some b.cells ∧ b.elem = b0.elem ∧ ∃ o, b.kd = openK o b0.kd
  | [], bs', n, h, i, b, hi => by simp only [pickBs, Option.some.injEq] at h; subst h; simp at hi
  | b0 :: r, bs', n, h, i, b, hi => by
    unfold pickBs at h
    split at h
    · rename_i cs l hc hl
      simp only [Option.some.injEq] at h
      subst h
      cases i with
      | zero => simp at hi; subst hi; exact ⟨b0, rfl, hc, rfl, _, rfl⟩
      | succ i =>
        simp at hi
        obtain ⟨b1, k1, k2, k3⟩ := pickBs_get p r l hl i b hi
        exact ⟨b1, by simpa using k1, by rw [show n + (i + 1) = n + 1 + i by omega]; exact k2, k3⟩
    · cases h
theorem pickM_ok {p : Pick} {own m : Mem} (h : pickM p own = some m) {w0 : Base} {w : World} {ν : Nu} {mem : Bool} (hw : WR w0 ν own mem w) : WR w0 (pickNu p ν) m true w := by
  unfold pickM at h
  split at h
  · rename_i bb l hbb hl
    unfold takeB at hbb
    split at hbb
    rotate_left
    · cases hbb
    rename_i b hb
    have hpb := hbb
    have hpl := pickBs_len p _ _ _ hbb
    cases hd : (nodupB p.bs && nodupB p.ls)
    · rw [hd] at h; cases h
    · rw [hd] at h
      simp only [cond_true, Option.some.injEq] at h
      subst h
      simp only [Bool.and_eq_true] at hd
      obtain ⟨b1, b2⟩ := takeL_get _ _ hb
      obtain ⟨l1, l2⟩ := takeL_get _ _ hl
      let ν' : Nu := pickNu p ν
      have hbi : ∀ i, i < b.length → ∃ i0, p.bs[i]? = some i0 ∧ ν'.l i = ν.l i0 ∧ b[i]? = own.b[i0]? := fun i hi => by
        have : i < p.bs.length := by omega
        refine ⟨p.bs[i], by simp [this], ?_, b2 i _ (by simp [this])⟩
        show ν.l ((p.bs[i]?).getD 0) = _
        simp [this]
      have hli : ∀ k, k < l.length → ∃ k0, p.ls[k]? = some k0 ∧ ν'.v k = ν.v k0 ∧ l[k]? = own.l[k0]? := fun k hk => by
        have : k < p.ls.length := by omega
        refine ⟨p.ls[k], by simp [this], ?_, l2 k _ (by simp [this])⟩
        show ν.v ((p.ls[k]?).getD 0) = _
        simp [this]
      have hblt : ∀ i i0, p.bs[i]? = some i0 → i < b.length := fun i i0 h => by rw [b1]; exact lt_of_some_list h
      have hown : ∀ i, i < b.length → ∃ i0, p.bs[i]? = some i0 ∧ ν'.l i = ν.l i0 ∧ i0 < own.b.length := fun i hi => by
        obtain ⟨i0, h1, h2, h3⟩ := hbi i hi
        refine ⟨i0, h1, h2, ?_⟩
        rw [List.getElem?_eq_getElem hi] at h3
        exact lt_of_some_list h3.symm
      refine ⟨hw.below, fun i blk hi => ?_, ?_, fun i j hi hj he => ?_, fun k e hk hdead => ?_, fun k e hk hdead ho g hg => ?_, (fun h => by cases h), ⟨hw.fr.here, fun i hi => by
        obtain ⟨i0, h1, h2, h3⟩ := hown i (by rw [← hpl]; exact hi)
        rw [h2]; exact hw.fr.offb i0 h3, fun k e hk hdead ho g hg => by
        obtain ⟨k0, h1, h2, h3⟩ := hli k (lt_of_some_list hk)
        rw [h2] at hg
        exact hw.fr.offl k0 e (by rw [← h3]; exact hk) hdead ho g hg⟩⟩
      · obtain ⟨i0, h1, h2, h3⟩ := hbi i (by rw [← hpl]; exact lt_of_some_list hi)
        obtain ⟨b0, k1, k2, k3⟩ := pickBs_get p _ _ hpb i blk hi
        obtain ⟨k4, k5⟩ := pickCells_ok (ν := ν) p _ _ k2
        rw [h2]
        obtain ⟨m1, m2⟩ := hw.blk i0 b0 (by rw [← h3]; exact k1)
        exact ⟨m1.of k4 k3.1 k3.2.choose_spec, m2⟩
      · intro i blk hi
        obtain ⟨b0, k1, k2, k3⟩ := pickBs_get p _ _ hpb i blk hi
        intro c hc
        have := (pickCells_ok (ν := ν) p _ _ k2).2 c hc
        rw [← b1, ← hpl, ← l1] at this
        exact this
      · obtain ⟨i0, h1, h2, h3⟩ := hown i (by rw [← hpl]; exact hi)
        obtain ⟨j0, k1, k2, k3⟩ := hown j (by rw [← hpl]; exact hj)
        have : i0 = j0 := hw.inj i0 j0 h3 k3 (by rw [← h2, ← k2]; exact he)
        subst this
        exact nodupB_ok _ hd.1 i j i0 h1 k1
      · obtain ⟨k0, h1, h2, h3⟩ := hli k (lt_of_some_list hk)
        rw [h2]
        exact hw.lst k0 e (by rw [← h3]; exact hk) hdead
      · obtain ⟨k0, h1, h2, h3⟩ := hli k (lt_of_some_list hk)
        rw [h2] at hg
        obtain ⟨s1, s2⟩ := hw.sep k0 e (by rw [← h3]; exact hk) hdead ho g hg
        refine ⟨fun i hi => ?_, fun k' e' hk' hd' ho' hne => ?_⟩
        · obtain ⟨i0, j1, j2, j3⟩ := hown i (by rw [← hpl]; exact hi)
          rw [j2]; exact s1 i0 j3
        · obtain ⟨m0, m1, m2, m3⟩ := hli k' (lt_of_some_list hk')
          rw [m2]
          refine s2 m0 e' (by rw [← m3]; exact hk') hd' ho' (fun e0 => hne ?_)
          subst e0
          exact nodupB_ok _ hd.2 k' k m0 m1 h1
  · cases h
theorem setN_len {α : Type} : ∀ (s : List (Nat × α)) (l : List α), (setN l s).length = l.length
  | [], l => rfl
  | (i, x) :: r, l => by show (setN (l.set i x) r).length = _; rw [setN_len r, List.length_set]
theorem setN_other {α : Type} {k : Nat} : ∀ (s : List (Nat × α)) (l : List α), (∀ q ∈ s, q.1 ≠ k) → (setN l s)[k]? = l[k]?
  | [], l, _ => rfl
  | (i, x) :: r, l, h => by
    show (setN (l.set i x) r)[k]? = _
    rw [setN_other r _ (fun q hq => h q (List.mem_cons_of_mem _ hq)), List.getElem?_set_ne (h (i, x) List.mem_cons_self)]
theorem setN_rel {α : Type} {Rel : α → α → Prop} {ps : List Nat} (hn : nodupB ps = true) {n : Nat} {ρ : α → α} : ∀ (s : List (Nat × α)) (A B : List α), (∀ q ∈ s, Rel q.2 (ρ q.2) ∧ q.1 < ps.length) →
    (∀ (j i : Nat), ps[j]? = some i → ∀ b, B[i]? = some b → ∃ a, A[j]? = some a ∧ Rel a b) → ∀ (j i : Nat), ps[j]? = some i → ∀ b, (setN B (s.map fun q => (renN ps n q.1, ρ q.2)))[i]? = some b → ∃ a, (setN A s)[j]? = some a ∧ Rel a b
  | [], A, B, _, h => h
  | (j0, x) :: r, A, B, hs, h => by
    obtain ⟨hx, hj0⟩ := hs (j0, x) List.mem_cons_self
    have hj0 : j0 < ps.length := hj0
    refine setN_rel hn r (A.set j0 x) (B.set (renN ps n j0) (ρ x)) (fun q hq => hs q (List.mem_cons_of_mem _ hq)) fun j i hji b hb => ?_
    have e0 : ps[j0]? = some ps[j0] := List.getElem?_eq_getElem hj0
    have e1 : renN ps n j0 = ps[j0] := by unfold renN; rw [e0]
    by_cases hij : ps[j0] = i
    · have hjj : j = j0 := nodupB_ok ps hn j j0 i hji (by rw [e0, hij])
      subst hjj
      rw [e1, hij] at hb
      have hl := lt_of_some_list hb
      have hB : i < B.length := by simpa using hl
      rw [List.getElem?_set_self hB] at hb
      cases hb
      obtain ⟨a, ha, _⟩ := h j i hji B[i] (List.getElem?_eq_getElem hB)
      exact ⟨x, List.getElem?_set_self (lt_of_some_list ha), hx⟩
    · rw [e1, List.getElem?_set_ne hij] at hb
      obtain ⟨a, ha, hr⟩ := h j i hji b hb
      refine ⟨a, ?_, hr⟩
      rw [List.getElem?_set_ne (fun e => hij (by subst e; rw [e0] at hji; exact Option.some.inj hji))]
      exact ha
theorem setN_mem {α : Type} : ∀ (s : List (Nat × α)) (l : List α) (x : α), x ∈ setN l s → x ∈ l ∨ ∃ q ∈ s, x = q.2
  | [], l, x, h => .inl h
  | (i, y) :: r, l, x, h => by
    rcases setN_mem r (l.set i y) x h with h | ⟨q, hq, e⟩
    · rcases List.mem_or_eq_of_mem_set h with h | h
      · exact .inl h
      · exact .inr ⟨(i, y), List.mem_cons_self, h⟩
    · exact .inr ⟨q, List.mem_cons_of_mem _ hq, e⟩
theorem pickBs_plain {p : Pick} (ho : p.opb = []) : ∀ (bs bs' : List Blk) (n : Nat), pickBs p n bs = some bs' → ∀ (i : Nat) (b : Blk), bs'[i]? = some b → ∃ b0, bs[i]? = some b0 ∧ pickCells p false b0.cells = some b.cells ∧ b.elem = b0.elem ∧ b.kd = b0.kd
  | [], bs', n, h, i, b, hi => by simp only [pickBs, Option.some.injEq] at h; subst h; simp at hi
  | b0 :: r, bs', n, h, i, b, hi => by
    unfold pickBs at h
    rw [ho] at h
    simp only [List.any_nil] at h
    split at h
    · rename_i cs l hc hl
      simp only [Option.some.injEq] at h
      subst h
      cases i with
      | zero =>
        simp at hi; subst hi
        exact ⟨b0, rfl, hc, rfl, by show openK false b0.kd = b0.kd; cases b0.kd <;> rfl⟩
      | succ i =>
        simp at hi
        obtain ⟨b1, k1, k2⟩ := pickBs_plain ho r l (n + 1) hl i b hi
        exact ⟨b1, by simpa using k1, k2⟩
    · cases h
theorem takeL_some {α : Type} {l : List α} : ∀ (is : List Nat) (t : List α), takeL l is = some t → ∀ i ∈ is, i < l.length
  | [], t, h, i, hi => by cases hi
  | i0 :: r, t, h, i, hi => by
    unfold takeL at h
    split at h
    · rename_i x t' hx ht
      rcases List.mem_cons.mp hi with rfl | hi
      · exact lt_of_some_list hx
      · exact takeL_some r t' ht i hi
    · cases h
theorem pickM_facts {p : Pick} (ho : p.opb = []) {own m : Mem} (h : pickM p own = some m) : nodupB p.bs = true ∧ nodupB p.ls = true ∧ m.b.length = p.bs.length ∧ m.l.length = p.ls.length ∧
    (∀ (j i : Nat), p.bs[j]? = some i → i < own.b.length ∧ ∃ b a, own.b[i]? = some b ∧ m.b[j]? = some a ∧ pickCells p false b.cells = some a.cells ∧ a.elem = b.elem ∧ a.kd = b.kd) ∧
    ∀ (j k : Nat), p.ls[j]? = some k → k < own.l.length ∧ m.l[j]? = own.l[k]? := by
  unfold pickM at h
  split at h
  · rename_i b l hb hl
    unfold takeB at hb
    split at hb
    rotate_left
    · cases hb
    rename_i b0 hb0
    cases hd : (nodupB p.bs && nodupB p.ls)
    · rw [hd] at h; cases h
    · rw [hd] at h
      simp only [cond_true, Option.some.injEq] at h
      subst h
      simp only [Bool.and_eq_true] at hd
      obtain ⟨b1, b2⟩ := takeL_get _ _ hb0
      obtain ⟨l1, l2⟩ := takeL_get _ _ hl
      have hpl := pickBs_len p _ _ _ hb
      refine ⟨hd.1, hd.2, hpl.trans b1, l1, fun j i hj => ?_, fun j k hj => ⟨takeL_some _ _ hl k (List.mem_of_getElem? hj), l2 j k hj⟩⟩
      have hi := takeL_some _ _ hb0 i (List.mem_of_getElem? hj)
      have hjl : j < b.length := by rw [hpl, b1]; exact lt_of_some_list hj
      obtain ⟨c0, k1, k2, k3, k4⟩ := pickBs_plain ho _ _ _ hb j b[j] (List.getElem?_eq_getElem hjl)
      exact ⟨hi, c0, b[j], by rw [← b2 j i hj]; exact k1, List.getElem?_eq_getElem hjl, k2, k3, k4⟩
  · cases h
theorem renC_conc {ν3 ν2 : Nu} {fb fl : Nat → Nat} (hb : ∀ i, ν3.l (fb i) = ν2.l i) (hl : ∀ k, ν3.v (fl k) = ν2.v k) (c : CV) : concC ν3 (renC fb fl c) = concC ν2 c := by
  cases c with
  | v g x => rfl
  | a i off => show Value.pointer (some ⟨ν3.l (fb i), off, none⟩) = .pointer (some ⟨ν2.l i, off, none⟩); rw [hb]
  | l k => exact hl k
theorem renC_map {ν3 ν2 : Nu} {fb fl : Nat → Nat} (hb : ∀ i, ν3.l (fb i) = ν2.l i) (hl : ∀ k, ν3.v (fl k) = ν2.v k) (cs : List CV) : (cs.map (renC fb fl)).map (concC ν3) = cs.map (concC ν2) := by
  rw [List.map_map]
  exact List.map_congr_left fun c _ => renC_conc hb hl c
theorem renV_conc {ν3 ν2 : Nu} {fb fl : Nat → Nat} (hb : ∀ i, ν3.l (fb i) = ν2.l i) (hl : ∀ k, ν3.v (fl k) = ν2.v k) (x : SV) : conc ν3 (renV fb fl x) = conc ν2 x := by
  cases x with
  | inl p => rfl
  | inr p =>
    obtain ⟨i, off, _ | ⟨len, cap⟩⟩ := p
    · show Value.pointer (some ⟨ν3.l (fb i), off, none⟩) = .pointer (some ⟨ν2.l i, off, none⟩); rw [hb]
    · show Value.slice (some ⟨ν3.l (fb i), off, none⟩) len cap = .slice (some ⟨ν2.l i, off, none⟩) len cap; rw [hb]
  | c k => exact hl k
  | lp k j o sz => show placeOf (ν3.v (fl k)) _ = placeOf (ν2.v k) _; rw [hl]
  | tp l =>
    show Value.tuple ((l.map (renT fb fl)).map (concT ν3)).toArray = .tuple (l.map (concT ν2)).toArray
    rw [List.map_map]
    refine congrArg (fun l => Value.tuple (List.toArray l)) (List.map_congr_left fun t _ => ?_)
    cases t with
    | inl p => rfl
    | inr k => exact hl k
    | st cs => show Value.agg ((cs.map (renC fb fl)).map (concC ν3)).toArray = .agg (cs.map (concC ν2)).toArray; rw [renC_map hb hl]
  | fn f fs cs => show Value.func (.func f) ((fs.map (renC fb fl)).map (concC ν3)).toArray ((cs.map (renC fb fl)).map (concC ν3)).toArray = _; rw [renC_map hb hl, renC_map hb hl]; rfl
  | sub k lo n sz => show subOf (ν3.v (fl k)) _ _ _ = subOf (ν2.v k) _ _ _; rw [hl]
  | st cs => show Value.agg ((cs.map (renC fb fl)).map (concC ν3)).toArray = .agg (cs.map (concC ν2)).toArray; rw [renC_map hb hl]
  | mp i => show Value.map (some (ν3.l (fb i))) = .map (some (ν2.l i)); rw [hb]
  | ia i off len n => show Value.pointer (some ⟨ν3.l (fb i), _, none⟩) = .pointer (some ⟨ν2.l i, _, none⟩); rw [hb]
  | rp v e j o => rfl
  | any => rfl
theorem renC_ok {fb fl : Nat → Nat} {n m N M : Nat} (hb : ∀ i, i < n → fb i < N) (hl : ∀ k, k < m → fl k < M) {c : CV} (h : okC n m c) : okC N M (renC fb fl c) := by
  cases c with
  | v g x => trivial
  | a i off => exact hb i h
  | l k => exact hl k h
theorem renCs_ok {fb fl : Nat → Nat} {n m N M : Nat} (hb : ∀ i, i < n → fb i < N) (hl : ∀ k, k < m → fl k < M) {cs : List CV} (h : ∀ c ∈ cs, okC n m c) : ∀ c ∈ cs.map (renC fb fl), okC N M c := fun c hc => by
  obtain ⟨x, hx, rfl⟩ := List.mem_map.mp hc
  exact renC_ok hb hl (h x hx)
theorem renV_ok {fb fl : Nat → Nat} {n m N M : Nat} (hb : ∀ i, i < n → fb i < N) (hl : ∀ k, k < m → fl k < M) {x : SV} (h : okV n m x) : okV N M (renV fb fl x) := by
  cases x with
  | inl p => trivial
  | inr p =>
    obtain ⟨i, off, _ | ⟨len, cap⟩⟩ := p
    · exact hb i h
    · exact hb i h
  | c k => exact hl k h
  | lp k j o sz => exact hl k h
  | tp l =>
    intro x hx
    obtain ⟨t, ht, rfl⟩ := List.mem_map.mp hx
    have := h t ht
    cases t with
    | inl p => trivial
    | inr k => exact hl k this
    | st cs => exact renCs_ok hb hl this
  | fn f fs cs => exact ⟨renCs_ok hb hl h.1, renCs_ok hb hl h.2⟩
  | sub k lo n sz => exact hl k h
  | st cs => exact renCs_ok hb hl h
  | mp i => exact hb i h
  | ia i off len n => exact hb i h
  | rp v e j o => trivial
  | any => trivial
theorem okRB_ok {n m : Nat} {x : SV} (h : okRB n m x = true) : okV n m x := by
  unfold okRB at h
  split at h
  · rename_i l
    intro t ht
    have := List.all_eq_true.mp h t ht
    cases t with
    | inl p => trivial
    | inr k => simpa [okTB, okT, Nat.blt_eq] using this
    | st cs => exact okCB_ok this
  · exact okVB_ok h
theorem renN_lt {ps : List Nat} {n k : Nat} (h : ∀ (j i : Nat), ps[j]? = some i → i < n) (i : Nat) (hi : i < ps.length + k) : renN ps n i < n + k := by
  unfold renN
  split
  · rename_i x hx; have := h i x hx; omega
  · rename_i hx
    have : ps.length ≤ i := by simpa using hx
    omega
theorem BOk.rel {B : Nat} {ν3 ν2 : Nu} {w : World} {A : Nat} {a b : Blk} (h : BOk B ν2 w A a) (h1 : concB ν3 b.cells = concB ν2 a.cells) (h2 : b.elem = a.elem) (h3 : b.kd = a.kd) : BOk B ν3 w A b := by
  have hl : b.cells.length = a.cells.length := by have := congrArg List.length h1; simpa [concB] using this
  unfold BOk at *
  rw [h3, h1, h2, hl]; exact h
theorem frame_ok {w0 : Base} {ν : Nu} {own m : Mem} {mem : Bool} {w : World} {p : Pick} (ho : p.opb = []) (hm : pickM p own = some m) (h : WR w0 ν own mem w) {r : Eff}
    (hsb : ∀ q ∈ r.sb, q.1 < p.bs.length ∧ ∀ c ∈ q.2.cells, okV (p.bs.length + r.ab.length) (p.ls.length + r.al.length) c) (hsl : ∀ q ∈ r.sl, q.1 < p.ls.length)
    (hab : ∀ b ∈ r.ab, ∀ c ∈ b.cells, okV (p.bs.length + r.ab.length) (p.ls.length + r.al.length) c) (hnb : ∀ (i : Nat) b, own.b[i]? = some b → ∀ fl T e acc, b.kd ≠ .bld fl T e acc) :
    ∃ w1 : Base, w1.toWorld = w0.toWorld ∧ WR w1 (pickNu p ν) m true w ∧ ∀ ν2 w', Ag m (pickNu p ν) ν2 → WR w1 ν2 (applyE m r) true w' →
      ∃ ν3, Ag own ν ν3 ∧ (∀ i, ν3.l (renN p.bs own.b.length i) = ν2.l i) ∧ (∀ k, ν3.v (renN p.ls own.l.length k) = ν2.v k) ∧ WR w0 ν3 (applyR own p r) true w' := by
  classical
  have P := pickM_ok hm h
  obtain ⟨nb, nl, lb, ll, gb, gl⟩ := pickM_facts ho hm
  let T : Nat → Prop := fun g => (∃ j, j < m.b.length ∧ (pickNu p ν).l j = g) ∨ ∃ (j : Nat) (e : LE), m.l[j]? = some e ∧ e.dead = false ∧ e.own = true ∧ ((pickNu p ν).v j).ownBlock = some g
  let F : Nat → Option Obj := fun g => if T g then none else w.heap[g]?
  have hF0 : ∀ b o, w0.F b = some o → F b = some o := fun b o e => by
    have hT : ¬ T b := by
      rintro (⟨j, hj, e1⟩ | ⟨j, e', hj, hd, ho', e1⟩)
      · rw [← e1, P.fr.offb j hj] at e; cases e
      · rw [P.fr.offl j e' hj hd ho' b e1] at e; cases e
    show (if T b then none else _) = _
    rw [if_neg hT]; exact h.fr.here b o e
  have hF1 : ∀ b, F b = none → w0.F b = none := fun b e => by
    cases e2 : w0.F b with
    | none => rfl
    | some o => rw [hF0 b o e2] at e; cases e
  refine ⟨⟨w0.toWorld, F⟩, rfl, ⟨P.below, P.blk, P.okb, P.inj, P.lst, P.sep, (fun h => by cases h), ⟨fun b o e => ?_, fun i hi => ?_, fun k e hk hd ho' g hg => ?_⟩⟩, fun ν2 w' ha W => ?_⟩
  · have e : (if T b then none else w.heap[b]?) = some o := e
    by_cases hT : T b
    · rw [if_pos hT] at e; cases e
    · rw [if_neg hT] at e; exact e
  · exact if_pos (.inl ⟨i, hi, rfl⟩)
  · exact if_pos (.inr ⟨k, e, hk, hd, ho', hg⟩)
  let ν3 : Nu := ⟨fun i => if i < own.b.length then ν.l i else ν2.l (p.bs.length + (i - own.b.length)), fun k => if k < own.l.length then ν.v k else ν2.v (p.ls.length + (k - own.l.length))⟩
  have hb : ∀ i, ν3.l (renN p.bs own.b.length i) = ν2.l i := fun i => by
    unfold renN
    split
    · rename_i k hk
      obtain ⟨hk1, _⟩ := gb i k hk
      show (if k < own.b.length then ν.l k else _) = _
      rw [if_pos hk1, ← ha.1 i (by rw [lb]; exact lt_of_some_list hk)]
      show ν.l k = ν.l ((p.bs[i]?).getD 0)
      rw [hk]; rfl
    · rename_i hk
      have hge : p.bs.length ≤ i := by simpa using hk
      show (if own.b.length + (i - p.bs.length) < own.b.length then _ else ν2.l (p.bs.length + (own.b.length + (i - p.bs.length) - own.b.length))) = _
      rw [if_neg (by omega)]; congr 1; omega
  have hl : ∀ k, ν3.v (renN p.ls own.l.length k) = ν2.v k := fun i => by
    unfold renN
    split
    · rename_i k hk
      obtain ⟨hk1, _⟩ := gl i k hk
      show (if k < own.l.length then ν.v k else _) = _
      rw [if_pos hk1, ← ha.2 i (by rw [ll]; exact lt_of_some_list hk)]
      show ν.v k = ν.v ((p.ls[i]?).getD 0)
      rw [hk]; rfl
    · rename_i hk
      have hge : p.ls.length ≤ i := by simpa using hk
      show (if own.l.length + (i - p.ls.length) < own.l.length then _ else ν2.v (p.ls.length + (own.l.length + (i - p.ls.length) - own.l.length))) = _
      rw [if_neg (by omega)]; congr 1; omega
  have hold : Ag own ν ν3 := ⟨fun i hi => (if_pos hi).symm, fun k hk => (if_pos hk).symm⟩
  have hN : (applyR own p r).b.length = own.b.length + r.ab.length := by simp [applyR, setN_len]
  have hM : (applyR own p r).l.length = own.l.length + r.al.length := by simp [applyR, setN_len]
  have fbN := fun i => renN_lt (k := r.ab.length) (fun j i h => (gb j i h).1) i
  have flN := fun i => renN_lt (k := r.al.length) (fun j i h => (gl j i h).1) i
  let Rel : Blk → Blk → Prop := fun a b => concB ν3 b.cells = concB ν2 a.cells ∧ b.elem = a.elem ∧ b.kd = a.kd ∧ ∀ c ∈ b.cells, okV (own.b.length + r.ab.length) (own.l.length + r.al.length) c
  have relR : ∀ b : Blk, (∀ c ∈ b.cells, okV (p.bs.length + r.ab.length) (p.ls.length + r.al.length) c) → Rel b (renB (renN p.bs own.b.length) (renN p.ls own.l.length) b) := fun b hbk =>
    ⟨by unfold concB renB; rw [List.map_map]; exact List.map_congr_left fun c _ => renV_conc hb hl c, rfl, rfl, fun c hc => by
      obtain ⟨x, hx, rfl⟩ := List.mem_map.mp hc
      exact renV_ok fbN flN (hbk x hx)⟩
  have cb : ∀ (i : Nat) (b : Blk), (applyR own p r).b[i]? = some b → (i < own.b.length ∧ (∀ j : Nat, p.bs[j]? ≠ some i) ∧ own.b[i]? = some b) ∨ ∃ (j : Nat) (a : Blk), i = renN p.bs own.b.length j ∧ (applyE m r).b[j]? = some a ∧ Rel a b := by
    intro i b hi
    have hi : (setN own.b (r.sb.map fun q => (renN p.bs own.b.length q.1, renB (renN p.bs own.b.length) (renN p.ls own.l.length) q.2)) ++ r.ab.map (renB (renN p.bs own.b.length) (renN p.ls own.l.length)))[i]? = some b := hi
    rcases Nat.lt_or_ge i own.b.length with hlt | hge
    · rw [List.getElem?_append_left (by rw [setN_len]; exact hlt)] at hi
      by_cases hex : ∃ j : Nat, p.bs[j]? = some i
      · obtain ⟨j, hj⟩ := hex
        obtain ⟨a, ha1, hr⟩ := setN_rel (Rel := Rel) nb r.sb m.b own.b (fun q hq => ⟨relR q.2 (hsb q hq).2, (hsb q hq).1⟩) (fun j i hji b hb1 => by
          obtain ⟨_, b0, a, k1, k2, k3, k4, k5⟩ := gb j i hji
          rw [hb1] at k1
          obtain rfl := Option.some.inj k1
          refine ⟨a, k2, ?_, k4.symm, k5.symm, fun c hc => (h.okb i b hb1 c hc).mono (by omega) (by omega)⟩
          obtain ⟨e1, e2⟩ := pickCells_ok (ν := ν) p _ _ k3
          exact (concB_congr (h.okb i b hb1) hold).symm.trans (e1.symm.trans (concB_congr e2 (by rw [← lb, ← ll]; exact ha)))) j i hj b hi
        refine .inr ⟨j, a, by unfold renN; rw [hj], ?_, hr⟩
        show (setN m.b r.sb ++ r.ab)[j]? = some a
        rw [List.getElem?_append_left (lt_of_some_list ha1)]; exact ha1
      · refine .inl ⟨hlt, fun j hj => hex ⟨j, hj⟩, ?_⟩
        rw [setN_other] at hi
        · exact hi
        · intro q hq
          obtain ⟨q0, hq0, rfl⟩ := List.mem_map.mp hq
          have hlt0 := (hsb q0 hq0).1
          show renN p.bs own.b.length q0.1 ≠ i
          intro he
          refine hex ⟨q0.1, ?_⟩
          rw [← he]
          unfold renN
          rw [List.getElem?_eq_getElem hlt0]
    · rw [List.getElem?_append_right (by rw [setN_len]; exact hge), setN_len, List.getElem?_map] at hi
      obtain ⟨a, ha1, rfl⟩ := Option.map_eq_some_iff.mp hi
      refine .inr ⟨p.bs.length + (i - own.b.length), a, ?_, ?_, relR a (hab a (List.mem_of_getElem? ha1))⟩
      · unfold renN
        rw [List.getElem?_eq_none (by omega)]
        show i = own.b.length + (p.bs.length + (i - own.b.length) - p.bs.length)
        omega
      · show (setN m.b r.sb ++ r.ab)[p.bs.length + (i - own.b.length)]? = some a
        rw [List.getElem?_append_right (by rw [setN_len]; omega), setN_len, show p.bs.length + (i - own.b.length) - m.b.length = i - own.b.length by omega]
        exact ha1
  have cl : ∀ (i : Nat) (b : LE), (applyR own p r).l[i]? = some b → (i < own.l.length ∧ (∀ j : Nat, p.ls[j]? ≠ some i) ∧ own.l[i]? = some b) ∨ ∃ (j : Nat), i = renN p.ls own.l.length j ∧ (applyE m r).l[j]? = some b := by
    intro i b hi
    have hi : (setN own.l (r.sl.map fun q => (renN p.ls own.l.length q.1, q.2)) ++ r.al)[i]? = some b := hi
    rcases Nat.lt_or_ge i own.l.length with hlt | hge
    · rw [List.getElem?_append_left (by rw [setN_len]; exact hlt)] at hi
      by_cases hex : ∃ j : Nat, p.ls[j]? = some i
      · obtain ⟨j, hj⟩ := hex
        obtain ⟨a, ha1, hr⟩ := setN_rel (Rel := fun a b : LE => a = b) (ρ := fun x => x) nl r.sl m.l own.l (fun q hq => ⟨rfl, hsl q hq⟩) (fun j i hji b hb1 => ⟨b, by rw [(gl j i hji).2]; exact hb1, rfl⟩) j i hj b hi
        subst hr
        refine .inr ⟨j, by unfold renN; rw [hj], ?_⟩
        show (setN m.l r.sl ++ r.al)[j]? = some a
        rw [List.getElem?_append_left (lt_of_some_list ha1)]; exact ha1
      · refine .inl ⟨hlt, fun j hj => hex ⟨j, hj⟩, ?_⟩
        rw [setN_other] at hi
        · exact hi
        · intro q hq
          obtain ⟨q0, hq0, rfl⟩ := List.mem_map.mp hq
          have hlt0 := hsl q0 hq0
          show renN p.ls own.l.length q0.1 ≠ i
          intro he
          refine hex ⟨q0.1, ?_⟩
          rw [← he]
          unfold renN
          rw [List.getElem?_eq_getElem hlt0]
    · rw [List.getElem?_append_right (by rw [setN_len]; exact hge), setN_len] at hi
      refine .inr ⟨p.ls.length + (i - own.l.length), ?_, ?_⟩
      · unfold renN
        rw [List.getElem?_eq_none (by omega)]
        show i = own.l.length + (p.ls.length + (i - own.l.length) - p.ls.length)
        omega
      · show (setN m.l r.sl ++ r.al)[p.ls.length + (i - own.l.length)]? = some b
        rw [List.getElem?_append_right (by rw [setN_len]; omega), setN_len, show p.ls.length + (i - own.l.length) - m.l.length = i - own.l.length by omega]
        exact hi
  have pb : ∀ j, j < m.b.length → ∃ i0 : Nat, p.bs[j]? = some i0 ∧ (pickNu p ν).l j = ν.l i0 ∧ i0 < own.b.length := fun j hj => by
    have hj2 : j < p.bs.length := by omega
    have e0 : p.bs[j]? = some p.bs[j] := List.getElem?_eq_getElem hj2
    exact ⟨p.bs[j], e0, by show ν.l ((p.bs[j]?).getD 0) = _; rw [e0]; rfl, (gb j _ e0).1⟩
  have pl : ∀ (j : Nat) (e : LE), m.l[j]? = some e → ∃ k0 : Nat, p.ls[j]? = some k0 ∧ (pickNu p ν).v j = ν.v k0 ∧ own.l[k0]? = some e := fun j e hj => by
    have hj2 : j < p.ls.length := by have := lt_of_some_list hj; omega
    have e0 : p.ls[j]? = some p.ls[j] := List.getElem?_eq_getElem hj2
    exact ⟨p.ls[j], e0, by show ν.v ((p.ls[j]?).getD 0) = _; rw [e0]; rfl, by rw [← (gl j _ e0).2]; exact hj⟩
  have ub : ∀ i, i < own.b.length → (∀ j : Nat, p.bs[j]? ≠ some i) → ¬ T (ν.l i) := by
    rintro i hi hne (⟨j, hj, e1⟩ | ⟨j, e', hj, hd, ho', e1⟩)
    · obtain ⟨i0, q1, q2, q3⟩ := pb j hj
      rw [q2] at e1
      exact hne j (by rw [q1, h.inj i0 i q3 hi e1])
    · obtain ⟨k0, q1, q2, q3⟩ := pl j e' hj
      rw [q2] at e1
      exact (h.sep k0 e' q3 hd ho' _ e1).1 i hi rfl
  have ul : ∀ (k : Nat) e, own.l[k]? = some e → (∀ j : Nat, p.ls[j]? ≠ some k) → e.dead = false → e.own = true → ∀ g, (ν.v k).ownBlock = some g → ¬ T g := by
    rintro k e hk hne hd ho' g hg (⟨j, hj, e1⟩ | ⟨j, e', hj, hd', ho2, e1⟩)
    · obtain ⟨i0, q1, q2, q3⟩ := pb j hj
      rw [q2] at e1
      exact (h.sep k e hk hd ho' g hg).1 i0 q3 e1
    · obtain ⟨k0, q1, q2, q3⟩ := pl j e' hj
      rw [q2] at e1
      exact (h.sep k e hk hd ho' g hg).2 k0 e' q3 hd' ho2 (fun e => hne j (by rw [q1, e])) e1
  have keep : ∀ g o, ¬ T g → w.heap[g]? = some o → F g = some o ∧ w'.heap[g]? = some o := fun g o hT hg => by
    have e : F g = some o := by show (if T g then none else _) = _; rw [if_neg hT]; exact hg
    exact ⟨e, W.fr.here g o e⟩
  have e3 : ∀ i, i < own.b.length → ν3.l i = ν.l i := fun i hi => if_pos hi
  have e4 : ∀ i, i < own.l.length → ν3.v i = ν.v i := fun i hi => if_pos hi
  have ufb : ∀ i, i < own.b.length → (∀ j : Nat, p.bs[j]? ≠ some i) → F (ν.l i) ≠ none := fun i hi hne he => by
    have hs := h.lt hi
    obtain ⟨e, _⟩ := keep (ν.l i) w.heap[ν.l i] (ub i hi hne) (Array.getElem?_eq_getElem hs)
    rw [e] at he; cases he
  have ufl : ∀ (k : Nat) e, own.l[k]? = some e → (∀ j : Nat, p.ls[j]? ≠ some k) → e.dead = false → e.own = true → ∀ g, (ν.v k).ownBlock = some g → F g ≠ none := fun k e hk hne hd ho' g hg he => by
    have hs := (h.rowLt hk hd ho' hg).2
    obtain ⟨e1, _⟩ := keep g w.heap[g] (ul k e hk hne hd ho' g hg) (Array.getElem?_eq_getElem hs)
    rw [e1] at he; cases he
  refine ⟨ν3, hold, hb, hl, ⟨W.below, fun i b hi => ?_, fun i b hi c hc => ?_, fun i j hi hj he => ?_, fun k e hk hd => ?_, fun k e hk hd ho' g hg => ?_, (fun h => by cases h), ⟨fun b o e => W.fr.here b o (hF0 b o e), fun i hi => ?_, fun k e hk hd ho' g hg => ?_⟩⟩⟩
  · rcases cb i b hi with ⟨h1, h2, h3⟩ | ⟨j, a, rfl, h2, q1, q2, q3, _⟩
    · obtain ⟨k1, k2⟩ := h.blk i b h3
      rw [e3 i h1]
      refine ⟨?_, k2⟩
      have hk : ∀ o, w.heap[ν.l i]? = some o → w'.heap[ν.l i]? = some o := fun o hg => (keep _ o (ub i h1 h2) hg).2
      unfold BOk at *
      split at k1
      · rename_i hkd
        rw [← concB_congr (h.okb i b h3) hold]
        exact hk _ k1
      · exact hk _ k1
      · rename_i fl T e acc hkd
        exact absurd hkd (hnb i b h3 fl T e acc)
      · rw [← concB_congr (h.okb i b h3) hold]
        exact hk _ k1
      · exact k1.of_heap ((hk _ (Array.getElem?_eq_getElem k1.lt)).trans (Array.getElem?_eq_getElem k1.lt).symm)
      · exact k1.of_heap ((hk _ (Array.getElem?_eq_getElem k1.lt)).trans (Array.getElem?_eq_getElem k1.lt).symm)
    · rw [hb j]
      obtain ⟨k1, k2⟩ := W.blk j a h2
      exact ⟨BOk.rel k1 q1 q2 q3, k2⟩
  · rw [hN, hM]
    rcases cb i b hi with ⟨h1, h2, h3⟩ | ⟨j, a, rfl, h2, q1, q2, q3, q4⟩
    · exact (h.okb i b h3 c hc).mono (by omega) (by omega)
    · exact q4 c hc
  · have hi' := List.getElem?_eq_getElem hi
    have hj' := List.getElem?_eq_getElem hj
    rcases cb i _ hi' with ⟨h1, h2, h3⟩ | ⟨j1, a, rfl, h2, _⟩
    · rcases cb j _ hj' with ⟨k1, k2, k3⟩ | ⟨j2, a2, rfl, k2, _⟩
      · rw [e3 i h1, e3 j k1] at he
        exact h.inj i j h1 k1 he
      · rw [e3 i h1, hb j2] at he
        have := W.fr.offb j2 (lt_of_some_list k2)
        rw [← he] at this
        exact absurd this (ufb i h1 h2)
    · rcases cb j _ hj' with ⟨k1, k2, k3⟩ | ⟨j2, a2, rfl, k2, _⟩
      · rw [e3 j k1, hb j1] at he
        have := W.fr.offb j1 (lt_of_some_list h2)
        rw [he] at this
        exact absurd this (ufb j k1 k2)
      · rw [hb j1, hb j2] at he
        rw [W.inj j1 j2 (lt_of_some_list h2) (lt_of_some_list k2) he]
  · rcases cl k e hk with ⟨h1, h2, h3⟩ | ⟨j, rfl, h2⟩
    · rw [e4 k h1]
      have := h.lst k e h3 hd
      unfold LOk at *
      cases ho' : e.own
      · rw [ho'] at this
        exact InB.kept this fun b hb => by
          rw [W.below.block b hb, h.below.block b hb]
      · rw [ho'] at this
        refine ⟨this.1, ?_⟩
        have hrow := (show OwnB w0.heap.size w e (ν.v k) from this).2
        refine ⟨hrow.1, ?_⟩
        rcases hrow.2 with hr | ⟨g, cap, cur, hv, hge, hcell, hrest⟩
        · exact .inl hr
        · refine .inr ⟨g, cap, cur, hv, hge, ?_, hrest⟩
          exact (keep g _ (ul k e h3 h2 hd ho' g (by rw [hv]; rfl)) hcell).2
    · rw [hl j]
      exact W.lst j e h2 hd
  · rcases cl k e hk with ⟨h1, h2, h3⟩ | ⟨j, rfl, h2⟩
    · rw [e4 k h1] at hg
      obtain ⟨s1, s2⟩ := h.sep k e h3 hd ho' g hg
      have hne := ufl k e h3 h2 hd ho' g hg
      refine ⟨fun i hi => ?_, fun k' e' hk' hd' ho2 hkk => ?_⟩
      · rcases cb i _ (List.getElem?_eq_getElem hi) with ⟨k1, k2, k3⟩ | ⟨j1, a, rfl, k2, _⟩
        · rw [e3 i k1]; exact s1 i k1
        · rw [hb j1]
          intro he
          have := W.fr.offb j1 (lt_of_some_list k2)
          rw [he] at this
          exact hne this
      · rcases cl k' e' hk' with ⟨k1, k2, k3⟩ | ⟨j1, rfl, k2⟩
        · rw [e4 k' k1]; exact s2 k' e' k3 hd' ho2 hkk
        · rw [hl j1]
          intro he
          exact hne (W.fr.offl j1 e' k2 hd' ho2 g he)
    · rw [hl j] at hg
      obtain ⟨s1, s2⟩ := W.sep j e h2 hd ho' g hg
      have hno := W.fr.offl j e h2 hd ho' g hg
      refine ⟨fun i hi => ?_, fun k' e' hk' hd' ho2 hkk => ?_⟩
      · rcases cb i _ (List.getElem?_eq_getElem hi) with ⟨k1, k2, k3⟩ | ⟨j1, a, rfl, k2, _⟩
        · rw [e3 i k1]
          intro he
          rw [← he] at hno
          exact ufb i k1 k2 hno
        · rw [hb j1]; exact s1 j1 (lt_of_some_list k2)
      · rcases cl k' e' hk' with ⟨k1, k2, k3⟩ | ⟨j1, rfl, k2⟩
        · rw [e4 k' k1]
          intro he
          exact ufl k' e' k3 k2 hd' ho2 g he hno
        · rw [hl j1]
          exact s2 j1 e' k2 hd' ho2 (fun e => hkk (by rw [e]))
  · rcases cb i _ (List.getElem?_eq_getElem hi) with ⟨k1, k2, k3⟩ | ⟨j1, a, rfl, k2, _⟩
    · rw [e3 i k1]; exact h.fr.offb i k1
    · rw [hb j1]; exact hF1 _ (W.fr.offb j1 (lt_of_some_list k2))
  · rcases cl k e hk with ⟨h1, h2, h3⟩ | ⟨j, rfl, h2⟩
    · rw [e4 k h1] at hg
      exact h.fr.offl k e h3 hd ho' g hg
    · rw [hl j] at hg
      exact hF1 _ (W.fr.offl j e h2 hd ho' g hg)
theorem effS_some {E : Env} {f : FuncId} {args : List SV} {s s' : St} {x : SV} (h : effS E f args s = some (x, s')) : ∃ g p args' m r fn, E.eff f = some g ∧ p.opb = [] ∧ pickCells p false args = some args' ∧ pickM p s.own = some m ∧ g args' m = some r ∧ E.P.funcs[f]? = some fn ∧ (fn.name == "runtime.NumGoroutine") = false ∧ fn.body.isNone = false ∧ fitE s p r = true ∧
    x = renV (renN p.bs s.own.b.length) (renN p.ls s.own.l.length) r.x ∧ s' = { s with own := applyR s.own p r, mem := true, obl := (r.ok, true) :: s.obl } := by
  unfold effS at h
  split at h
  · cases h
  · rename_i g hg
    split at h
    · rename_i args' m ha hm
      split at h
      · rename_i r fn hr hf
        cases hb : (fn.name == "runtime.NumGoroutine" || fn.body.isNone || !fitE s (reachP s.own args) r)
        · rw [hb] at h
          simp only [cond_false, Option.some.injEq, Prod.mk.injEq] at h
          simp only [Bool.or_eq_false_iff, Bool.not_eq_false'] at hb
          exact ⟨g, reachP s.own args, args', m, r, fn, hg, rfl, ha, hm, hr, hf, hb.1.1, hb.1.2, hb.2, h.1.symm, h.2.symm⟩
        · rw [hb] at h; cases h
      · cases h
    · cases h
structure FitE (s : St) (p : Pick) (r : Eff) : Prop where
  sb : ∀ q ∈ r.sb, q.1 < p.bs.length ∧ ∀ c ∈ q.2.cells, okV (p.bs.length + r.ab.length) (p.ls.length + r.al.length) c
  sl : ∀ q ∈ r.sl, q.1 < p.ls.length
  ab : ∀ b ∈ r.ab, ∀ c ∈ b.cells, okV (p.bs.length + r.ab.length) (p.ls.length + r.al.length) c
  nb : ∀ (i : Nat) b, s.own.b[i]? = some b → ∀ fl T e acc, b.kd ≠ .bld fl T e acc
  x : okV (p.bs.length + r.ab.length) (p.ls.length + r.al.length) r.x
  lo : ∀ q ∈ r.sb, ∀ i, p.bs[q.1]? = some i → s.lo ≤ i
  llo : ∀ q ∈ r.sl, ∀ i, p.ls[q.1]? = some i → s.llo ≤ i
theorem fitE_ok {s : St} {p : Pick} {r : Eff} (h : fitE s p r = true) : FitE s p r := by
  unfold fitE at h
  simp only [Bool.and_eq_true, List.all_eq_true] at h
  obtain ⟨⟨⟨⟨⟨h1, h2⟩, h3⟩, h4⟩, h5⟩, h6⟩ := h
  refine ⟨fun q hq => ⟨?_, fun c hc => okVB_ok (h4 q hq c hc)⟩, fun q hq => ?_, fun b hb c hc => okVB_ok (h5 b hb c hc), fun i b hi fl T e acc hk => ?_, okRB_ok h3, fun q hq i hi => ?_, fun q hq i hi => ?_⟩
  · have := h1 q hq
    split at this
    · rename_i i hi; exact lt_of_some_list hi
    · cases this
  · have := h2 q hq
    split at this
    · rename_i i hi; exact lt_of_some_list hi
    · cases this
  · have := h6 b (List.mem_of_getElem? hi)
    rw [hk] at this; cases this
  · have := h1 q hq
    rw [hi] at this
    exact Nat.le_of_ble_eq_true this
  · have := h2 q hq
    rw [hi] at this
    exact Nat.le_of_ble_eq_true this
theorem pickCells_isL {p : Pick} {ν : Nu} : ∀ {l l' : List SV} {vs : List Value}, pickCells p false l = some l' → IsL ν l vs → IsL (pickNu p ν) l' vs
  | [], l', vs, h, hv => by
    simp only [pickCells, Option.some.injEq] at h
    subst h
    cases vs with
    | nil => trivial
    | cons _ _ => exact hv.elim
  | x :: r, l', [], h, hv => hv.elim
  | x :: r, l', v :: vs, h, hv => by
    unfold pickCells at h
    split at h
    · cases h
    · rename_i y hne
      split at h
      · rename_i l hl
        simp only [Option.some.injEq] at h
        subst h
        refine ⟨?_, pickCells_isL hl hv.2⟩
        have := pickV_is p hv.1
        exact openV_is this
      · cases h
theorem applyR_len (own : Mem) (p : Pick) (r : Eff) : (applyR own p r).b.length = own.b.length + r.ab.length ∧ (applyR own p r).l.length = own.l.length + r.al.length := by simp [applyR, setN_len]
theorem applyR_keep {own : Mem} {p : Pick} {r : Eff} {n : Nat} (hn : n ≤ own.b.length) (h : ∀ q ∈ r.sb, q.1 < p.bs.length ∧ ∀ i, p.bs[q.1]? = some i → n ≤ i) (i : Nat) (hi : i < n) : (applyR own p r).b[i]? = own.b[i]? := by
  show (setN own.b _ ++ _)[i]? = _
  rw [List.getElem?_append_left (by rw [setN_len]; omega), setN_other]
  intro q hq
  obtain ⟨q0, hq0, rfl⟩ := List.mem_map.mp hq
  obtain ⟨h1, h2⟩ := h q0 hq0
  have e0 : p.bs[q0.1]? = some p.bs[q0.1] := List.getElem?_eq_getElem h1
  have := h2 _ e0
  show renN p.bs own.b.length q0.1 ≠ i
  unfold renN
  rw [e0]
  show p.bs[q0.1] ≠ i
  omega
theorem applyR_lkeep {own : Mem} {p : Pick} {r : Eff} {n : Nat} (hn : n ≤ own.l.length) (h : ∀ q ∈ r.sl, q.1 < p.ls.length ∧ ∀ i, p.ls[q.1]? = some i → n ≤ i) (i : Nat) (hi : i < n) : (applyR own p r).l[i]? = own.l[i]? := by
  show (setN own.l _ ++ _)[i]? = _
  rw [List.getElem?_append_left (by rw [setN_len]; omega), setN_other]
  intro q hq
  obtain ⟨q0, hq0, rfl⟩ := List.mem_map.mp hq
  obtain ⟨h1, h2⟩ := h q0 hq0
  have e0 : p.ls[q0.1]? = some p.ls[q0.1] := List.getElem?_eq_getElem h1
  have := h2 _ e0
  show renN p.ls own.l.length q0.1 ≠ i
  unfold renN
  rw [e0]
  show p.ls[q0.1] ≠ i
  omega
theorem effS_st {E : Env} : ClSt (effS E) := fun f args s x s' hlo hllo hokb hargs h => by
  obtain ⟨g, p, args', m, r, fn, hg, ho, ha, hm, hr, hf, hn, hbody, hfit, rfl, rfl⟩ := effS_some h
  have F := fitE_ok hfit
  obtain ⟨_, _, lb, ll, gb, gl⟩ := pickM_facts ho hm
  obtain ⟨k1, k2⟩ := applyR_len s.own p r
  have fbN := fun i => renN_lt (k := r.ab.length) (fun j i h => (gb j i h).1) i
  have flN := fun i => renN_lt (k := r.al.length) (fun j i h => (gl j i h).1) i
  refine ⟨⟨fun q hq => List.mem_cons_of_mem _ hq, by show _ ≤ (applyR s.own p r).b.length; omega, by show _ ≤ (applyR s.own p r).l.length; omega, rfl, rfl, fun i hi => applyR_keep hlo (fun q hq => ⟨(F.sb q hq).1, F.lo q hq⟩) i hi, fun i hi => applyR_lkeep hllo (fun q hq => ⟨F.sl q hq, F.llo q hq⟩) i hi⟩, ?_, fun i b hi c hc => ?_⟩
  · show okV (applyR s.own p r).b.length (applyR s.own p r).l.length _
    rw [k1, k2]
    exact renV_ok fbN flN F.x
  · show okV (applyR s.own p r).b.length (applyR s.own p r).l.length c
    rw [k1, k2]
    have hi : (setN s.own.b (r.sb.map fun q => (renN p.bs s.own.b.length q.1, renB (renN p.bs s.own.b.length) (renN p.ls s.own.l.length) q.2)) ++ r.ab.map (renB (renN p.bs s.own.b.length) (renN p.ls s.own.l.length)))[i]? = some b := hi
    have key : b ∈ s.own.b ∨ (∃ q ∈ r.sb, b = renB (renN p.bs s.own.b.length) (renN p.ls s.own.l.length) q.2) ∨ ∃ a ∈ r.ab, b = renB (renN p.bs s.own.b.length) (renN p.ls s.own.l.length) a := by
      rcases List.mem_append.mp (List.mem_of_getElem? hi) with hb | hb
      · rcases setN_mem _ _ _ hb with hb | ⟨q, hq, rfl⟩
        · exact .inl hb
        · obtain ⟨q0, hq0, rfl⟩ := List.mem_map.mp hq
          exact .inr (.inl ⟨q0, hq0, rfl⟩)
      · obtain ⟨a, ha1, rfl⟩ := List.mem_map.mp hb
        exact .inr (.inr ⟨a, ha1, rfl⟩)
    rcases key with hb | ⟨q, hq, rfl⟩ | ⟨a, ha1, rfl⟩
    · obtain ⟨i0, hi0⟩ := List.getElem?_of_mem hb
      exact (hokb i0 b hi0 c hc).mono (by omega) (by omega)
    · obtain ⟨y, hy, rfl⟩ := List.mem_map.mp hc
      exact renV_ok fbN flN ((F.sb q hq).2 y hy)
    · obtain ⟨y, hy, rfl⟩ := List.mem_map.mp hc
      exact renV_ok fbN flN (F.ab a ha1 y hy)
theorem effS_ok {E : Env} (hE : EffOk E.P E.glob E.eff) {w0 : Base} (hG : GlobB E w0) : ClOk E w0 (effS E) := fun f args s x s' hlo hllo hargs h hh ν w vs hvs hw => by
  obtain ⟨g, p, args', m, r, fn, hg, ho, ha, hm, hr, hf, hn, hbody, hfit, rfl, rfl⟩ := effS_some h
  have F := fitE_ok hfit
  refine ⟨⟨fn, hf, hn, hbody⟩, ?_⟩
  have e : r.ok = true := hh (r.ok, true) List.mem_cons_self
  obtain ⟨w1, e1, W1, back⟩ := frame_ok ho hm hw F.sb F.sl F.ab F.nb
  refine (hE f g args' m r hg hr e w1 (by rw [e1]; exact hG.glob) (pickNu p ν) w vs (pickCells_isL ha hvs) W1).mono fun r' w' ⟨ν2, v, h1, h2, h3, h4⟩ => ?_
  obtain ⟨ν3, k1, k2, k3, k4⟩ := back ν2 w' h1 h4
  refine ⟨ν3, v, k1, h2, ?_, k4⟩
  have hc := renV_conc k2 k3 r.x
  cases hx : r.x with
  | any => trivial
  | _ =>
    rw [hx] at h3 hc
    exact (show v = conc ν2 _ from h3).trans hc.symm
theorem takeL_more {α : Type} {l ex : List α} : ∀ (is : List Nat) (t : List α), takeL l is = some t → takeL (l ++ ex) is = some t
  | [], t, h => h
  | i :: r, t, h => by
    unfold takeL at h ⊢
    split at h
    · rename_i x t' hx ht
      rw [List.getElem?_append_left (lt_of_some_list hx), hx, takeL_more r t' ht]; exact h
    · cases h
theorem pickM_more {p : Pick} {own m : Mem} {ex : List LE} (h : pickM p own = some m) : pickM p { own with l := own.l ++ ex } = some m := by
  unfold pickM at h ⊢
  split at h
  · rename_i b l hb hl
    rw [show takeB p ({ own with l := own.l ++ ex } : Mem).b = some b from hb, show takeL ({ own with l := own.l ++ ex } : Mem).l p.ls = some l from takeL_more _ _ hl]
    exact h
  · cases h
theorem effP_some {E : Env} {f : FuncId} {args : List SV} {own : Mem} {q : List Bool × Value} {b : Bool} (h : effP E f args own = some (q, b)) : ∃ g p args' m r fn, E.eff f = some g ∧ p.opb = [] ∧ pickCells p false args = some args' ∧ pickM p own = some m ∧ g args' m = some r ∧ E.P.funcs[f]? = some fn ∧ (fn.name == "runtime.NumGoroutine") = false ∧ fn.body.isNone = false ∧
    r.sb = [] ∧ r.sl = [] ∧ r.ab = [] ∧ r.al = [] ∧ (∀ (i : Nat) b, own.b[i]? = some b → ∀ fl T e acc, b.kd ≠ .bld fl T e acc) ∧ r.x = .inl q ∧ r.ok = b := by
  unfold effP at h
  split at h
  · cases h
  · rename_i g hg
    split at h
    · rename_i args' m ha hm
      split at h
      · rename_i r fn hr hf
        simp only [cond_eq_ite] at h
        split at h
        · cases h
        · rename_i hc
          simp only [Bool.or_eq_true, not_or, Bool.not_eq_true, Bool.not_eq_false', Bool.and_eq_true, List.isEmpty_iff, List.all_eq_true] at hc
          split at h
          · rename_i q' hx
            simp only [Option.some.injEq, Prod.mk.injEq] at h
            obtain ⟨rfl, rfl⟩ := h
            refine ⟨g, reachP own args, args', m, r, fn, hg, rfl, ha, hm, hr, hf, hc.1.1.1, hc.1.1.2, hc.1.2.1.1.1, hc.1.2.1.1.2, hc.1.2.1.2, hc.1.2.2, fun i b hi fl T e acc hk => ?_, hx, rfl⟩
            have := hc.2 b (List.mem_of_getElem? hi)
            rw [hk] at this; cases this
          · cases h
      · cases h
    · cases h
theorem effP_ok {E : Env} (hE : EffOk E.P E.glob E.eff) {w0 : Base} (hG : GlobB E w0) {f : FuncId} {args : List SV} {own : Mem} {q : List Bool × Value} (h : effP E f args own = some (q, true)) {ex : List LE} {ν : Nu} {w : World} {vs : List Value} (hvs : IsL ν args vs) (hw : WR w0 ν { own with l := own.l ++ ex } true w) :
    (∃ fn, E.P.funcs[f]? = some fn ∧ (fn.name == "runtime.NumGoroutine") = false ∧ fn.body.isNone = false) ∧
    Calls E.P f vs.toArray w fun e w' => ∃ ν', Agree own.b.length (own.l.length + ex.length) ν ν' ∧ e = .returned q.2 ∧ WR w0 ν' { own with l := own.l ++ ex } true w' := by
  obtain ⟨g, p, args', m, r, fn, hg, ho, ha, hm, hr, hf, hn, hbody, hsb, hsl, hab, hal, hnb, hx, hok⟩ := effP_some h
  refine ⟨⟨fn, hf, hn, hbody⟩, ?_⟩
  obtain ⟨w1, e1, W1, back⟩ := frame_ok (r := r) ho (pickM_more (ex := ex) hm) hw (by rw [hsb]; exact fun q hq => by cases hq) (by rw [hsl]; exact fun q hq => by cases hq) (by rw [hab]; exact fun q hq => by cases hq) hnb
  refine (hE f g args' m r hg hr hok w1 (by rw [e1]; exact hG.glob) (pickNu p ν) w vs (pickCells_isL ha hvs) W1).mono fun r' w' ⟨ν2, v, h1, h2, h3, h4⟩ => ?_
  obtain ⟨ν3, k1, _, _, k4⟩ := back ν2 w' h1 h4
  refine ⟨ν3, ?_, ?_, ?_⟩
  · have k1 : Agree own.b.length (own.l ++ ex).length ν ν3 := k1
    rw [List.length_append] at k1; exact k1
  · rw [hx] at h3
    have h3 : v = q.2 := h3
    rw [h2, h3]
  · have e2 : applyR { own with l := own.l ++ ex } p r = { own with l := own.l ++ ex } := by
      unfold applyR
      rw [hsb, hsl, hab, hal]
      simp [setN]
    rw [e2] at k4; exact k4
end Go.Proofs.YtiajbijbhhpllaaDoor.S2
namespace Go.Proofs.YtiajbijbhhpllaaDoor.S2
open Go Go.RowKit Sim
def Fresh (ν : Nu) (own : Mem) (g : Nat) : Prop := (∀ i, i < own.b.length → ν.l i ≠ g) ∧ ∀ k e, own.l[k]? = some e → e.dead = false → e.own = true → (ν.v k).ownBlock ≠ some g
theorem WR.addRow {w0 : Base} {ν : Nu} {own : Mem} {mem : Bool} {w : World} (h : WR w0 ν own mem w) {e : LE} {v : Value} (ho : e.own = true) (hv : OwnB w0.heap.size w e v) (hf : ∀ g, v.ownBlock = some g → Fresh ν own g) (hF : ∀ g, v.ownBlock = some g → w0.F g = none) :
    WR w0 (extV ν own.l.length v) { own with l := own.l ++ [e] } true w := by
  have vold : ∀ i, i < own.l.length → (extV ν own.l.length v).v i = ν.v i := fun i hi => ((extV_old ν 0 own.l.length v).2 i hi).symm
  have old : ∀ i e', (own.l ++ [e])[i]? = some e' → (i < own.l.length ∧ own.l[i]? = some e') ∨ (i = own.l.length ∧ e' = e) := fun i e' hi => by
    rcases Nat.lt_or_ge i own.l.length with hl | hl
    · rw [List.getElem?_append_left hl] at hi; exact .inl ⟨hl, hi⟩
    · have hl2 : i = own.l.length := by
        have := lt_of_some_list hi
        simp at this; omega
      subst hl2
      rw [List.getElem?_append_right (Nat.le_refl _), Nat.sub_self] at hi
      simp at hi
      exact .inr ⟨rfl, hi.symm⟩
  refine ⟨h.below, fun i b hi => ⟨(h.blk i b hi).1.congr (h.okb i b hi) (extV_old ν own.b.length own.l.length v), (h.blk i b hi).2⟩, h.okb.mono (Nat.le_refl _) (by simp), h.inj, fun i e' hi hd => ?_, fun i e' hi hd ho' g hb => ?_, (fun h => by cases h), ⟨h.fr.here, h.fr.offb, fun i e' hi hd ho' g hb => by
    rcases old i e' hi with ⟨hl, hi'⟩ | ⟨rfl, rfl⟩
    · rw [vold i hl] at hb; exact h.fr.offl i e' hi' hd ho' g hb
    · rw [extV_new] at hb; exact hF g hb⟩⟩
  · rcases old i e' hi with ⟨hl, hi'⟩ | ⟨rfl, rfl⟩
    · rw [vold i hl]; exact h.lst i e' hi' hd
    · rw [extV_new]; unfold LOk; rw [ho]; exact hv
  · rcases old i e' hi with ⟨hl, hi'⟩ | ⟨rfl, rfl⟩
    · rw [vold i hl] at hb
      obtain ⟨s1, s2⟩ := h.sep i e' hi' hd ho' g hb
      refine ⟨s1, fun i' e2 hi2 hd2 ho2 hne => ?_⟩
      rcases old i' e2 hi2 with ⟨hl', hi3⟩ | ⟨rfl, rfl⟩
      · rw [vold i' hl']; exact s2 i' e2 hi3 hd2 ho2 hne
      · rw [extV_new]
        intro heq
        exact (hf g heq).2 i e' hi' hd ho' hb
    · rw [extV_new] at hb
      refine ⟨(hf g hb).1, fun i' e2 hi2 hd2 ho2 hne => ?_⟩
      rcases old i' e2 hi2 with ⟨hl', hi3⟩ | ⟨rfl, rfl⟩
      · rw [vold i' hl']; exact (hf g hb).2 i' e2 hi3 hd2 ho2
      · exact absurd rfl hne
def FreshC (ν : Nu) (own : Mem) : List (Sum Value LE) → List Value → Prop
  | .inl _ :: r, _ :: vs => FreshC ν own r vs
  | .inr _ :: r, v :: vs => (∀ g, v.ownBlock = some g → Fresh ν own g) ∧ FreshC ν own r vs
  | _, _ => True
theorem freshC_of {w0 : Base} {ν : Nu} {own : Mem} {mem : Bool} {w w' : World} (h : WR w0 ν own mem w) : ∀ (res : List (Sum Value LE)) (vs : List Value), CellsOut w.heap.size w' res vs → FreshC ν own res vs
  | [], vs, _ => by cases vs <;> trivial
  | .inl x :: r, v :: vs, ho => freshC_of h r vs ho.2
  | .inr e :: r, v :: vs, ho => ⟨fun g hg => by
      have hge := (ho.1.1.2.lt g hg).1
      refine ⟨fun i hi heq => ?_, fun k e' hk hd ho' heq => ?_⟩
      · have := h.lt hi; omega
      · have := (h.rowLt hk hd ho' heq).2; omega, freshC_of h r vs ho.2⟩
  | .inl x :: r, [], ho => ho.elim
  | .inr e :: r, [], ho => ho.elim
theorem freshC_ext {ν : Nu} {own : Mem} {e : LE} {v : Value} : ∀ (res : List (Sum Value LE)) (vs : List Value), FreshC ν own res vs → (∀ g, v.ownBlock = some g → ∀ u ∈ vs, u.ownBlock ≠ some g) → FreshC (extV ν own.l.length v) { own with l := own.l ++ [e] } res vs
  | [], vs, _, _ => by cases vs <;> trivial
  | .inl x :: r, u :: vs, h, hn => freshC_ext r vs h (fun g hg y hy => hn g hg y (List.mem_cons_of_mem _ hy))
  | .inr e' :: r, u :: vs, h, hn => ⟨fun g hg => by
      obtain ⟨f1, f2⟩ := h.1 g hg
      refine ⟨f1, fun k e2 hk hd ho heq => ?_⟩
      rcases Nat.lt_or_ge k own.l.length with hl | hl
      · rw [List.getElem?_append_left hl] at hk
        rw [← (extV_old ν 0 own.l.length v).2 k hl] at heq
        exact f2 k e2 hk hd ho heq
      · have hl2 : k = own.l.length := by
          have := lt_of_some_list hk
          simp at this; omega
        subst hl2
        rw [extV_new] at heq
        exact hn g heq u List.mem_cons_self hg, freshC_ext r vs h.2 (fun g hg y hy => hn g hg y (List.mem_cons_of_mem _ hy))⟩
  | .inl x :: r, [], _, _ => trivial
  | .inr e' :: r, [], _, _ => trivial
theorem addRowsC {w0 : Base} {B : Nat} {w : World} (hB : w0.heap.size ≤ B) (hFB : ∀ g, B ≤ g → w0.F g = none) : ∀ (res : List (Sum Value LE)) (vs : List Value) (ν : Nu) (own : Mem), WR w0 ν own true w → CellsOut B w res vs → FreshC ν own res vs →
    ∃ ν', Agree own.b.length own.l.length ν ν' ∧ WR w0 ν' { own with l := own.l ++ (outC own.l.length res).2 } true w ∧ (outC own.l.length res).1.map (concC ν') = vs
  | [], vs, ν, own, h, ho, _ => by
    cases vs with
    | nil => exact ⟨ν, Agree.refl _ _ _, by simpa [outC] using h, rfl⟩
    | cons v vs => exact ho.elim
  | .inl x :: r, [], ν, own, h, ho, _ => ho.elim
  | .inr e :: r, [], ν, own, h, ho, _ => ho.elim
  | .inl x :: r, v :: vs, ν, own, h, ho, hf => by
    obtain ⟨ν', h1, h2, h3⟩ := addRowsC hB hFB r vs ν own h ho.2 hf
    refine ⟨ν', h1, h2, ?_⟩
    show x :: (outC own.l.length r).1.map (concC ν') = _
    rw [h3, ho.1]
  | .inr e :: r, v :: vs, ν, own, h, ho, hf => by
    have hrow : OwnB w0.heap.size w { e with own := true, dead := false } v := ho.1.1.more hB
    have h0 := h.addRow (e := { e with own := true, dead := false }) rfl hrow hf.1 (fun g hg => hFB g (ho.1.1.2.lt g hg).1)
    obtain ⟨ν', h1, h2, h3⟩ := addRowsC hB hFB r vs (extV ν own.l.length v) { own with l := own.l ++ [{ e with own := true, dead := false }] } h0 ho.2 (freshC_ext r vs hf.2 ho.1.2)
    have hl : (own.l ++ [({ e with own := true, dead := false } : LE)]).length = own.l.length + 1 := by simp
    simp only [hl] at h1 h2 h3
    refine ⟨ν', Agree.trans (extV_old ν _ _ v) h1 (Nat.le_refl _) (by omega), ?_, ?_⟩
    · have e1 : own.l ++ (outC own.l.length (.inr e :: r)).2 = own.l ++ [({ e with own := true, dead := false } : LE)] ++ (outC (own.l.length + 1) r).2 := by
        show own.l ++ (({ e with own := true, dead := false } : LE) :: (outC (own.l.length + 1) r).2) = _
        simp
      rw [e1]; exact h2
    · show ν'.v own.l.length :: (outC (own.l.length + 1) r).1.map (concC ν') = _
      rw [h3, ← h1.2 own.l.length (by omega), extV_new]
theorem outC_lt : ∀ (res : List (Sum Value LE)) (m n : Nat), ∀ x ∈ (outC m res).1, okC n (m + (outC m res).2.length) x
  | [], m, n => fun x hx => by cases hx
  | .inl v :: r, m, n => fun x hx => by
    rcases List.mem_cons.mp (show x ∈ .v [true] v :: (outC m r).1 from hx) with rfl | hx
    · trivial
    · exact outC_lt r m n x hx
  | .inr e :: r, m, n => fun x hx => by
    show okC n (m + ((outC (m + 1) r).2.length + 1)) x
    rcases List.mem_cons.mp (show x ∈ .l m :: (outC (m + 1) r).1 from hx) with rfl | hx
    · show m < _; omega
    · exact (outC_lt r (m + 1) n x hx).mono (Nat.le_refl _) (by omega)
theorem outC_app : ∀ (a b : List (Sum Value LE)) (m : Nat), (outC m (a ++ b)).1 = (outC m a).1 ++ (outC (m + (outC m a).2.length) b).1 ∧ (outC m (a ++ b)).2 = (outC m a).2 ++ (outC (m + (outC m a).2.length) b).2
  | [], b, m => ⟨rfl, rfl⟩
  | .inl v :: r, b, m => by
    obtain ⟨h1, h2⟩ := outC_app r b m
    exact ⟨by show _ :: (outC m (r ++ b)).1 = _; rw [h1]; rfl, h2⟩
  | .inr e :: r, b, m => by
    obtain ⟨h1, h2⟩ := outC_app r b (m + 1)
    have e1 : m + 1 + (outC (m + 1) r).2.length = m + (outC m (.inr e :: r)).2.length := by
      show _ = m + ((outC (m + 1) r).2.length + 1); omega
    rw [e1] at h1 h2
    exact ⟨by show _ :: (outC (m + 1) (r ++ b)).1 = _; rw [h1]; rfl, by show _ :: (outC (m + 1) (r ++ b)).2 = _; rw [h2]; rfl⟩
theorem outX_flat : ∀ (res : List XV) (m : Nat), (outX m res).2 = (outC m (flatX res)).2
  | [], m => rfl
  | .inl v :: r, m => outX_flat r m
  | .inr e :: r, m => by show _ :: (outX (m + 1) r).2 = _ :: (outC (m + 1) (flatX r)).2; rw [outX_flat r (m + 1)]
  | .st cs :: r, m => by
    show (outC m cs).2 ++ (outX (m + (outC m cs).2.length) r).2 = (outC m (cs ++ flatX r)).2
    rw [outX_flat r, (outC_app cs (flatX r) m).2]
theorem outC_len : ∀ (cs : List (Sum Value LE)) (m : Nat), (outC m cs).1.length = cs.length
  | [], m => rfl
  | .inl v :: r, m => congrArg (· + 1) (outC_len r m)
  | .inr e :: r, m => congrArg (· + 1) (outC_len r (m + 1))
theorem outX_shape {ν : Nu} : ∀ (res : List XV) (vs us : List Value) (m : Nat), Shape res vs us → (outC m (flatX res)).1.map (concC ν) = us → (outX m res).1.map (concT ν) = vs
  | [], vs, us, m, h, _ => h.1.symm
  | .inl x :: r, vs, us, m, h, hu => by
    obtain ⟨v, vs', us', rfl, rfl, h'⟩ := h
    have hu : x :: (outC m (flatX r)).1.map (concC ν) = v :: us' := hu
    simp only [List.cons.injEq] at hu
    show x :: (outX m r).1.map (concT ν) = _
    rw [outX_shape r vs' us' m h' hu.2, hu.1]
  | .inr e :: r, vs, us, m, h, hu => by
    obtain ⟨v, vs', us', rfl, rfl, h'⟩ := h
    have hu : ν.v m :: (outC (m + 1) (flatX r)).1.map (concC ν) = v :: us' := hu
    simp only [List.cons.injEq] at hu
    show ν.v m :: (outX (m + 1) r).1.map (concT ν) = _
    rw [outX_shape r vs' us' (m + 1) h' hu.2, hu.1]
  | .st cs :: r, vs, us, m, h, hu => by
    obtain ⟨a, vs', us', rfl, rfl, hl, h'⟩ := h
    have hu : (outC m (cs ++ flatX r)).1.map (concC ν) = a ++ us' := hu
    rw [(outC_app cs (flatX r) m).1, List.map_append] at hu
    obtain ⟨h1, h2⟩ := List.append_inj hu (by rw [List.length_map, outC_len, hl])
    show Value.agg (((outC m cs).1.map (concC ν)).toArray) :: (outX (m + (outC m cs).2.length) r).1.map (concT ν) = _
    rw [h1, outX_shape r vs' us' _ h' h2]
theorem addRows {w0 : Base} {w1 w : World} (res : List XV) (vs : List Value) (ν : Nu) (own : Mem) (mem : Bool) (h1 : WR w0 ν own mem w1) (h : WR w0 ν own true w) (ho : OutOk w1.heap.size w res vs) :
    ∃ ν', Agree own.b.length own.l.length ν ν' ∧ WR w0 ν' { own with l := own.l ++ (outX own.l.length res).2 } true w ∧ (outX own.l.length res).1.map (concT ν') = vs := by
  obtain ⟨us, hs, hc⟩ := ho
  obtain ⟨ν', k1, k2, k3⟩ := addRowsC h1.below.size (fun g hg => h1.fr.fresh hg) (flatX res) us ν own h hc (freshC_of h1 (flatX res) us hc)
  exact ⟨ν', k1, by rw [outX_flat]; exact k2, outX_shape res vs us _ hs k3⟩
theorem outX_lt : ∀ (res : List XV) (m n : Nat), (∀ x ∈ (outX m res).1, okT n (m + (outX m res).2.length) x)
  | [], m, n => fun x hx => by cases hx
  | .inl v :: r, m, n => fun x hx => by
    rcases List.mem_cons.mp (show x ∈ .inl ([true], v) :: (outX m r).1 from hx) with rfl | hx
    · trivial
    · exact outX_lt r m n x hx
  | .inr e :: r, m, n => fun x hx => by
    show okT n (m + ((outX (m + 1) r).2.length + 1)) x
    rcases List.mem_cons.mp (show x ∈ .inr m :: (outX (m + 1) r).1 from hx) with rfl | hx
    · show m < _; omega
    · exact (outX_lt r (m + 1) n x hx).mono (Nat.le_refl _) (by omega)
  | .st cs :: r, m, n => fun x hx => by
    show okT n (m + ((outC m cs).2 ++ (outX (m + (outC m cs).2.length) r).2).length) x
    rw [List.length_append]
    rcases List.mem_cons.mp (show x ∈ .st (outC m cs).1 :: (outX (m + (outC m cs).2.length) r).1 from hx) with rfl | hx
    · exact fun c hc => (outC_lt cs m n c hc).mono (Nat.le_refl _) (by omega)
    · exact (outX_lt r _ n x hx).mono (Nat.le_refl _) (by omega)
theorem argsV_isL {ν : Nu} : ∀ {l : List SV} {vs us : List Value}, argsV l = some vs → IsL ν l us → us = vs
  | [], vs, us, h, hi => by
    cases us with
    | nil => simp only [argsV, Option.some.injEq] at h; exact h
    | cons u us => exact hi.elim
  | .inl (_, v) :: r, vs, us, h, hi => by
    cases us with
    | nil => exact hi.elim
    | cons u us =>
      unfold argsV at h
      split at h
      · rename_i l hl
        simp only [Option.some.injEq] at h
        rw [← h, argsV_isL hl hi.2, show u = v from hi.1]
      · cases h
  | .inr _ :: _, vs, us, h, hi => by simp [argsV] at h
  | .c _ :: _, vs, us, h, hi => by simp [argsV] at h
  | .lp _ _ _ _ :: _, vs, us, h, hi => by simp [argsV] at h
  | .tp _ :: _, vs, us, h, hi => by simp [argsV] at h
  | .fn _ _ _ :: _, vs, us, h, hi => by simp [argsV] at h
  | .sub _ _ _ _ :: _, vs, us, h, hi => by simp [argsV] at h
  | .st _ :: _, vs, us, h, hi => by simp [argsV] at h
  | .mp _ :: _, vs, us, h, hi => by simp [argsV] at h
  | .ia _ _ _ _ :: _, vs, us, h, hi => by simp [argsV] at h
  | .rp _ _ _ _ :: _, vs, us, h, hi => by simp [argsV] at h
  | .any :: _, vs, us, h, hi => by simp [argsV] at h
theorem cellX_ok {s : St} {w0 : Base} {w : World} {ν : Nu} {mem : Bool} (hw : WR w0 ν s.own mem w) : ∀ {l : List CV} {xs : List (Sum Value LE)}, cellX s l = some xs → CellsOk w xs (l.map (concC ν))
  | [], xs, h => by simp only [cellX, Option.some.injEq] at h; subst h; trivial
  | .v fl x :: r, xs, h => by
    unfold cellX at h
    split at h
    · rename_i l hl
      simp only [Option.some.injEq] at h
      subst h
      exact ⟨rfl, cellX_ok hw hl⟩
    · cases h
  | .l k :: r, xs, h => by
    unfold cellX at h
    split at h
    · rename_i e l he hl
      simp only [Option.some.injEq] at h
      subst h
      obtain ⟨hk, hd⟩ := getL_some he
      exact ⟨hw.inB hk hd, cellX_ok hw hl⟩
    · cases h
  | .a _ _ :: _, xs, h => by simp [cellX] at h
theorem argsX_ok {s : St} {w0 : Base} {w : World} {ν : Nu} {mem : Bool} (hw : WR w0 ν s.own mem w) : ∀ {l : List SV} {xs : List XV} {us : List Value}, argsX s l = some xs → (∀ p ∈ subsO s l, p.1 = p.2) → IsL ν l us → ArgsOk w xs us
  | [], xs, us, h, _, hi => by
    simp only [argsX, Option.some.injEq] at h
    subst h
    cases us with
    | nil => trivial
    | cons u us => exact hi.elim
  | .inl (_, v) :: r, xs, us, h, hq, hi => by
    cases us with
    | nil => exact hi.elim
    | cons u us =>
      unfold argsX at h
      split at h
      · rename_i l hl
        simp only [Option.some.injEq] at h
        subst h
        exact ⟨hi.1, argsX_ok hw hl hq hi.2⟩
      · cases h
  | .sub k lo n sz :: r, xs, us, h, hq, hi => by
    cases us with
    | nil => exact hi.elim
    | cons u us =>
      unfold argsX at h
      split at h
      · rename_i e l he hl
        cases hb : Nat.beq sz e.size
        · rw [hb] at h; cases h
        · rw [hb] at h
          simp only [cond_true, Option.some.injEq] at h
          subst h
          obtain ⟨hk, hd⟩ := getL_some he
          have hsz := Nat.eq_of_beq_eq_true hb
          unfold subsO at hq
          simp only [he] at hq
          have hle : lo + n ≤ e.n := by have := hq (pre (decide (lo + n ≤ e.n)), true) List.mem_cons_self; simpa [pre] using this
          exact ⟨by rw [show u = subOf (ν.v k) lo n sz from hi.1, hsz]; exact (hw.inB hk hd).sub lo n hle true, argsX_ok hw hl (fun p hp => hq p (List.mem_cons_of_mem _ hp)) hi.2⟩
      · cases h
  | .c k :: r, xs, us, h, hq, hi => by
    cases us with
    | nil => exact hi.elim
    | cons u us =>
      unfold argsX at h
      split at h
      · rename_i e l he hl
        simp only [Option.some.injEq] at h
        subst h
        obtain ⟨hk, hd⟩ := getL_some he
        exact ⟨by rw [show u = ν.v k from hi.1]; exact hw.inB hk hd, argsX_ok hw hl hq hi.2⟩
      · cases h
  | .st cs :: r, xs, us, h, hq, hi => by
    cases us with
    | nil => exact hi.elim
    | cons u us =>
      unfold argsX at h
      split at h
      · rename_i c l hc hl
        simp only [Option.some.injEq] at h
        subst h
        exact ⟨⟨cs.map (concC ν), hi.1, cellX_ok hw hc⟩, argsX_ok hw hl hq hi.2⟩
      · cases h
  | .inr _ :: _, vs, us, h, _, hi => by simp [argsX] at h
  | .lp _ _ _ _ :: _, vs, us, h, _, hi => by simp [argsX] at h
  | .tp _ :: _, vs, us, h, _, hi => by simp [argsX] at h
  | .fn _ _ _ :: _, vs, us, h, _, hi => by simp [argsX] at h
  | .mp _ :: _, vs, us, h, _, hi => by simp [argsX] at h
  | .ia _ _ _ _ :: _, vs, us, h, _, hi => by simp [argsX] at h
  | .rp _ _ _ _ :: _, vs, us, h, _, hi => by simp [argsX] at h
  | .any :: _, vs, us, h, _, hi => by simp [argsX] at h
theorem pcallS_some {E : Env} {f : FuncId} {args : List SV} {s s' : St} {x : SV} (h : pcallS E f args s = some (x, s')) :
    ∃ l v b fn fl, argsV args = some l ∧ E.pcall f l = some (v, b) ∧ E.P.funcs[f]? = some fn ∧ (fn.name == "runtime.NumGoroutine") = false ∧ fn.body.isNone = false ∧ x = .inl (fl, v) ∧ s' = { s with mem := true, obl := (b, true) :: s.obl } := by
  unfold pcallS at h
  split at h
  · rename_i l hl
    split at h
    · rename_i v b hb
      split at h
      · rename_i fn hf
        cases hn : (fn.name == "runtime.NumGoroutine" || fn.body.isNone)
        · rw [hn] at h
          simp only [cond_false, Option.some.injEq, Prod.mk.injEq] at h
          simp only [Bool.or_eq_false_iff] at hn
          exact ⟨l, v, b, fn, _, hl, hb, hf, hn.1, hn.2, h.1.symm, h.2.symm⟩
        · rw [hn] at h; cases h
      · cases h
    · cases h
  · cases h
theorem lcallS_some {E : Env} {f : FuncId} {args : List SV} {s s' : St} {x : SV} (h : lcallS E f args s = some (x, s')) :
    ∃ l tup res b fn, argsX s args = some l ∧ E.lcall f l = some (tup, res, b) ∧ E.P.funcs[f]? = some fn ∧ (fn.name == "runtime.NumGoroutine") = false ∧ fn.body.isNone = false ∧
      s' = { s with own := { s.own with l := s.own.l ++ (outX s.own.l.length res).2 }, mem := true, obl := (b, true) :: (subsO s args ++ s.obl) } ∧
      ((tup = true ∧ x = .tp (outX s.own.l.length res).1) ∨ (tup = false ∧ ∃ p, (outX s.own.l.length res).1 = [.inl p] ∧ x = .inl p) ∨ (tup = false ∧ ∃ k, (outX s.own.l.length res).1 = [.inr k] ∧ x = .c k) ∨ (tup = false ∧ ∃ cs, (outX s.own.l.length res).1 = [.st cs] ∧ x = .st cs)) := by
  unfold lcallS at h
  split at h
  · rename_i l hl
    split at h
    · rename_i tup res b hb
      split at h
      · rename_i fn hf
        cases hn : (fn.name == "runtime.NumGoroutine" || fn.body.isNone)
        · rw [hn] at h
          simp only [cond_false] at h
          simp only [Bool.or_eq_false_iff] at hn
          refine ⟨l, tup, res, b, fn, hl, hb, hf, hn.1, hn.2, ?_⟩
          split at h
          · rename_i r es ho
            simp only [Option.some.injEq, Prod.mk.injEq] at h
            obtain ⟨rfl, rfl⟩ := h
            rw [ho]; exact ⟨rfl, .inl ⟨rfl, rfl⟩⟩
          · rename_i p es ho
            simp only [Option.some.injEq, Prod.mk.injEq] at h
            obtain ⟨rfl, rfl⟩ := h
            rw [ho]; exact ⟨rfl, .inr (.inl ⟨rfl, p, rfl, rfl⟩)⟩
          · rename_i cs es ho
            simp only [Option.some.injEq, Prod.mk.injEq] at h
            obtain ⟨rfl, rfl⟩ := h
            rw [ho]; exact ⟨rfl, .inr (.inr (.inr ⟨rfl, cs, rfl, rfl⟩))⟩
          · rename_i k es ho
            simp only [Option.some.injEq, Prod.mk.injEq] at h
            obtain ⟨rfl, rfl⟩ := h
            rw [ho]; exact ⟨rfl, .inr (.inr (.inl ⟨rfl, k, rfl, rfl⟩))⟩
          · cases h
        · rw [hn] at h; cases h
      · cases h
    · cases h
  · cases h
theorem bcallS_some {E : Env} {f : FuncId} {args : List SV} {s s' : St} {x : SV} (h : bcallS E f args s = some (x, s')) :
    ∃ op i r fl T e acc v add c fn vs fl' flv, E.bop f = some op ∧ args = .inr (i, 0, none) :: r ∧ s.lo ≤ i ∧ (∃ b, s.own.b[i]? = some b ∧ b.kd = .bld fl T e acc) ∧ argsV r = some vs ∧ E.bt = some (T, e) ∧ bopR op acc vs = some (v, add, c) ∧ E.P.funcs[f]? = some fn ∧ (fn.name == "runtime.NumGoroutine") = false ∧ fn.body.isNone = false ∧ quietB s i e = true ∧
      (Holds' s' → c = true ∧ fitB acc add = true) ∧ s'.mem = true ∧ s'.orc = s.orc ∧ x = .inl (flv, v) ∧ (s'.obl = (pre (c && fitB acc add), true) :: s.obl ∧ True ∨ s'.obl = s.obl ∧ True) ∧ s'.tmps = s.tmps ∧
      s'.own = { s.own with b := s.own.b.set i ⟨[], 0, .bld fl' T e (accB (anyF fl || r.any fun x => anyF (flS x)) acc add)⟩ } ∧ s'.lo = s.lo ∧ s'.llo = s.llo ∧ True := by
  unfold bcallS at h
  split at h
  · rename_i op i r ho
    cases hlo : Nat.ble s.lo i
    · rw [hlo] at h; cases h
    · rw [hlo] at h
      simp only [cond_true] at h
      split at h
      · rename_i b vs hb hvs
        split at h
        · rename_i fl T e acc hk
          split at h
          · rename_i T' e' v add c fn hbt hop hf
            simp only [cond_eq_ite] at h
            split at h
            · cases h
            rename_i hq
            have hq : (fn.name == "runtime.NumGoroutine" || fn.body.isNone || !Nat.beq T T' || !Nat.beq e e' || !quietB s i e) = false := Bool.eq_false_iff.mpr hq
            simp only [Bool.or_eq_false_iff, Bool.not_eq_false'] at hq
            obtain ⟨⟨⟨⟨q1, q2⟩, q3⟩, q4⟩, q5⟩ := hq
            have q3 := Nat.eq_of_beq_eq_true q3
            have q4 := Nat.eq_of_beq_eq_true q4
            subst q3 q4
            split at h
            · rename_i hop2
              simp only [Option.some.injEq, Prod.mk.injEq] at h
              obtain ⟨rfl, rfl⟩ := h
              refine ⟨op, i, r, fl, T, e, acc, v, add, c, fn, vs, [true], _, ho, rfl, Nat.le_of_ble_eq_true hlo, ⟨b, hb, hk⟩, hvs, hbt, hop, hf, q1, q2, q5, fun hh => ?_, rfl, rfl, rfl, .inl ⟨rfl, trivial⟩, rfl, by rw [hop2], rfl, rfl, trivial⟩
              have := hh _ List.mem_cons_self
              simpa [pre] using this
            · rename_i hop2
              split at h
              · rename_i hc
                simp only [Option.some.injEq, Prod.mk.injEq] at h
                obtain ⟨rfl, rfl⟩ := h
                refine ⟨op, i, r, fl, T, e, acc, v, add, c, fn, vs, [], [], ho, rfl, Nat.le_of_ble_eq_true hlo, ⟨b, hb, hk⟩, hvs, hbt, hop, hf, q1, q2, q5, fun hh => by simpa using hc, rfl, rfl, rfl, .inr ⟨rfl, trivial⟩, rfl, ?_, rfl, rfl, trivial⟩
                have hop2 : (anyF fl || r.any fun x => anyF (flS x)) = false := by simpa using hop2
                rw [hop2]
              · cases h
          · cases h
        · cases h
      · cases h
  · cases h
theorem acallS_some {E : Env} {f : FuncId} {args : List SV} {s s' : St} {x : SV} (h : acallS E f args s = some (x, s')) :
    ∃ l v b fn, argsV args = some l ∧ E.acall f l = some (v, b) ∧ E.P.funcs[f]? = some fn ∧ (fn.name == "runtime.NumGoroutine") = false ∧ fn.body.isNone = false ∧ x = .tp [.inl ([true], v), .inr s.own.l.length] ∧ s' = { s with own := { s.own with l := s.own.l ++ [deadE] }, mem := true, obl := (b, true) :: s.obl } := by
  unfold acallS at h; cases h
theorem WR.addDead {w0 : Base} {ν : Nu} {own : Mem} {mem : Bool} {w : World} (h : WR w0 ν own mem w) (v : Value) : WR w0 (extV ν own.l.length v) { own with l := own.l ++ [deadE] } true w := by
  have vold : ∀ i, i < own.l.length → (extV ν own.l.length v).v i = ν.v i := fun i hi => ((extV_old ν 0 own.l.length v).2 i hi).symm
  have old : ∀ i e', (own.l ++ [deadE])[i]? = some e' → e'.dead = false → i < own.l.length ∧ own.l[i]? = some e' := fun i e' hi hd => by
    rcases Nat.lt_or_ge i own.l.length with hl | hl
    · rw [List.getElem?_append_left hl] at hi; exact ⟨hl, hi⟩
    · have hl2 : i = own.l.length := by
        have := lt_of_some_list hi
        simp at this; omega
      subst hl2
      rw [List.getElem?_append_right (Nat.le_refl _), Nat.sub_self] at hi
      simp at hi
      subst hi; cases hd
  refine ⟨h.below, fun i b hi => ⟨(h.blk i b hi).1.congr (h.okb i b hi) (extV_old ν own.b.length own.l.length v), (h.blk i b hi).2⟩, h.okb.mono (Nat.le_refl _) (by simp), h.inj, fun i e' hi hd => ?_, fun i e' hi hd ho' g hb => ?_, (fun h => by cases h), ⟨h.fr.here, h.fr.offb, fun i e' hi hd ho' g hb => by
    obtain ⟨hl, hi'⟩ := old i e' hi hd
    rw [vold i hl] at hb; exact h.fr.offl i e' hi' hd ho' g hb⟩⟩
  · obtain ⟨hl, hi'⟩ := old i e' hi hd
    rw [vold i hl]; exact h.lst i e' hi' hd
  · obtain ⟨hl, hi'⟩ := old i e' hi hd
    rw [vold i hl] at hb
    obtain ⟨s1, s2⟩ := h.sep i e' hi' hd ho' g hb
    refine ⟨s1, fun i' e2 hi2 hd2 ho2 hne => ?_⟩
    obtain ⟨hl', hi3⟩ := old i' e2 hi2 hd2
    rw [vold i' hl']; exact s2 i' e2 hi3 hd2 ho2 hne
theorem accB_any (op : Bool) (acc : ByteArray) (add : Option ByteArray) : accB op acc add = accB true acc add := by
  cases add with
  | none => rfl
  | some s => cases op <;> simp [accB, catZ_eq]
theorem initS_mem' : ∀ (l : List SV) (k : Nat), ∀ p ∈ initS k l, p.2 ∈ l
  | [], _, p, hp => by cases hp
  | x :: r, k, p, hp => by
    rcases List.mem_cons.mp hp with rfl | hp
    · exact List.mem_cons_self
    · exact List.mem_cons_of_mem _ (initS_mem' r _ p hp)
theorem quietB_blk {s : St} {i : Nat} {e : TypeId} (h : quietB s i e = true) {j : Nat} {b : Blk} (hj : s.own.b[j]? = some b) (hne : j ≠ i) : (b.kd = .cells ∧ b.elem ≠ e) ∨ ∃ fl str pos, b.kd = .iter fl str pos := by
  unfold quietB at h
  simp only [Bool.and_eq_true] at h
  have := List.all_eq_true.mp h.1 j (List.mem_range.mpr (lt_of_some_list hj))
  rw [hj] at this
  simp only [Bool.or_eq_true] at this
  rcases this with h0 | h0
  · exact absurd (Nat.eq_of_beq_eq_true h0).symm hne
  · split at h0
    · rename_i hk
      refine .inl ⟨hk, fun heq => ?_⟩
      rw [heq] at h0; simp at h0
    · rename_i fl str pos hk
      exact .inr ⟨_, _, _, hk⟩
    · cases h0
    · cases h0
    · cases h0
    · cases h0
theorem quietB_lst {s : St} {i : Nat} {e : TypeId} (h : quietB s i e = true) {k : Nat} {l : LE} (hk : s.own.l[k]? = some l) (hd : l.dead = false) (ho : l.own = true) : l.elT ≠ e := fun heq => by
  unfold quietB at h
  simp only [Bool.and_eq_true] at h
  have := List.all_eq_true.mp h.2 l (List.mem_of_getElem? hk)
  rw [hd, ho, heq] at this
  simp at this
theorem WR.bcall {w0 : Base} {ν : Nu} {s : St} {mem : Bool} {w w' : World} (h : WR w0 ν s.own mem w) {i : Nat} {b : Blk} {fl : List Bool} {T e : TypeId} {acc : ByteArray} (hi : s.own.b[i]? = some b) (hk : b.kd = .bld fl T e acc) (hq : quietB s i e = true) {nb : Blk} (hc : nb.cells = [])
    (h1 : BOk w0.heap.size ν w' (ν.l i) nb) (h2 : Below w0.heap.size w w') (h3 : Lib.OthersKept e (some (ν.l i)) w w') (hF : w0.F = fun _ => none) : WR w0 ν { s.own with b := s.own.b.set i nb } true w' := by
  have hil := lt_of_some_list hi
  have hge := (h.blk i b hi).2
  have hcs : ∀ c ∈ nb.cells, okV s.own.b.length s.own.l.length c := fun c hcm => by rw [hc] at hcm; cases hcm
  refine ⟨h.below.trans h2, fun j c hj => ?_, (h.okb.set (i := i) (b := nb) hcs).mono (by simp) (Nat.le_refl _), fun j k hj hk he => h.inj j k (by simpa using hj) (by simpa using hk) he, fun k l hl hd => ?_, fun k l hl hd ho g hg => ⟨fun j hj => (h.sep k l hl hd ho g hg).1 j (by simpa using hj), (h.sep k l hl hd ho g hg).2⟩, (fun h => by cases h), by rw [hF]; exact .void _ _ _⟩
  · by_cases hij : i = j
    · subst hij
      rw [List.getElem?_set_self hil] at hj
      simp only [Option.some.injEq] at hj
      subst hj
      exact ⟨h1, hge⟩
    · rw [List.getElem?_set_ne hij] at hj
      obtain ⟨k1, k2⟩ := h.blk j c hj
      have hjl := lt_of_some_list hj
      have hne : some (ν.l j) ≠ some (ν.l i) := fun e => hij (h.inj i j hil hjl (Option.some.inj e).symm)
      refine ⟨?_, k2⟩
      rcases quietB_blk hq hj (fun e => hij e.symm) with ⟨q1, q2⟩ | ⟨f', str, pos, q1⟩
      · unfold BOk at k1 ⊢
        rw [q1] at k1 ⊢
        exact h3 _ _ k1 hne fun c fz heq => by
          simp only [Obj.cells.injEq] at heq
          exact q2 heq.2.1
      · unfold BOk at k1 ⊢
        rw [q1] at k1 ⊢
        exact h3 _ _ k1 hne fun c fz heq => by cases heq
  · have h0 := h.lst k l hl hd
    unfold LOk at h0 ⊢
    cases ho : l.own
    · rw [ho] at h0
      exact InB.kept h0 fun b hb => h2.block b hb
    · rw [ho] at h0
      refine ⟨h0.1, h0.2.1, ?_⟩
      rcases h0.2.2 with hn | ⟨g, cap, cur, hv, hb, hg, rest⟩
      · exact .inl hn
      · refine .inr ⟨g, cap, cur, hv, hb, h3 _ _ hg (fun heq => ?_) (fun c fz heq => ?_), rest⟩
        · exact (h.sep k l hl hd ho g (by rw [hv]; rfl)).1 i hil (Option.some.inj heq).symm
        · simp only [Obj.cells.injEq] at heq
          exact quietB_lst hq hl hd ho heq.2.1
theorem enterO_st {E : Env} {ih : Runner} (hih : RunSt ih) : ClSt (enterO E ih) := fun f args s x s' hlo hllo hokb hargs h => by
  unfold enterO at h
  split at h
  · rename_i fn hf
    cases hb : (fn.name == "runtime.NumGoroutine")
    · rw [hb] at h
      simp only [cond_false] at h
      split at h
      · rename_i c hbody
        have hg : Good { s with tmps := initS 0 args } := ⟨hlo, hllo, fun p hp => hargs _ (initS_mem' _ _ p hp), hokb⟩
        split at h
        · rename_i s1 hr
          obtain ⟨l1, g1⟩ := hih _ _ _ _ _ hg hr
          split at h
          · rename_i u hu
            simp only [Option.some.injEq, Prod.mk.injEq] at h
            obtain ⟨rfl, rfl⟩ := h
            exact ⟨⟨l1.ext, l1.len, l1.llen, l1.lo, l1.llo, l1.keep, l1.lkeep⟩, simRes_st hu g1, g1.okb⟩
          · cases h
        · rename_i s1 hr
          obtain ⟨l1, g1⟩ := hih _ _ _ _ _ hg hr
          split at h
          · rename_i u hu
            simp only [Option.some.injEq, Prod.mk.injEq] at h
            obtain ⟨rfl, rfl⟩ := h
            exact ⟨⟨l1.ext, l1.len, l1.llen, l1.lo, l1.llo, l1.keep, l1.lkeep⟩, simRes_st hu g1, g1.okb⟩
          · cases h
        · cases h
      · cases h
    · rw [hb] at h; cases h
  · cases h
theorem enterS_st {E : Env} {ih : Runner} (hih : RunSt ih) : ClSt (enterS E ih) := fun f args s x s' hlo hllo hokb hargs h => by
  unfold enterS at h
  split at h
  · rename_i r hr
    obtain ⟨l, v, b, fn, fl, _, _, _, _, _, rfl, rfl⟩ := pcallS_some (hr.trans h)
    exact ⟨.same (fun p hp => List.mem_cons_of_mem _ hp) rfl rfl rfl, trivial, hokb⟩
  · split at h
    · rename_i r hr
      obtain ⟨l, tup, res, b, fn, _, _, _, _, _, rfl, hx⟩ := lcallS_some (hr.trans h)
      refine ⟨⟨fun p hp => List.mem_cons_of_mem _ (List.mem_append_right _ hp), Nat.le_refl _, by simp, rfl, rfl, fun _ _ => rfl, fun i hi => List.getElem?_append_left (Nat.lt_of_lt_of_le hi hllo)⟩, ?_, hokb.mono (Nat.le_refl _) (by simp)⟩
      have hlt := outX_lt res s.own.l.length s.own.b.length
      rcases hx with ⟨_, rfl⟩ | ⟨_, p, _, rfl⟩ | ⟨_, k, he, rfl⟩ | ⟨_, cs, he, rfl⟩
      · intro x hx
        show okT s.own.b.length (s.own.l ++ (outX s.own.l.length res).2).length x
        rw [List.length_append]
        exact hlt x hx
      · trivial
      · show k < (s.own.l ++ (outX s.own.l.length res).2).length
        rw [List.length_append]
        exact hlt (.inr k) (by rw [he]; simp)
      · show okT s.own.b.length (s.own.l ++ (outX s.own.l.length res).2).length (.st cs)
        rw [List.length_append]
        exact hlt (.st cs) (by rw [he]; simp)
    · split at h
      · rename_i r hr
        obtain ⟨op, i, r', fl, T, e, acc, v, add, c, fn, vs, fl', flv, k1, rfl, k3, k4, k5, _, _, _, _, _, _, _, _, _, rfl, hobl, htm, hown, hlo', hllo', _⟩ := bcallS_some (hr.trans h)
        refine ⟨⟨fun p hp => by rcases hobl with ⟨e, _⟩ | ⟨e, _⟩ <;> rw [e]; exact List.mem_cons_of_mem _ hp; exact hp, by rw [hown]; simp, by rw [hown]; exact Nat.le_refl _, hlo', hllo', fun j hj => ?_, fun _ _ => by rw [hown]⟩, trivial, ?_⟩
        · rw [hown]
          show (s.own.b.set i _)[j]? = _
          rw [List.getElem?_set_ne (by omega)]
        · rw [hown]
          exact (hokb.set (i := i) (b := ⟨[], 0, .bld fl' T e (accB (anyF fl || r'.any fun x => anyF (flS x)) acc add)⟩) (fun c hc => by cases hc)).mono (by simp) (Nat.le_refl _)
      · split at h
        · rename_i r hr
          obtain ⟨l, v, b, fn, _, _, _, _, _, rfl, rfl⟩ := acallS_some (hr.trans h)
          refine ⟨⟨fun p hp => List.mem_cons_of_mem _ hp, Nat.le_refl _, by simp, rfl, rfl, fun _ _ => rfl, fun i hi => List.getElem?_append_left (Nat.lt_of_lt_of_le hi hllo)⟩, fun x hx => ?_, hokb.mono (Nat.le_refl _) (by simp)⟩
          rcases List.mem_cons.mp hx with rfl | hx
          · trivial
          · rw [List.mem_singleton.mp hx]
            show s.own.l.length < (s.own.l ++ [deadE]).length
            rw [List.length_append]; simp
        · split at h
          · rename_i r hr
            exact effS_st f args s x s' hlo hllo hokb hargs (hr.trans h)
          · exact enterO_st hih f args s x s' hlo hllo hokb hargs h
theorem look_init {ν : Nu} : ∀ (l : List SV) (vs : List Value) (k t : Nat), IsL ν l vs → k ≤ t → Is ν (look (initS k l) t) ((vs[t - k]?).getD undef)
  | [], vs, k, t, _, _ => trivial
  | x :: r, [], k, t, h, _ => h.elim
  | x :: r, v :: vs, k, t, h, hkt => by
    unfold initS look
    cases hb : Nat.beq k t
    · have hne : k ≠ t := fun e => by rw [e] at hb; simp at hb
      have := look_init r vs (k + 1) t h.2 (by omega)
      rw [show t - k = (t - (k + 1)) + 1 by omega]
      exact this
    · have he : k = t := Nat.eq_of_beq_eq_true hb
      subst he
      simpa using h.1
theorem isL_len {ν : Nu} : ∀ (l : List SV) (vs : List Value), IsL ν l vs → l.length = vs.length
  | [], [], _ => rfl
  | x :: r, v :: vs, h => by simp [isL_len r vs h.2]
  | [], _ :: _, h => h.elim
  | _ :: _, [], h => h.elim
theorem tr_init {args : List SV} {vs : List Value} {ν : Nu} (h : IsL ν args vs) (m : Nat) (s : St) :
    TR (args.length + (m - args.length)) ν { s with tmps := initS 0 args } { tmps := vs.toArray ++ Array.replicate (m - vs.toArray.size) undef, defers := [] } := by
  have hl := isL_len _ _ h
  refine ⟨by simp [hl], fun t => ?_, rfl⟩
  show Is ν (look (initS 0 args) t) _
  have h0 := look_init args vs 0 t h (Nat.zero_le _)
  rw [Nat.sub_zero] at h0
  have e : (vs.toArray ++ Array.replicate (m - vs.toArray.size) undef).getD t undef = (vs[t]?).getD undef := by
    simp only [Array.getD_eq_getD_getElem?, Array.getElem?_append, List.size_toArray, List.getElem?_toArray]
    by_cases ht : t < vs.length
    · rw [if_pos ht]
    · rw [if_neg ht, List.getElem?_eq_none (by omega), Array.getElem?_replicate]
      split <;> rfl
  rw [e]; exact h0
theorem enterO_ok {E : Env} {w0 : Base} {k : Nat} {ih : Runner} (hst : RunSt ih) (hok : RunOk E w0 k ih) : ClOk E w0 (enterO E ih) := fun f args s x s' hlo hllo hargs h hh ν w vs hvs hw => by
  unfold enterO at h
  split at h
  · rename_i fn hf
    cases hb : (fn.name == "runtime.NumGoroutine")
    · rw [hb] at h
      simp only [cond_false] at h
      split at h
      · rename_i c hbody
        have hg : Good { s with tmps := initS 0 args } := ⟨hlo, hllo, fun p hp => hargs _ (initS_mem' _ _ p hp), hw.okb⟩
        refine ⟨⟨fn, hf, hb, by rw [hbody]; rfl⟩, calls_of_wp hf hbody ?_⟩
        split at h
        · rename_i s1 hr
          split at h
          · rename_i u hu
            simp only [Option.some.injEq, Prod.mk.injEq] at h
            obtain ⟨rfl, rfl⟩ := h
            exact (hok _ _ _ _ _ hg hr hh _ ν _ w (tr_init hvs fn.ntmps s) hw fun ν' a' w' ha ht' hw' => by
              obtain ⟨v, hv, hres⟩ := simRes_ok hu ht' hw'
              exact bodyPost_end hres ht'.df ⟨ν', v, ha, rfl, hv, hw'⟩).wp
          · cases h
        · rename_i s1 hr
          split at h
          · rename_i u hu
            simp only [Option.some.injEq, Prod.mk.injEq] at h
            obtain ⟨rfl, rfl⟩ := h
            exact (hok _ _ _ _ _ hg hr hh _ ν _ w (tr_init hvs fn.ntmps s) hw fun ν' a' w' ha ht' hw' => by
              obtain ⟨v, hv, hres⟩ := simRes_ok hu ht' hw'
              exact bodyPost_ret hres ht'.df ⟨ν', v, ha, rfl, hv, hw'⟩).wp
          · cases h
        · cases h
      · cases h
    · rw [hb] at h; cases h
  · cases h
theorem enterS_ok {E : Env} (HC : CallOk E) {w0 : Base} (hG : GlobB E w0) {k : Nat} {ih : Runner} (hst : RunSt ih) (hok : RunOk E w0 k ih) : ClOk E w0 (enterS E ih) := fun f args s x s' hlo hllo hargs h hh ν w vs hvs hw => by
  unfold enterS at h
  split at h
  · rename_i r hr
    obtain ⟨l, v, b, fn, fl, hl, hb, hf, hn, hbody, rfl, rfl⟩ := pcallS_some (hr.trans h)
    have e : b = true := hh (b, true) List.mem_cons_self
    subst e
    refine ⟨⟨fn, hf, hn, hbody⟩, ?_⟩
    rw [argsV_isL hl hvs]
    exact (HC.2.1 f l v hb w (hG.below hw.below)).mono fun e w' ⟨he, hb⟩ => ⟨ν, v, Agree.refl _ _ _, he, rfl, hw.grown hb⟩
  · split at h
    · rename_i r hr
      obtain ⟨l, tup, res, b, fn, hl, hb, hf, hn, hbody, rfl, hx⟩ := lcallS_some (hr.trans h)
      have e : b = true := hh (b, true) List.mem_cons_self
      subst e
      refine ⟨⟨fn, hf, hn, hbody⟩, ?_⟩
      refine (HC.2.2.1 f l tup res hb w vs (hG.below hw.below) (argsX_ok hw hl (fun p hp => hh p (List.mem_cons_of_mem _ (List.mem_append_left _ hp))) hvs)).mono fun e w' ⟨us, he, hout, hbel⟩ => ?_
      obtain ⟨ν', h1, h2, h3⟩ := addRows res us ν s.own _ hw (hw.grown hbel) hout
      refine ⟨ν', _, h1, he, ?_, h2⟩
      rcases hx with ⟨rfl, rfl⟩ | ⟨rfl, p, hp, rfl⟩ | ⟨rfl, k, hp, rfl⟩ | ⟨rfl, cs, hp, rfl⟩
      · show Value.tuple us.toArray = .tuple ((outX s.own.l.length res).1.map (concT ν')).toArray
        rw [h3]
      · rw [hp] at h3
        rw [← h3]; rfl
      · rw [hp] at h3
        rw [← h3]; rfl
      · rw [hp] at h3
        rw [← h3]; rfl
    · split at h
      · rename_i r hr
        obtain ⟨op, i, r', fl, T, e, acc, v, add, c, fn, us, fl', flv, ho, rfl, hlo', ⟨b, hb, hk⟩, hus, hbt, hop, hf, hn, hbody, hq, hh', hmem, _, rfl, _, _, hown, _, _, _⟩ := bcallS_some (hr.trans h)
        obtain ⟨rfl, hfit⟩ := hh' hh
        refine ⟨⟨fn, hf, hn, hbody⟩, ?_⟩
        have hvs' : vs = .pointer (some ⟨ν.l i, 0, none⟩) :: us := by
          cases vs with
          | nil => exact hvs.elim
          | cons v0 vs => rw [argsV_isL hus hvs.2, show v0 = _ from hvs.1]; rfl
        subst hvs'
        have hB := (hw.blk i b hb).1
        have hBk := hB
        unfold BOk at hB
        rw [hk] at hB
        refine (HC.2.2.2.1 f op T e ho hbt acc us v add hop w0.heap.size (ν.l i) w hB.1 hfit hw.below.size).mono fun r w' ⟨h1, h2, h3, h4⟩ => ⟨ν, v, Agree.refl _ _ _, h1, rfl, ?_⟩
        rw [hmem, hown]
        refine hw.bcall hb hk hq (nb := ⟨[], 0, .bld fl' T e (accB (anyF fl || r'.any fun x => anyF (flS x)) acc add)⟩) rfl ?_ h3 h4 (hG.free (by rw [hbt]; rfl))
        show Lib.IsBuilderF T e w0.heap.size (ν.l i) _ w' ∧ T ≠ e
        rw [accB_any]
        exact ⟨h2, hB.2⟩
      · split at h
        · rename_i r hr
          obtain ⟨l, v, b, fn, hl, hb, hf, hn, hbody, rfl, rfl⟩ := acallS_some (hr.trans h)
          have e : b = true := hh (b, true) List.mem_cons_self
          subst e
          refine ⟨⟨fn, hf, hn, hbody⟩, ?_⟩
          rw [argsV_isL hl hvs]
          refine (HC.2.2.2.2.1 f l v hb w (hG.below hw.below)).mono fun e w' ⟨⟨u, he⟩, hb⟩ => ?_
          refine ⟨extV ν s.own.l.length u, _, extV_old _ _ _ _, he, ?_, (hw.grown hb).addDead u⟩
          show Value.tuple #[v, u] = .tuple ([v, (extV ν s.own.l.length u).v s.own.l.length] : List Value).toArray
          rw [extV_new]
        · split at h
          · rename_i r hr
            exact effS_ok HC.2.2.2.2.2 hG f args s x s' hlo hllo hargs (hr.trans h) hh ν w vs hvs hw
          · exact enterO_ok hst hok f args s x s' hlo hllo hargs h hh ν w vs hvs hw
end Go.Proofs.YtiajbijbhhpllaaDoor.S2
