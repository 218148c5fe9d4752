/- The evaluator with lists answers what the call returns: append, and all operations that write. No word of the program. -/
import Derived.Test.YtmaffamhjmlonaaS2C
set_option linter.unusedVariables false
set_option linter.unusedSimpArgs false
namespace Go.Proofs.Ytmaffamhjmlonaa.S2
open Go Go.RowKit Sim
theorem append_where {P : Program} {w w' : World} {base : Nat} {t ty e : TypeId} {i : TypeInfo} {z v v' : Value} {n : Nat} {xs : List Value} {a : Addr} {m c : Nat} {news : List Value}
   (hr : (Builtin.append_ #[t, t] ty #[v, .slice (some a) m c]).run P w = .ok v' w') (ht : P.underlying t = some (.slice e)) (hi : P.info? e = some i) (hz : i.zero = some z) (hown : w.ownsRow base e i.size v n xs)
   (hm : 0 < m) (hl : news.length = m * i.size) (hnews : ∀ j u, news[j]? = some u -> w.cell? (a.add j) = some u) (h1 : ∀ u ∈ news, u.oneCell' = true) (h63 : n + m <= maxLen) (hbytes : (n + m) * i.bytes <= 140737488355328) :
   v'.ownBlock = v.ownBlock \/ v'.ownBlock = some w.heap.size := by
 have h63' : n + m <= 9223372036854775807 := by simp only [maxLen] at h63; omega
 rcases hown.2 with ⟨rfl, rfl⟩ | ⟨g, cap, cur, rfl, _, hg, hnc, hcm, hcs, htake⟩
 . have h := run_append_nil (P := P) w t ty e i z ht hi hz a m c news hl hnews hm (by omega) (by rw [Nat.zero_add] at hbytes; omega)
   rw [hr] at h
   simp only [Result.ok.injEq] at h
   exact .inr (by rw [h.1]; rfl)
 . by_cases hroom : n + m <= cap
   . have h := run_append_room (P := P) w t ty e i ht hi g n cap cur hg a m c news hl hnews h1 hroom (by rw [hl, hcs, <- Nat.add_mul]; exact Nat.mul_le_mul_right _ hroom)
     rw [hr] at h
     simp only [Result.ok.injEq] at h
     exact .inl (by rw [h.1]; rfl)
   . have h := run_append_grow (P := P) w t ty e i z ht hi hz ⟨g, 0, none⟩ n cap xs hown.1 (World.ownsRow.cells hown (g := g) rfl) a m c news hl hnews (by omega) (by omega) (growslice_fits (by omega) hbytes)
     rw [hr] at h
     simp only [Result.ok.injEq] at h
     exact .inr (by rw [h.1]; rfl)
theorem flat_join {f g : Nat -> List Value} (n : Nat) : ∀ (m : Nat), (List.range (n + m)).flatMap (joinE n f g) = (List.range n).flatMap f ++ (List.range m).flatMap g
 | 0 => by
   simp only [Nat.add_zero, List.range_zero, List.flatMap_nil, List.append_nil]
   unfold List.flatMap
   congr 1
   refine List.map_congr_left fun i hi => ?_
   have : Nat.blt i n = true := by simpa [Nat.blt_eq] using List.mem_range.mp hi
   unfold joinE; rw [this]; rfl
 | m + 1 => by
   have hn : Nat.blt (n + m) n = false := by
     cases h : Nat.blt (n + m) n
     . rfl
     . have : n + m < n := by simpa [Nat.blt_eq] using h
       omega
   have e : joinE n f g (n + m) = g m := by unfold joinE; rw [hn]; show g (n + m - n) = g m; congr 1; omega
   rw [<- Nat.add_assoc, List.range_succ, List.flatMap_append, flat_join n m, List.range_succ (n := m), List.flatMap_append, List.append_assoc]
   simp only [List.flatMap_cons, List.flatMap_nil, List.append_nil, e]
theorem killL_len (l : List LE) (k? : Option Nat) : (killL l k?).length = l.length := by
 unfold killL
 split
 . rfl
 . split <;> simp
theorem killL_live {l : List LE} {k? : Option Nat} {i : Nat} {e : LE} (h : (killL l k?)[i]? = some e) (hd : e.dead = false) : l[i]? = some e /\ k? ≠ some i := by
 unfold killL at h
 split at h
 . exact ⟨h, by simp⟩
 . rename_i k
   split at h
   . rename_i e' he
     by_cases hik : k = i
     . subst hik
       rw [List.getElem?_set_self (lt_of_some_list he)] at h
       simp only [qS] at h
       subst h
       cases hd
     . rw [List.getElem?_set_ne hik] at h
       exact ⟨h, by simpa using hik⟩
   . rename_i he
     refine ⟨h, ?_⟩
     intro e'
     simp only [qS] at e'
     subst e'
     rw [he] at h; cases h
theorem killL_low {l : List LE} {k? : Option Nat} {lo : Nat} (h : ∀ k, k? = some k -> lo <= k) (i : Nat) (hi : i < lo) : (killL l k?)[i]? = l[i]? := by
 unfold killL
 split
 . rfl
 . rename_i k
   have := h k rfl
   split
   . rw [List.getElem?_set_ne (by omega)]
   . rfl
theorem baseOf_ok {s : St} {e : TypeId} {size : Nat} {y : SV} {n : Nat} {f : Nat -> List Value} {o1 : Bool} {k? : Option Nat} (h : baseOf s e size y = some (n, f, o1, k?)) {w0 : Base} {w : World} {ν : Nu} {mem : Bool} (hw : WR w0 ν s.own mem w) :
   w.ownsRow w0.heap.size e size (conc ν y) n ((List.range n).flatMap f) /\ (∀ j, j < n -> (f j).length = size /\ (f j).all Value.oneCell' = true) /\ (y ≠ .any) /\ (∀ k, k? = some k -> s.llo <= k) /\
     ∀ g, (conc ν y).ownBlock = some g -> ∃ k e', k? = some k /\ s.own.l[k]? = some e' /\ e'.dead = false /\ e'.own = true /\ (ν.v k).ownBlock = some g := by
 unfold baseOf at h
 split at h
 . rename_i k
   split at h
   . rename_i e' he
     obtain ⟨hk, hd⟩ := getL_some he
     cases hb : (e'.own && Nat.beq e'.elT e && Nat.beq e'.size size && Nat.ble s.llo k)
     . rw [hb] at h; cases h
     . rw [hb] at h
       simp only [cond_true, qS, qP] at h
       obtain ⟨rfl, rfl, rfl, rfl⟩ := h
       simp only [Bool.and_eq_true] at hb
       obtain ⟨⟨⟨ho, h1⟩, h2⟩, h3⟩ := hb
       have h1 := qB h1
       have h2 := qB h2
       subst h1 h2
       have hrow := hw.row hk hd ho
       exact ⟨hrow.2, hrow.1.2, by simp, fun k' e => by cases e; exact Nat.le_of_ble_eq_true h3, fun g hg => ⟨k, e', rfl, hk, hd, ho, hg⟩⟩
   . cases h
 . simp only [qS, qP] at h
   obtain ⟨rfl, rfl, rfl, rfl⟩ := h
   exact ⟨⟨by simp, .inl ⟨rfl, rfl⟩⟩, fun j hj => by omega, by simp, (fun k e => by cases e), fun g hg => by cases hg⟩
 . cases h
theorem baseOf_low {s : St} {e : TypeId} {size : Nat} {y : SV} {n : Nat} {f : Nat -> List Value} {o1 : Bool} {k? : Option Nat} (h : baseOf s e size y = some (n, f, o1, k?)) : ∀ k, k? = some k -> s.llo <= k := fun k hk => by
 unfold baseOf at h
 split at h
 . rename_i k'
   split at h
   . rename_i e' he
     cases hb : (e'.own && Nat.beq e'.elT e && Nat.beq e'.size size && Nat.ble s.llo k')
     . rw [hb] at h; cases h
     . rw [hb] at h
       simp only [cond_true, qS, qP] at h
       simp only [Bool.and_eq_true] at hb
       rw [<- h.2.2.2] at hk
       simp only [qS] at hk
       subst hk
       exact Nat.le_of_ble_eq_true hb.2
   . cases h
 . simp only [qS, qP] at h
   rw [<- h.2.2.2] at hk; cases hk
 . cases h
theorem chunks_get (size : Nat) : ∀ (m : Nat) (cs : List Value) (j : Nat), j < m -> (chunks size m cs)[j]? = some ((cs.drop (j * size)).take size)
 | 0, _, _, h => by omega
 | m + 1, cs, 0, _ => by simp [chunks]
 | m + 1, cs, j + 1, h => by
   have := chunks_get size m (cs.drop size) j (by omega)
   rw [List.drop_drop] at this
   show (chunks size m (cs.drop size))[j]? = _
   rw [this, Nat.add_mul, Nat.one_mul, Nat.add_comm (j * size)]
theorem tabE_chunks (size m : Nat) (cs : List Value) (j : Nat) (h : j < m) : tabE (chunks size m cs) j = (cs.drop (j * size)).take size := by unfold tabE; rw [chunks_get size m cs j h]; rfl
theorem newsOf_ok {s : St} {size : Nat} {y : SV} {m : Nat} {g : Nat -> List Value} {o2 : Bool} (h : newsOf s size y = some (m, g, o2)) (hs : 0 < size) (hm : 0 < m) {w0 : Base} {w : World} {ν : Nu} {mem : Bool} (hw : WR w0 ν s.own mem w) :
   (∃ a c, conc ν y = .slice (some a) m c /\ ∀ (i : Nat) u, ((List.range m).flatMap g)[i]? = some u -> w.cell? (a.add i) = some u) /\ (∀ j, j < m -> (g j).length = size /\ (g j).all Value.oneCell' = true) /\ y ≠ .any := by
 have fin : ∀ (b off : Nat), (∀ j, j < m -> (g j).length = size) -> (∀ j, j < m -> ∀ (o : Nat) c, (g j)[o]? = some c -> w.cell? ⟨b, off + j * size + o, none⟩ = some c) ->
     ∀ (i : Nat) u, ((List.range m).flatMap g)[i]? = some u -> w.cell? ((⟨b, off, none⟩ : Addr).add i) = some u := fun b off hl hc i u hu => by
   have hi : i < m * size := by rw [<- flat_len m hl]; exact lt_of_some_list hu
   have hj : i / size < m := Nat.div_lt_of_lt_mul (by rw [Nat.mul_comm]; exact hi)
   have ho : i % size < size := Nat.mod_lt _ hs
   have e : i / size * size + i % size = i := by rw [Nat.mul_comm]; exact Nat.div_add_mod i size
   have := flat_get m hl (i / size) hj (i % size) ho
   rw [e, hu] at this
   rw [add_plain, <- e, <- Nat.add_assoc]
   exact hc _ hj _ _ this.symm
 unfold newsOf at h
 split at h
 . rename_i k
   split at h
   . rename_i e' he
     obtain ⟨hk, hd⟩ := getL_some he
     cases hb : Nat.beq e'.size size
     . rw [hb] at h; cases h
     . rw [hb] at h
       simp only [cond_true, qS, qP] at h
       obtain ⟨rfl, rfl, rfl⟩ := h
       have hb := qB hb
       subst hb
       obtain ⟨⟨_, hwf⟩, a, cap, hv, _, hc0⟩ := hw.inB hk hd
       obtain ⟨b, off, rfl, _, hc⟩ := hc0 hm
       exact ⟨⟨⟨b, off, none⟩, cap, hv, fin b off (fun j hj => (hwf j hj).1) hc⟩, hwf, by simp⟩
   . cases h
 . rename_i i off len cap
   split at h
   . rename_i b hb
     split at h
     rotate_left
     . cases h
     rename_i vs hvs
     cases hc : (Nat.ble (off + len * size) b.cells.length && vs.all Value.oneCell')
     . rw [hc] at h; cases h
     . rw [hc] at h
       simp only [cond_true, qS, qP] at h
       obtain ⟨rfl, rfl, rfl⟩ := h
       simp only [Bool.and_eq_true] at hc
       obtain ⟨hle, hall⟩ := hc
       have hle := Nat.le_of_ble_eq_true hle
       have hcb := valsS_conc (ν := ν) hvs
       have hvl : vs.length = len * size := by rw [<- hcb]; unfold concB; simp; omega
       have hvg : ∀ (k : Nat) c, vs[k]? = some c -> (concB ν b.cells)[off + k]? = some c := fun k c hk => by
         have hlt : k < len * size := by rw [<- hvl]; exact lt_of_some_list hk
         rw [<- hcb] at hk
         unfold concB at hk ⊢
         rw [List.getElem?_map, List.getElem?_take, if_pos hlt, List.getElem?_drop] at hk
         rw [List.getElem?_map]; exact hk
       have hmul : ∀ j, j < len -> j * size + size <= len * size := fun j hj => by
         have := Nat.mul_le_mul_right size (show j + 1 <= len from hj)
         rw [Nat.add_mul, Nat.one_mul] at this; exact this
       have hlen : ∀ j, j < len -> (tabE (chunks size len vs) j).length = size := fun j hj => by
         have := hmul j hj
         rw [tabE_chunks _ _ _ _ hj]
         simp; omega
       refine ⟨⟨⟨ν.l i, off, none⟩, cap, rfl, fin (ν.l i) off hlen fun j hj o c hoc => ?_⟩, fun j hj => ⟨hlen j hj, ?_⟩, by simp⟩
       . have hcell := cells_of_blk ((hw.blk i b (getB_some hb).1).1.cells (getB_some hb).2)
         refine hcell _ _ ?_
         rw [tabE_chunks _ _ _ _ hj, List.getElem?_take] at hoc
         split at hoc
         . rw [List.getElem?_drop] at hoc
           rw [Nat.add_assoc]; exact hvg _ _ hoc
         . cases hoc
       . rw [tabE_chunks _ _ _ _ hj]
         rw [List.all_eq_true] at hall ⊢
         intro u hu
         refine hall u ?_
         obtain ⟨o, ho⟩ := List.getElem?_of_mem hu
         have := hmul j hj
         rw [List.getElem?_take] at ho
         split at ho
         . rw [List.getElem?_drop] at ho
           exact List.mem_of_getElem? ho
         . cases ho
   . cases h
 . cases h
theorem chunks_flat {size m : Nat} {vs : List Value} (h0 : 0 < size) (h : vs.length = m * size) : (List.range m).flatMap (tabE (chunks size m vs)) = vs := by
 have hmul : ∀ j, j < m -> j * size + size <= m * size := fun j hj => by
   have := Nat.mul_le_mul_right size (show j + 1 <= m from hj)
   rwa [Nat.add_mul, Nat.one_mul] at this
 have hlen : ∀ j, j < m -> (tabE (chunks size m vs) j).length = size := fun j hj => by
   rw [tabE_chunks size m vs j hj, List.length_take, List.length_drop]
   have := hmul j hj
   omega
 have hl := flat_len (f := tabE (chunks size m vs)) (s := size) m hlen
 refine List.ext_getElem? fun p => ?_
 rcases Nat.lt_or_ge p (m * size) with hp | hp
 . have hq : p / size < m := Nat.div_lt_of_lt_mul (by rw [Nat.mul_comm]; exact hp)
   have hr := Nat.mod_lt p h0
   have hg := flat_get (f := tabE (chunks size m vs)) (s := size) m hlen (p / size) hq (p % size) hr
   have hpe : p / size * size + p % size = p := by rw [Nat.mul_comm]; exact Nat.div_add_mod p size
   rw [hpe] at hg
   rw [hg, tabE_chunks size m vs _ hq, List.getElem?_take, if_pos hr, List.getElem?_drop, hpe]
 . rw [List.getElem?_eq_none (by rw [hl]; exact hp), List.getElem?_eq_none (by rw [h]; exact hp)]
theorem baseB_ok {s : St} {t : TypeId} {size n : Nat} {f : Nat -> List Value} {y : SV} (h : baseB s t size y = some (n, f)) (h0 : 0 < size) {w0 : Base} {w : World} {ν : Nu} {mem : Bool} (hw : WR w0 ν s.own mem w) :
   ∃ g, conc ν y = .slice (some ⟨g, 0, none⟩) n n /\ y ≠ .any /\ w.ownsRow w0.heap.size t size (.slice (some ⟨g, 0, none⟩) n n) n ((List.range n).flatMap f) /\ ∀ j, j < n -> (f j).length = size /\ (f j).all Value.oneCell' = true := by
 unfold baseB at h
 split at h
 . rename_i i len cap
   split at h
   . rename_i b hb
     split at h
     . rename_i vs hvs
       simp only [cond_eq_ite] at h
       split at h
       . rename_i hc
         simp only [Bool.and_eq_true] at hc
         obtain ⟨⟨⟨⟨c1, c2⟩, c3⟩, c4⟩, c5⟩ := hc
         have c1 := qB c1
         have c2 := qB c2
         have c3 := qB c3
         have c5 := Nat.le_of_ble_eq_true c5
         simp only [qS, qP] at h
         obtain ⟨rfl, rfl⟩ := h
         obtain ⟨hbb, hkd⟩ := getB_some hb
         obtain ⟨k1, k2⟩ := hw.blk i b hbb
         have k1 := k1.cells hkd
         rw [valsS_conc (ν := ν) hvs, c1] at k1
         subst c2
         have hfl := chunks_flat h0 c3
         refine ⟨ν.l i, rfl, by simp, ⟨by rw [hfl]; exact c3, .inr ⟨ν.l i, len, vs.toArray, rfl, k2, k1, Nat.le_refl _, by unfold maxLen; omega, by rw [List.size_toArray]; exact c3, ?_⟩⟩, fun j hj => ?_⟩
         . rw [hfl]
           show vs.take (len * size) = vs
           exact List.take_of_length_le (by omega)
         . have hm : j * size + size <= len * size := by
             have := Nat.mul_le_mul_right size (show j + 1 <= len from hj)
             rwa [Nat.add_mul, Nat.one_mul] at this
           rw [tabE_chunks size len vs j hj]
           refine ⟨by rw [List.length_take, List.length_drop]; omega, List.all_eq_true.mpr fun x hx => List.all_eq_true.mp c4 x (List.mem_of_mem_drop (List.mem_of_mem_take hx))⟩
       . cases h
     . cases h
   . cases h
 . cases h
theorem WR.append {w0 : Base} {ν : Nu} {own : Mem} {mem : Bool} {w w' : World} (h : WR w0 ν own mem w) {k? : Option Nat} {v v' : Value} {ne : LE} (hn : OwnB w0.heap.size w' ne v') (hno : ne.own = true)
   (hv : ∀ g, v.ownBlock = some g -> ∃ k e', k? = some k /\ own.l[k]? = some e' /\ e'.dead = false /\ e'.own = true /\ (ν.v k).ownBlock = some g) (hg : w.grownBy w' v.ownBlock) (hwh : v'.ownBlock = v.ownBlock \/ v'.ownBlock = some w.heap.size)
   (hfr : ∀ (j : Nat) (c : Blk) fl T e acc, own.b[j]? = some c -> c.kd = .bld fl T e acc -> ∀ g cs fz, v.ownBlock = some g -> w.heap[g]? ≠ some (.cells cs e fz)) :
   WR w0 (extV ν own.l.length v') { own with l := killL own.l k? ++ [ne] } true w' := by
 have hsz := h.below.size
 have hrow : ∀ g, v.ownBlock = some g -> w0.heap.size <= g := fun g e => by
   obtain ⟨k, e', _, hk, hd, ho, hb⟩ := hv g e
   exact (h.rowLt hk hd ho hb).1
 have hlen := killL_len own.l k?
 have old : ∀ i e, (killL own.l k? ++ [ne])[i]? = some e -> e.dead = false -> (i < own.l.length /\ own.l[i]? = some e /\ k? ≠ some i) \/ (i = own.l.length /\ e = ne) := fun i e hi hd => by
   rcases Nat.lt_or_ge i own.l.length with hl | hl
   . rw [List.getElem?_append_left (by rw [hlen]; exact hl)] at hi
     exact .inl ⟨hl, killL_live hi hd⟩
   . have hl2 : i = own.l.length := by
       have := lt_of_some_list hi
       simp [hlen] at this; omega
     subst hl2
     rw [List.getElem?_append_right (by rw [hlen]; exact Nat.le_refl _), hlen, Nat.sub_self] at hi
     simp at hi
     exact .inr ⟨rfl, hi.symm⟩
 have vold : ∀ i, i < own.l.length -> (extV ν own.l.length v').v i = ν.v i := fun i hi => ((extV_old ν 0 own.l.length v').2 i hi).symm
 have other : ∀ i e, own.l[i]? = some e -> e.dead = false -> e.own = true -> k? ≠ some i -> (ν.v i).ownBlock = none \/ (ν.v i).ownBlock ≠ v.ownBlock := fun i e hi hd ho hne => by
   cases hb : (ν.v i).ownBlock with
   | none => exact .inl rfl
   | some g =>
     right
     intro heq
     obtain ⟨k, e', rfl, hk, hd', ho', hb'⟩ := hv g heq.symm
     exact (h.sep i e hi hd ho g hb).2 k e' hk hd' ho' (fun e => hne (by rw [e])) hb'
 refine ⟨h.below.grown hg hsz hrow, fun i b hi => ?_, h.okb.mono (Nat.le_refl _) (by simp [hlen]), h.inj, fun i e hi hd => ?_, fun i e hi hd ho g hb => ?_, (fun h => by cases h), ⟨fun b o hb => (hg.block b (lt_of_some (h.fr.here b o hb)) (fun e => ?_)).trans (h.fr.here b o hb), h.fr.offb, fun i e hi hd ho g hb => ?_⟩⟩
 . obtain ⟨h1, h2⟩ := h.blk i b hi
   refine ⟨?_, h2⟩
   refine (h1.congr (h.okb i b hi) (extV_old ν own.b.length own.l.length v')).turn hg (fun e => ?_) (fun g cs fz fl T e acc eg hk => hfr i b fl T e acc hi hk g cs fz eg)
   . obtain ⟨k, e', _, hk, hd, ho, hb⟩ := hv _ e
     exact (h.sep k e' hk hd ho _ hb).1 i (lt_of_some_list hi) rfl
 . rcases old i e hi hd with ⟨hl, hi', hne⟩ | ⟨rfl, rfl⟩
   . rw [vold i hl]
     exact (h.lst i e hi' hd).kept hg hsz hrow (fun ho => other i e hi' hd ho hne)
   . rw [extV_new]
     unfold LOk
     rw [hno]; exact hn
 . rcases old i e hi hd with ⟨hl, hi', hne⟩ | ⟨rfl, rfl⟩
   . rw [vold i hl] at hb
     obtain ⟨s1, s2⟩ := h.sep i e hi' hd ho g hb
     refine ⟨s1, fun i' e' hi'' hd' ho' hne' => ?_⟩
     rcases old i' e' hi'' hd' with ⟨hl', hi3, hne3⟩ | ⟨rfl, rfl⟩
     . rw [vold i' hl']; exact s2 i' e' hi3 hd' ho' hne'
     . rw [extV_new]
       intro heq
       rcases hwh with hwh | hwh
       . rw [hwh] at heq
         rcases other i e hi' hd ho hne with h0 | h0
         . rw [h0] at hb; cases hb
         . exact h0 (hb.trans heq.symm)
       . rw [hwh] at heq
         simp only [qS] at heq
         have := (h.rowLt hi' hd ho hb).2
         omega
   . rw [extV_new] at hb
     refine ⟨fun j hj => ?_, fun i' e' hi'' hd' ho' hne' => ?_⟩
     . show ν.l j ≠ g
       intro heq
       rcases hwh with hwh | hwh
       . obtain ⟨k, e', _, hk, hd', ho', hb'⟩ := hv g (hwh.symm.trans hb)
         exact (h.sep k e' hk hd' ho' g hb').1 j hj heq
       . rw [hwh] at hb
         simp only [qS] at hb
         have := h.lt hj
         omega
     . rcases old i' e' hi'' hd' with ⟨hl', hi3, hne3⟩ | ⟨rfl, rfl⟩
       . rw [vold i' hl']
         intro heq
         rcases hwh with hwh | hwh
         . rcases other i' e' hi3 hd' ho' hne3 with h0 | h0
           . rw [h0] at heq; cases heq
           . exact h0 (heq.trans (hwh.symm.trans hb).symm)
         . rw [hwh] at hb
           simp only [qS] at hb
           have := (h.rowLt hi3 hd' ho' heq).2
           omega
       . exact absurd rfl hne'
 . obtain ⟨k, e', _, hk, hd, ho, hb'⟩ := hv b e.symm
   rw [h.fr.offl k e' hk hd ho b hb'] at hb; cases hb
 . rcases old i e hi hd with ⟨hl, hi', hne⟩ | ⟨rfl, rfl⟩
   . rw [vold i hl] at hb
     exact h.fr.offl i e hi' hd ho g hb
   . rw [extV_new] at hb
     rcases hwh with hwh | hwh
     . obtain ⟨k, e', _, hk, hd', ho', hb'⟩ := hv g (hwh.symm.trans hb)
       exact h.fr.offl k e' hk hd' ho' g hb'
     . rw [hwh] at hb
       simp only [qS] at hb
       exact h.fr.fresh (by omega)
theorem WR.turnL {w0 : Base} {ν : Nu} {own : Mem} {mem : Bool} {w w' : World} (h : WR w0 ν own mem w) {k : Nat} {e e' : LE} (hk : own.l[k]? = some e) (hd : e.dead = false) (ho : e.own = true) (ho' : e'.own = true) (hd' : e'.dead = false)
   (hn : OwnB w0.heap.size w' e' (ν.v k)) (hg : w.grownBy w' (ν.v k).ownBlock)
   (hfr : ∀ (j : Nat) (c : Blk) fl T e acc, own.b[j]? = some c -> c.kd = .bld fl T e acc -> ∀ g cs fz, (ν.v k).ownBlock = some g -> w.heap[g]? ≠ some (.cells cs e fz)) :
   WR w0 ν { own with l := own.l.set k e' } true w' := by
 have hsz := h.below.size
 have hkl := lt_of_some_list hk
 have hrow : ∀ g, (ν.v k).ownBlock = some g -> w0.heap.size <= g := fun g eg => (h.rowLt hk hd ho eg).1
 have old : ∀ (i : Nat) (x : LE), (own.l.set k e')[i]? = some x -> (i ≠ k /\ own.l[i]? = some x) \/ (i = k /\ x = e') := fun i x hi => by
   by_cases hik : k = i
   . subst hik
     rw [List.getElem?_set_self hkl] at hi
     exact .inr ⟨rfl, (Option.some.inj hi).symm⟩
   . rw [List.getElem?_set_ne hik] at hi
     exact .inl ⟨fun e => hik e.symm, hi⟩
 have other : ∀ (i : Nat) (x : LE), i ≠ k -> own.l[i]? = some x -> x.dead = false -> x.own = true -> (ν.v i).ownBlock = none \/ (ν.v i).ownBlock ≠ (ν.v k).ownBlock := fun i x hne hi hdx hox => by
   cases hb : (ν.v i).ownBlock with
   | none => exact .inl rfl
   | some g =>
     right
     intro heq
     exact (h.sep i x hi hdx hox g hb).2 k e hk hd ho (fun e => hne e.symm) heq.symm
 refine ⟨h.below.grown hg hsz hrow, fun i b hi => ?_, h.okb.mono (Nat.le_refl _) (by simp), h.inj, fun i x hi hdx => ?_, fun i x hi hdx hox g hb => ?_, (fun h => by cases h), ⟨fun b o hb => (hg.block b (lt_of_some (h.fr.here b o hb)) (fun eg => by
   rw [h.fr.offl k e hk hd ho b eg.symm] at hb; cases hb)).trans (h.fr.here b o hb), h.fr.offb, fun i x hi hdx hox g hb => by
   rcases old i x hi with ⟨hne, hi'⟩ | ⟨rfl, rfl⟩
   . exact h.fr.offl i x hi' hdx hox g hb
   . exact h.fr.offl i e hk hd ho g hb⟩⟩
 . obtain ⟨h1, h2⟩ := h.blk i b hi
   refine ⟨h1.turn hg (fun eg => ?_) (fun g cs fz fl T e acc eg hkd => hfr i b fl T e acc hi hkd g cs fz eg), h2⟩
   exact (h.sep k e hk hd ho _ eg).1 i (lt_of_some_list hi) rfl
 . rcases old i x hi with ⟨hne, hi'⟩ | ⟨rfl, rfl⟩
   . exact (h.lst i x hi' hdx).kept hg hsz hrow (fun hox => other i x hne hi' hdx hox)
   . unfold LOk
     rw [ho']; exact hn
 . have hsep : (∀ j, j < own.b.length -> ν.l j ≠ g) /\ ∀ k' x', own.l[k']? = some x' -> x'.dead = false -> x'.own = true -> k' ≠ i -> (ν.v k').ownBlock ≠ some g := by
     rcases old i x hi with ⟨hne, hi'⟩ | ⟨rfl, rfl⟩
     . exact h.sep i x hi' hdx hox g hb
     . exact h.sep i e hk hd ho g hb
   refine ⟨hsep.1, fun i' x' hi2 hdx' hox' hne' => ?_⟩
   rcases old i' x' hi2 with ⟨_, hi3⟩ | ⟨rfl, rfl⟩
   . exact hsep.2 i' x' hi3 hdx' hox' hne'
   . exact hsep.2 i' e hk hd ho hne'
theorem cellsS_okV {s : St} {y : SV} {cs : List SV} (h : cellsS s y = some cs) {n m : Nat} (hy : okV n m y) : ∀ c ∈ cs, okV n m c := by
 unfold cellsS at h
 split at h
 . rename_i fl v
   cases hb : v.cells.toList.all Value.oneCell'
   . rw [hb] at h; cases h
   . rw [hb] at h
     simp only [cond_true, qS] at h
     subst h
     exact okV_mkCells _ _
 . simp only [qS] at h
   subst h
   intro c hc; rw [List.mem_singleton.mp hc]; exact hy
 . split at h
   . simp only [qS] at h
     subst h
     intro c hc; rw [List.mem_singleton.mp hc]; exact hy
   . cases h
 . simp only [qS] at h
   subst h
   intro c hc; rw [List.mem_singleton.mp hc]; exact hy
 . rename_i cs'
   cases hb : cs'.all (oneC s)
   . rw [hb] at h; cases h
   . rw [hb] at h
     simp only [cond_true, qS] at h
     subst h
     intro c hc
     obtain ⟨x, hx, rfl⟩ := List.mem_map.mp hc
     exact svC_okV1 (hy x hx)
 . cases h
theorem putLS_mem : ∀ (vs c : List SV) (o : Nat), ∀ x ∈ putLS c o vs, x ∈ c \/ x ∈ vs
 | [], c, o, x, hx => .inl hx
 | v :: r, c, o, x, hx => by
   rcases putLS_mem r (c.set o v) (o + 1) x hx with h | h
   . rcases List.mem_or_eq_of_mem_set h with h | h
     . exact .inl h
     . exact .inr (by rw [h]; exact List.mem_cons_self)
   . exact .inr (List.mem_cons_of_mem _ h)
theorem putQS_mem (vs c : List SV) (o : Nat) : ∀ x ∈ putQS c o vs, x ∈ c \/ x ∈ vs := fun x hx => by
 unfold putQS at hx
 cases hb : (Nat.beq o 0 && Nat.beq vs.length c.length)
 . rw [hb] at hx; exact putLS_mem vs c o x hx
 . rw [hb] at hx; exact .inr hx
theorem storeS_okV {P : Program} {t : TypeId} {cs us cs' : List SV} {off n m : Nat} (h : storeS P t cs off us = some cs') (h1 : ∀ c ∈ cs, okV n m c) (h2 : ∀ c ∈ us, okV n m c) : ∀ c ∈ cs', okV n m c := by
 unfold storeS at h
 split at h
 . rename_i i hi
   cases hb : (Nat.beq us.length i.size && Nat.ble (off + i.size) cs.length)
   . rw [hb] at h; cases h
   . rw [hb] at h
     simp only [cond_true, qS] at h
     subst h
     intro c hc
     rcases putQS_mem _ _ _ c hc with h | h
     . exact h1 c h
     . exact h2 c h
 . cases h
theorem litT_some {s : St} {size len : Nat} {parts : List (Nat × SV)} {us : List SV} (h : litT s size len parts = some us) : ∃ cs, parts = [(0, .st cs)] /\ len = 1 /\ cs.length = size /\ 0 < size /\ size <= 2 ^ 24 /\ cellsS s (.st cs) = some us := by
 unfold litT at h
 split at h
 . rename_i cs
   cases hb : (Nat.beq len 1 && Nat.beq cs.length size && Nat.blt 0 size && Nat.ble size (2 ^ 24))
   . rw [hb] at h; cases h
   . rw [hb] at h
     simp only [Bool.and_eq_true] at hb
     exact ⟨cs, rfl, qB hb.1.1.1, qB hb.1.1.2, by simpa [Nat.blt_eq] using hb.1.2, Nat.le_of_ble_eq_true hb.2, h⟩
 . cases h
theorem litS_some {P : Program} {s : St} {t e : TypeId} {len : Nat} {parts : List (Nat × SV)} {cells : List SV} (h : litS P s t len parts = some (cells, e)) : cells = parts.map (·.2) \/ ∃ i, litT s i len parts = some cells := by
 unfold litS at h
 split at h
 . split at h
   . rename_i i hi
     split at h
     . cases hb : (Nat.beq i.size 1 && Nat.beq parts.length len && Nat.blt 0 len && Nat.ble len (2 ^ 24) && seqB 0 parts && parts.all (fun p => oneS s p.2))
       . rw [hb] at h
         simp only [cond_false] at h
         split at h
         . rename_i us hus
           simp only [qS, qP] at h
           exact .inr ⟨_, by rw [<- h.1]; exact hus⟩
         . cases h
       . rw [hb] at h
         simp only [cond_true, qS, qP] at h
         exact .inl h.1.symm
     . cases h
   . cases h
 . cases h
theorem litS_okV {P : Program} {s : St} {t e : TypeId} {len : Nat} {parts : List (Nat × SV)} {cells : List SV} (h : litS P s t len parts = some (cells, e)) {n m : Nat} (hp : ∀ p ∈ parts, okV n m p.2) : ∀ c ∈ cells, okV n m c := fun c hc => by
 rcases litS_some h with h1 | ⟨i, h1⟩
 . rw [h1] at hc
   obtain ⟨p, hm, rfl⟩ := List.mem_map.mp hc
   exact hp p hm
 . obtain ⟨cs, rfl, _, _, _, _, h2⟩ := litT_some h1
   exact cellsS_okV h2 (hp _ (List.mem_singleton.mpr rfl)) c hc
theorem stoL_some {E : Env} {s : St} {t : TypeId} {k j o sz : Nat} {v : Value} {e' : LE} {q : List (Bool × Bool)} (h : stoL E s t k j o sz v = some (e', q)) :
   ∃ e i, s.own.l[k]? = some e /\ e.dead = false /\ E.P.info? t = some i /\ e.own = true /\ s.llo <= k /\ sz = e.size /\ bldFree s e.elT = true /\ v.cells.toList.length = i.size /\ o + i.size <= e.size /\ v.cells.toList.all Value.oneCell' = true /\
     e' = { e with el := setE e.el j (putL (e.el j) o v.cells.toList) } /\ q = [(pre (decide (j < e.n)), true)] := by
 unfold stoL at h
 split at h
 . rename_i e i he hi
   simp only [cond_eq_ite] at h
   split at h
   . rename_i hb
     simp only [qS, qP] at h
     simp only [Bool.and_eq_true] at hb
     obtain ⟨⟨⟨⟨⟨⟨h1, h2⟩, h3⟩, h4⟩, h5⟩, h6⟩, h7⟩ := hb
     obtain ⟨hk, hd⟩ := getL_some he
     exact ⟨e, i, hk, hd, hi, h1, Nat.le_of_ble_eq_true h2, qB h3, h4, qB h5, Nat.le_of_ble_eq_true h6, h7, h.1.symm, h.2.symm⟩
   . cases h
 . cases h
theorem simFX0_st {E : Env} {o : Oper} {s : St} {x : SV} {own : Mem} {q : List (Bool × Bool)} (h : simFX0 E o s = some (x, own, q)) (hg : Good s) :
   okV own.b.length own.l.length x /\ s.own.b.length <= own.b.length /\ s.own.l.length <= own.l.length /\ (∀ i, i < s.lo -> own.b[i]? = s.own.b[i]?) /\ (∀ i, i < s.llo -> own.l[i]? = s.own.l[i]?) /\ OkB own.b.length own.l.length own.b := by
 have grow : ∀ (b : Blk), (∀ c ∈ b.cells, okV s.own.b.length s.own.l.length c) -> s.own.b.length <= (s.own.b ++ [b]).length /\ s.own.l.length <= s.own.l.length /\ (∀ i, i < s.lo -> (s.own.b ++ [b])[i]? = s.own.b[i]?) /\ (∀ i, i < s.llo -> s.own.l[i]? = s.own.l[i]?) /\ OkB (s.own.b ++ [b]).length s.own.l.length (s.own.b ++ [b]) := fun b hb =>
   ⟨by simp, Nat.le_refl _, fun i hi => List.getElem?_append_left (Nat.lt_of_lt_of_le hi hg.lo), fun _ _ => rfl, (hg.okb.snoc hb).mono (by simp) (Nat.le_refl _)⟩
 unfold simFX0 at h
 split at h
 . split at h
   . split at h
     . split at h
       . simp only [qS, qP] at h
         obtain ⟨rfl, rfl, _⟩ := h
         exact ⟨by show _ < _; simp, grow _ (fun c hc => by cases hc)⟩
       . simp only [qS, qP] at h
         obtain ⟨rfl, rfl, _⟩ := h
         exact ⟨by show _ < _; simp, grow _ (okV_mkCells _ _)⟩
     . cases h
   . cases h
 . split at h
   . simp only [qS, qP] at h
     obtain ⟨rfl, rfl, _⟩ := h
     exact ⟨by show _ < _; simp, grow _ (fun c hc => by cases hc)⟩
   . cases h
 . rename_i t x' ho
   split at h
   . simp only [qS, qP] at h
     obtain ⟨rfl, rfl, _⟩ := h
     exact ⟨by show _ < _; simp, grow _ (okV_mkCells _ _)⟩
   . split at h
     . rename_i cs hcs
       simp only [qS, qP] at h
       obtain ⟨rfl, rfl, _⟩ := h
       exact ⟨by show _ < _; simp, grow _ (cellsS_okV hcs (ev_ok hg x'))⟩
     . cases h
 . rename_i t x' y' ho
   split at h
   . rename_i i off us hx hy
     cases hb : Nat.ble s.lo i
     . rw [hb] at h; cases h
     . rw [hb] at h
       simp only [cond_true] at h
       split at h
       . rename_i b hib
         cases hfr : bldFree s b.elem
         . rw [hfr] at h; cases h
         . rw [hfr] at h
           simp only [cond_true] at h
           split at h
           . rename_i cs hcs
             simp only [qS, qP] at h
             obtain ⟨rfl, rfl, _⟩ := h
             refine ⟨trivial, by simp, Nat.le_refl _, fun j hj => ?_, fun _ _ => rfl, (hg.okb.set (i := i) (b := ⟨cs, b.elem, .cells⟩) (storeS_okV hcs (hg.okb i b (getB_some hib).1) (cellsS_okV hy (ev_ok hg y')))).mono (by simp) (Nat.le_refl _)⟩
             have : s.lo <= i := Nat.le_of_ble_eq_true hb
             rw [List.getElem?_set_ne (by omega)]
           . cases h
       . cases h
   . split at h
     . split at h
       . rename_i e' q' hsto
         simp only [qS, qP] at h
         obtain ⟨rfl, rfl, _⟩ := h
         obtain ⟨e, i, hk, _, _, _, hlo, _⟩ := stoL_some hsto
         refine ⟨trivial, Nat.le_refl _, by simp, fun _ _ => rfl, fun j hj => ?_, hg.okb.mono (Nat.le_refl _) (by simp)⟩
         rw [List.getElem?_set_ne (by omega)]
       . cases h
     . cases h
   . cases h
 . split at h
   . split at h
     . split at h
       . simp only [cond_eq_ite] at h
         split at h
         . simp only [qS, qP] at h
           obtain ⟨rfl, rfl, _⟩ := h
           exact ⟨by show _ < _; simp, Nat.le_refl _, by simp, fun _ _ => rfl, fun j hj => List.getElem?_append_left (Nat.lt_of_lt_of_le hj hg.llo), hg.okb.mono (Nat.le_refl _) (by simp)⟩
         . cases h
       . cases h
     . cases h
   . cases h
 . rename_i t len parts ho
   cases hb : parts.toList.all (fun p => isV (ev s p.2))
   . rw [hb] at h
     simp only [cond_false] at h
     split at h
     . rename_i cells e hlit
       simp only [qS, qP] at h
       obtain ⟨rfl, rfl, _⟩ := h
       refine ⟨by show _ < _; simp, grow _ fun c hc => ?_⟩
       exact litS_okV hlit (fun p hp => by
         obtain ⟨p, _, rfl⟩ := List.mem_map.mp hp
         exact ev_ok hg p.2) c hc
     . cases h
   . rw [hb] at h
     simp only [cond_true] at h
     split at h
     . simp only [qS, qP] at h
       obtain ⟨rfl, rfl, _⟩ := h
       exact ⟨by show _ < _; simp, grow _ (okV_mkCells _ _)⟩
     . cases h
 . split at h
   . rename_i x' y' t t' _ _
     cases hb : Nat.beq t t'
     . rw [hb] at h; cases h
     . rw [hb] at h
       simp only [cond_true] at h
       split at h
       . split at h
         . split at h
           . simp only [cond_eq_ite] at h
             split at h
             . split at h
               . rename_i hbase hnews
                 simp only [qS, qP] at h
                 obtain ⟨rfl, rfl, _⟩ := h
                 have hk := baseOf_low hbase
                 refine ⟨?_, Nat.le_refl _, ?_, fun _ _ => rfl, fun j hj => ?_, hg.okb.mono (Nat.le_refl _) (by simp [killL_len])⟩
                 . show s.own.l.length < _; simp [killL_len]
                 . simp [killL_len]
                 . rw [List.getElem?_append_left (by rw [killL_len]; exact Nat.lt_of_lt_of_le hj hg.llo)]
                   exact killL_low hk j hj
               . split at h
                 . simp only [qS, qP] at h
                   obtain ⟨rfl, rfl, _⟩ := h
                   exact ⟨by show _ < _; simp, Nat.le_refl _, by simp, fun _ _ => rfl, fun j hj => List.getElem?_append_left (Nat.lt_of_lt_of_le hj hg.llo), hg.okb.mono (Nat.le_refl _) (by simp)⟩
                 . cases h
             . cases h
           . cases h
         . cases h
       . cases h
   . cases h
 . cases h
theorem WR.addIn {w0 : Base} {ν : Nu} {own : Mem} {mem : Bool} {w : World} (h : WR w0 ν own mem w) {e : LE} {v : Value} (ho : e.own = false) (hv : InB w0.heap.size w e v) : WR w0 (extV ν own.l.length v) { own with l := own.l ++ [e] } true w := by
 have vold : ∀ i, i < own.l.length -> (extV ν own.l.length v).v i = ν.v i := fun i hi => ((extV_old ν 0 own.l.length v).2 i hi).symm
 have old : ∀ i e', (own.l ++ [e])[i]? = some e' -> (i < own.l.length /\ own.l[i]? = some e') \/ (i = own.l.length /\ e' = e) := fun i e' hi => by
   rcases Nat.lt_or_ge i own.l.length with hl | hl
   . rw [List.getElem?_append_left hl] at hi; exact .inl ⟨hl, hi⟩
   . have hl2 : i = own.l.length := by
       have := lt_of_some_list hi
       simp at this; omega
     subst hl2
     rw [List.getElem?_append_right (Nat.le_refl _), Nat.sub_self] at hi
     simp at hi
     exact .inr ⟨rfl, hi.symm⟩
 refine ⟨h.below, fun i b hi => ⟨(h.blk i b hi).1.congr (h.okb i b hi) (extV_old ν own.b.length own.l.length v), (h.blk i b hi).2⟩, h.okb.mono (Nat.le_refl _) (by simp), h.inj, fun i e' hi hd => ?_, fun i e' hi hd ho' g hb => ?_, (fun h => by cases h), ⟨h.fr.here, h.fr.offb, fun i e' hi hd ho' g hb => ?_⟩⟩
 . rcases old i e' hi with ⟨hl, hi'⟩ | ⟨rfl, rfl⟩
   . rw [vold i hl]; exact h.lst i e' hi' hd
   . rw [extV_new]; unfold LOk; rw [ho]; exact hv
 . rcases old i e' hi with ⟨hl, hi'⟩ | ⟨rfl, rfl⟩
   . rw [vold i hl] at hb
     obtain ⟨s1, s2⟩ := h.sep i e' hi' hd ho' g hb
     refine ⟨s1, fun i' e2 hi2 hd2 ho2 hne => ?_⟩
     rcases old i' e2 hi2 with ⟨hl', hi3⟩ | ⟨rfl, rfl⟩
     . rw [vold i' hl']; exact s2 i' e2 hi3 hd2 ho2 hne
     . rw [ho] at ho2; cases ho2
   . rw [ho] at ho'; cases ho'
 . rcases old i e' hi with ⟨hl, hi'⟩ | ⟨rfl, rfl⟩
   . rw [vold i hl] at hb; exact h.fr.offl i e' hi' hd ho' g hb
   . rw [ho] at ho'; cases ho'
theorem baseF_ok {s : St} {size n : Nat} {f : Nat -> List Value} {y : SV} (h : baseF s size y = some (n, f)) (h0 : 0 < size) {w0 : Base} {w : World} {ν : Nu} {mem : Bool} (hw : WR w0 ν s.own mem w) :
   ∃ g, conc ν y = .slice (some ⟨g, 0, none⟩) n n /\ y ≠ .any /\ ((List.range n).flatMap f).length = n * size /\ (∀ (j : Nat) u, ((List.range n).flatMap f)[j]? = some u -> w.cell? ((⟨g, 0, none⟩ : Addr).add j) = some u) /\ ∀ j, j < n -> (f j).length = size /\ (f j).all Value.oneCell' = true := by
 unfold baseF at h
 split at h
 . rename_i i len cap
   split at h
   . rename_i b hbb
     split at h
     . rename_i vs hkd hvs
       simp only [cond_eq_ite] at h
       split at h
       . rename_i hc
         simp only [Bool.and_eq_true] at hc
         obtain ⟨⟨⟨c2, c3⟩, c4⟩, c5⟩ := hc
         have c2 := qB c2
         have c3 := qB c3
         simp only [qS, qP] at h
         obtain ⟨rfl, rfl⟩ := h
         obtain ⟨k1, k2⟩ := hw.blk i b hbb
         unfold BOk at k1
         rw [hkd] at k1
         have k1 : w.heap[ν.l i]? = some (.cells (concB ν b.cells).toArray b.elem (b.cells.length, b.cells.length + 1)) := k1
         rw [valsS_conc (ν := ν) hvs] at k1
         subst c2
         have hfl := chunks_flat h0 c3
         refine ⟨ν.l i, rfl, by simp, by rw [hfl]; exact c3, fun j u hu => ?_, fun j hj => ?_⟩
         . rw [hfl] at hu
           rw [add_plain, Nat.zero_add]
           simp [World.cell?, k1, hu]
         . have hm : j * size + size <= len * size := by
             have := Nat.mul_le_mul_right size (show j + 1 <= len from hj)
             rwa [Nat.add_mul, Nat.one_mul] at this
           rw [tabE_chunks size len vs j hj]
           refine ⟨by rw [List.length_take, List.length_drop]; omega, List.all_eq_true.mpr fun x hx => List.all_eq_true.mp c4 x (List.mem_of_mem_drop (List.mem_of_mem_take hx))⟩
       . cases h
     . cases h
   . cases h
 . cases h
inductive GX (E : Env) (o : Oper) (s : St) : SV -> Mem -> List (Bool × Bool) -> Prop
 | cut (t x lo hi k e i l h) (ho : o.op = .slice t x lo hi none) (hx : ev s x = .c k) (hk : getL s k = some e) (hu : E.P.underlying t = some (.slice (E.P.elem t))) (hi' : E.P.info? (E.P.elem t) = some i) (hl : boundS s 0 lo = some l) (hh : boundS s e.n hi = some h) (hsz : i.size = e.size) (hown : e.own = false) :
     GX E o s (.c s.own.l.length) { s.own with l := s.own.l ++ [⟨e.elT, e.size, h.toNat - l.toNat, fun j => e.el (l.toNat + j), false, false, true⟩] } [(pre (decide (0 <= l /\ l <= h /\ h <= e.n)), true)]
 | mark (t x i len cap b et) (ho : o.op = .convert t t x) (hx : ev s x = .inr (i, 0, some (len, cap))) (hlo : s.lo <= i) (hb : getB s i = some b) (hu : E.P.underlying t = some (.slice et)) (he : E.P.underlying et = some (.int .u8)) (hfr : bldFree s b.elem = true) :
     GX E o s (.inr (i, 0, some (len, cap))) { s.own with b := s.own.b.set i ⟨b.cells, b.elem, .shut⟩ } []
 | app (x y t e i z n f m g o2) (ho : o.op = .call { callee := .builtin .append, args := #[x, y], argTypes := #[t, t] }) (hu : E.P.underlying t = some (.slice e)) (hi : E.P.info? e = some i) (hz : i.zero = some z) (hzs : z.cells.size = i.size) (hsz : 0 < i.size) (hb : baseF s i.size (ev s x) = some (n, f)) (hn : newsOf s i.size (ev s y) = some (m, g, o2)) :
     GX E o s (.c s.own.l.length) { s.own with l := s.own.l ++ [⟨e, i.size, n + m, joinE n f g, true, false, o2⟩] } [(pre (decide (n + m <= maxLen /\ (n + m) * i.bytes <= 140737488355328 /\ 0 < m)), true)]
theorem simGX_some {E : Env} {o : Oper} {s : St} {x : SV} {own : Mem} {q : List (Bool × Bool)} (h : simGX E o s = some (x, own, q)) : GX E o s x own q := by
 unfold simGX at h
 split at h
 . rename_i t y lo hi ho
   cases hc : E.cut
   . rw [hc] at h; cases h
   . rw [hc] at h
     simp only [cond_true] at h
     split at h
     . rename_i k hy
       split at h
       . rename_i e et hk hu
         split at h
         . rename_i i l hh hi' hl hhh
           cases hb : (Nat.beq i.size e.size && Nat.beq (E.P.elem t) et && !e.own)
           . rw [hb] at h; cases h
           . rw [hb] at h
             simp only [cond_true, qS, qP] at h
             obtain ⟨rfl, rfl, rfl⟩ := h
             simp only [Bool.and_eq_true, Bool.not_eq_true'] at hb
             have het := qB hb.1.2
             subst het
             exact .cut t y lo hi k e i l hh ho hy hk hu hi' hl hhh (qB hb.1.1) hb.2
         . cases h
       . cases h
     . cases h
 . rename_i t t' y ho
   split at h
   . rename_i i len cap hy
     cases hb : (Nat.ble s.lo i && Nat.beq t t')
     . rw [hb] at h; cases h
     . rw [hb] at h
       simp only [cond_true] at h
       simp only [Bool.and_eq_true] at hb
       have htt := qB hb.2
       subst htt
       split at h
       . rename_i b et hbb hu
         split at h
         . rename_i he
           cases hf : bldFree s b.elem
           . rw [hf] at h; cases h
           . rw [hf] at h
             simp only [cond_true, qS, qP] at h
             obtain ⟨rfl, rfl, rfl⟩ := h
             exact .mark t y i len cap b et ho hy (Nat.le_of_ble_eq_true hb.1) hbb hu he hf
         . cases h
       . cases h
   . cases h
 . rename_i az ats ho
   split at h
   . rename_i x' y' t t' hl1 hl2
     have e1 : az = #[x', y'] := by rw [<- Array.toArray_toList (xs := az), hl1]
     have e2 : ats = #[t, t'] := by rw [<- Array.toArray_toList (xs := ats), hl2]
     cases hb : Nat.beq t t'
     . rw [hb] at h; cases h
     . rw [hb] at h
       have htt := qB hb
       subst htt
       simp only [cond_true] at h
       split at h
       . rename_i e hu
         split at h
         . rename_i i hi
           split at h
           . rename_i z hz
             cases hcond : (Nat.beq z.cells.size i.size && Nat.blt 0 i.size)
             . rw [hcond] at h; cases h
             . rw [hcond] at h
               simp only [cond_true] at h
               simp only [Bool.and_eq_true] at hcond
               split at h
               . rename_i n f m g o2 hb1 hn1
                 simp only [qS, qP] at h
                 obtain ⟨rfl, rfl, rfl⟩ := h
                 subst e1 e2
                 exact .app x' y' t e i z n f m g o2 ho hu hi hz (qB hcond.1) (by simpa [Nat.blt_eq] using hcond.2) hb1 hn1
               . cases h
           . cases h
         . cases h
       . cases h
   . cases h
 . cases h
theorem simGX_st {E : Env} {o : Oper} {s : St} {x : SV} {own : Mem} {q : List (Bool × Bool)} (h : simGX E o s = some (x, own, q)) (hg : Good s) :
   okV own.b.length own.l.length x /\ s.own.b.length <= own.b.length /\ s.own.l.length <= own.l.length /\ (∀ i, i < s.lo -> own.b[i]? = s.own.b[i]?) /\ (∀ i, i < s.llo -> own.l[i]? = s.own.l[i]?) /\ OkB own.b.length own.l.length own.b := by
 cases simGX_some h with
 | cut t x lo hi k e i l h => exact ⟨by show _ < _; simp, Nat.le_refl _, by simp, fun _ _ => rfl, fun j hj => List.getElem?_append_left (Nat.lt_of_lt_of_le hj hg.llo), hg.okb.mono (Nat.le_refl _) (by simp)⟩
 | mark t x i len cap b et ho hx hlo hb hu he hfr =>
   refine ⟨?_, by simp, Nat.le_refl _, fun j hj => List.getElem?_set_ne (by omega), fun _ _ => rfl, (hg.okb.set (i := i) (b := ⟨b.cells, b.elem, .shut⟩) (hg.okb i b (getB_some hb).1)).mono (by simp) (Nat.le_refl _)⟩
   show i < (s.own.b.set i _).length
   rw [List.length_set]
   exact lt_of_some_list (getB_some hb).1
 | app x y t e i z n f m g o2 => exact ⟨by show _ < _; simp, Nat.le_refl _, by simp, fun _ _ => rfl, fun j hj => List.getElem?_append_left (Nat.lt_of_lt_of_le hj hg.llo), hg.okb.mono (Nat.le_refl _) (by simp)⟩
theorem simLX_some {E : Env} {o : Oper} {s : St} {x : SV} {own : Mem} {q : List (Bool × Bool)} (h : simLX E o s = some (x, own, q)) : ∃ t len parts cells e i, o.op = .buildSlice t len parts /\ parts.toList.all (fun p => isV (ev s p.2)) = true /\ litB E.P t len (parts.toList.map fun p => (p.1, rho s p.2)) = some (cells, e) /\ E.P.info? e = some i /\ 0 < i.size /\ cells.length = len * i.size /\ cells.all Value.oneCell' = true /\ len <= 2 ^ 24 /\
   x = .c s.own.l.length /\ own = { s.own with l := s.own.l ++ [⟨e, i.size, len, tabE (chunks i.size len cells), true, false, true⟩] } /\ q = [] := by
 unfold simLX at h
 split at h
 . rename_i t len parts ho
   cases hb : (E.lit && parts.toList.all (fun p => isV (ev s p.2)))
   . rw [hb] at h; cases h
   . rw [hb] at h
     simp only [cond_true] at h
     simp only [Bool.and_eq_true] at hb
     split at h
     . rename_i cells e hl
       split at h
       . rename_i i hi
         cases hc : (Nat.blt 0 i.size && Nat.beq cells.length (len * i.size) && cells.all Value.oneCell' && Nat.ble len (2 ^ 24))
         . rw [hc] at h; cases h
         . rw [hc] at h
           simp only [cond_true, qS, qP] at h
           simp only [Bool.and_eq_true] at hc
           exact ⟨t, len, parts, cells, e, i, ho, hb.2, hl, hi, by simpa [Nat.blt_eq] using hc.1.1.1, qB hc.1.1.2, hc.1.2, Nat.le_of_ble_eq_true hc.2, h.1.symm, h.2.1.symm, h.2.2.symm⟩
       . cases h
     . cases h
 . cases h
theorem simMX_some {E : Env} {o : Oper} {s : St} {x : SV} {own : Mem} {q : List (Bool × Bool)} (h : simMX E o s = some (x, own, q)) :
   (∃ t, o.op = .makeMap t none /\ x = .mp s.own.b.length /\ own = { s.own with b := s.own.b ++ [⟨[], 0, .map t []⟩] } /\ q = []) \/
   ∃ t m ix y i f k g v b kt et T l, o.op = .mapUpdate t m ix y /\ ev s m = .mp i /\ ev s ix = .inl (f, .int .i64 k) /\ ev s y = .inl (g, v) /\ s.lo <= i /\ s.own.b[i]? = some b /\ E.P.underlying t = some (.map kt et) /\ b.kd = .map T l /\ E.P.underlying kt = some (.int .i64) /\
     x = .inl ([], undef) /\ own = { s.own with b := s.own.b.set i ⟨[], 0, .map T ((k, v) :: l)⟩ } /\ q = [(pre (decide (inI k = true /\ l.length < maxLen)), true)] := by
 unfold simMX at h
 split at h
 . rename_i t ho
   simp only [qS, qP] at h
   exact .inl ⟨t, ho, h.1.symm, h.2.1.symm, h.2.2.symm⟩
 . rename_i t m ix y ho
   split at h
   . rename_i i f k g v hm hix hy
     cases hlo : Nat.ble s.lo i
     . rw [hlo] at h; cases h
     . rw [hlo] at h
       simp only [cond_true] at h
       split at h
       . rename_i b kt et hb hu
         split at h
         . rename_i T l hkd hk
           simp only [qS, qP] at h
           exact .inr ⟨t, m, ix, y, i, f, k, g, v, b, kt, et, T, l, ho, hm, hix, hy, Nat.le_of_ble_eq_true hlo, hb, hu, hkd, hk, h.1.symm, h.2.1.symm, h.2.2.symm⟩
         . cases h
       . cases h
   . cases h
 . cases h
theorem selL_okV {k : IntKind} {n v : Int} {N M : Nat} : ∀ (xs : List Int) (j : Nat), ∀ c ∈ selL k n v j xs, okV N M c
 | [], j, c, h => by cases h
 | x :: r, j, c, h => by
   rcases List.mem_cons.mp h with rfl | h
   . trivial
   . exact selL_okV r (j + 1) c h
theorem ia_okV {cs : List SV} {k : IntKind} {n v : Int} {xs : List Int} {off len N M : Nat} (h : ∀ c ∈ cs, okV N M c) : ∀ c ∈ cs.take off ++ (selL k n v 0 xs ++ cs.drop (off + len)), okV N M c := fun c hc => by
 rcases List.mem_append.mp hc with hc | hc
 . exact h c (List.mem_of_mem_take hc)
 . rcases List.mem_append.mp hc with hc | hc
   . exact selL_okV xs 0 c hc
   . exact h c (List.mem_of_mem_drop hc)
theorem selL_len {k : IntKind} {n v : Int} : ∀ (xs : List Int) (j : Nat), (selL k n v j xs).length = xs.length
 | [], j => rfl
 | x :: r, j => by simp [selL, selL_len r]
theorem selL_conc {k : IntKind} {n v : Int} {ν : Nu} : ∀ (xs : List Int) (j i : Nat), i < xs.length -> (concB ν (selL k n v j xs))[i]? = some (.int k (bif n == ((j + i : Nat) : Int) then v else (xs[i]?).getD 0))
 | [], j, i, h => by cases h
 | x :: r, j, 0, h => by show some (Value.int k (selZ n j v x)) = _; rw [selZ_eq]; rfl
 | x :: r, j, i + 1, h => by
   show (concB ν (selL k n v (j + 1) r))[i]? = _
   rw [selL_conc r (j + 1) i (by simpa using h)]
   rw [show j + 1 + i = j + (i + 1) by omega]; rfl
theorem simIX_some {E : Env} {o : Oper} {s : St} {x : SV} {own : Mem} {q : List (Bool × Bool)} (h : simIX E o s = some (x, own, q)) :
   ∃ t y z i off len n f k v b ti xs, o.op = .store t y z /\ ev s y = .ia i off len n /\ ev s z = .inl (f, .int k v) /\ s.lo <= i /\ getB s i = some b /\ E.P.info? t = some ti /\ bldFree s b.elem = true /\ ti.size = 1 /\ intsAt k ((b.cells.drop off).take len) = some xs /\ xs.length = len /\
     x = .inl ([], undef) /\ own = { s.own with b := s.own.b.set i ⟨b.cells.take off ++ (selL k n v 0 xs ++ b.cells.drop (off + len)), b.elem, .cells⟩ } /\ q = [(pre (idxB n len), true)] := by
 unfold simIX at h
 split at h
 . rename_i t y z ho
   split at h
   . rename_i i off len n f k v hy hz
     cases hlo : Nat.ble s.lo i
     . rw [hlo] at h; cases h
     . rw [hlo] at h
       simp only [cond_true] at h
       split at h
       . rename_i b ti hb hi
         cases hs : (bldFree s b.elem && Nat.beq ti.size 1)
         . rw [hs] at h; cases h
         . rw [hs] at h
           simp only [cond_true] at h
           split at h
           . rename_i xs hxs
             cases hl : Nat.beq xs.length len
             . rw [hl] at h; cases h
             . rw [hl] at h
               simp only [cond_true, qS, qP] at h
               rw [Bool.and_eq_true] at hs
               exact ⟨t, y, z, i, off, len, n, f, k, v, b, ti, xs, ho, hy, hz, Nat.le_of_ble_eq_true hlo, hb, hi, hs.1, qB hs.2, hxs, qB hl, h.1.symm, h.2.1.symm, h.2.2.symm⟩
           . cases h
       . cases h
   . cases h
 . cases h
theorem store_ia {P : Program} {t : TypeId} {ti : TypeInfo} {cs : List SV} {off len : Nat} {k : IntKind} {n v : Int} {xs : List Int} {ν : Nu} (hi : P.info? t = some ti) (hs : ti.size = 1) (h : intsAt k ((cs.drop off).take len) = some xs) (hl : xs.length = len) (hn : 0 <= n /\ n < len) :
   storeB P t (concB ν cs) (off + n.toNat) (.int k v) = some (concB ν (cs.take off ++ (selL k n v 0 xs ++ cs.drop (off + len)))) := by
 have hc := congrArg List.length (intsAt_ok (ν := ν) h)
 have hc : min len (cs.length - off) = len := by simpa [concB, hl] using hc
 have hlen : (concB ν cs).length = cs.length := by simp [concB]
 unfold storeB
 simp only [hi]
 have e1 : (Value.int k v).cells.toList = [Value.int k v] := rfl
 have e2 : (Nat.beq [Value.int k v].length ti.size && Nat.ble (off + n.toNat + ti.size) (concB ν cs).length && [Value.int k v].all Value.oneCell') = true := by
   rw [hs, hlen, show Nat.ble (off + n.toNat + 1) cs.length = true from Nat.ble_eq.mpr (by omega)]; rfl
 rw [e1, e2, cond_true]
 congr 1
 have e3 : putQ (concB ν cs) (off + n.toNat) [Value.int k v] = (concB ν cs).set (off + n.toNat) (.int k v) := by
   unfold putQ
   cases hb : (Nat.beq (off + n.toNat) 0 && Nat.beq [Value.int k v].length (concB ν cs).length)
   . rfl
   . simp only [Bool.and_eq_true] at hb
     have h1 := qB hb.1
     have h2 : 1 = (concB ν cs).length := qB hb.2
     rw [h1]
     match hcs : concB ν cs, h2 with
     | [c], _ => rfl
 rw [e3]
 apply List.ext_getElem?
 intro j
 have e4 : concB ν (cs.take off ++ (selL k n v 0 xs ++ cs.drop (off + len))) = (concB ν cs).take off ++ (concB ν (selL k n v 0 xs) ++ (concB ν cs).drop (off + len)) := by simp [concB, List.map_take, List.map_drop]
 rw [e4]
 have e5 : ((concB ν cs).take off).length = off := by rw [List.length_take, hlen]; omega
 have e6 : (concB ν (selL k n v 0 xs)).length = len := by simp [concB, selL_len, hl]
 by_cases h1 : j < off
 . rw [List.getElem?_append_left (by omega), List.getElem?_set_ne (by omega), List.getElem?_take_of_lt h1]
 . rw [List.getElem?_append_right (by omega), e5]
   by_cases h2 : j - off < len
   . rw [List.getElem?_append_left (by omega), selL_conc xs 0 (j - off) (by omega)]
     have hat := cells_at h (ν := ν) (j := j - off) (by omega)
     rw [show off + (j - off) = j by omega] at hat
     by_cases h3 : n = ((0 + (j - off) : Nat) : Int)
     . have : off + n.toNat = j := by omega
       rw [this, List.getElem?_set_self (by omega), show (n == ((0 + (j - off) : Nat) : Int)) = true by simpa using h3]; rfl
     . rw [List.getElem?_set_ne (by omega), hat, show (n == ((0 + (j - off) : Nat) : Int)) = false by simpa using h3]; rfl
   . rw [List.getElem?_append_right (by omega), e6, List.getElem?_set_ne (by omega), List.getElem?_drop]
     congr 1
     omega
theorem simFX1_st {E : Env} {o : Oper} {s : St} {x : SV} {own : Mem} {q : List (Bool × Bool)} (h : simFX1 E o s = some (x, own, q)) (hg : Good s) :
   okV own.b.length own.l.length x /\ s.own.b.length <= own.b.length /\ s.own.l.length <= own.l.length /\ (∀ i, i < s.lo -> own.b[i]? = s.own.b[i]?) /\ (∀ i, i < s.llo -> own.l[i]? = s.own.l[i]?) /\ OkB own.b.length own.l.length own.b := by
 unfold simFX1 at h
 split at h
 . rename_i r hr
   obtain ⟨t, len, parts, cells, e, i, _, _, _, _, _, _, _, _, rfl, rfl, _⟩ := simLX_some (hr.trans h)
   exact ⟨by show _ < _; simp, Nat.le_refl _, by simp, fun _ _ => rfl, fun j hj => List.getElem?_append_left (Nat.lt_of_lt_of_le hj hg.llo), hg.okb.mono (Nat.le_refl _) (by simp)⟩
 . split at h
   . rename_i r hr
     rcases simMX_some (hr.trans h) with ⟨t, ho, rfl, rfl, rfl⟩ | ⟨t, m, ix, y, i, f, k, g, v, b, kt, et, T, l, ho, hm, hix, hy, hlo, hb, hu, hkd, hk, rfl, rfl, rfl⟩
     . exact ⟨by show _ < _; simp, by simp, Nat.le_refl _, fun j hj => List.getElem?_append_left (Nat.lt_of_lt_of_le hj hg.lo), fun _ _ => rfl, (hg.okb.snoc (b := ⟨[], 0, .map t []⟩) (fun c hc => by cases hc)).mono (by simp) (Nat.le_refl _)⟩
     . exact ⟨trivial, by simp, Nat.le_refl _, fun j hj => List.getElem?_set_ne (by omega), fun _ _ => rfl, (hg.okb.set (i := i) (b := ⟨[], 0, .map T ((k, v) :: l)⟩) (fun c hc => by cases hc)).mono (by simp) (Nat.le_refl _)⟩
   . split at h
     . rename_i r hr
       obtain ⟨t, y, z, i, off, len, n, f, k, v, b, ti, xs, ho, hy, hz, hlo, hb, hi, hfr, hs, hxs, hl, rfl, rfl, rfl⟩ := simIX_some (hr.trans h)
       exact ⟨trivial, by simp, Nat.le_refl _, fun j hj => List.getElem?_set_ne (by omega), fun _ _ => rfl, (hg.okb.set (i := i) (b := ⟨b.cells.take off ++ (selL k n v 0 xs ++ b.cells.drop (off + len)), b.elem, .cells⟩) (ia_okV (hg.okb i b (getB_some hb).1))).mono (by simp) (Nat.le_refl _)⟩
     . split at h
       . rename_i r hr
         exact simFX0_st (hr.trans h) hg
       . exact simGX_st h hg
theorem simNA_some {E : Env} {o : Oper} {s : St} {x : SV} {own : Mem} {q : List (Bool × Bool)} (h : simNA E o s = some (x, own, q)) : ∃ y z t e i k k2 e1 e2, o.op = .call { callee := .builtin .append, args := #[y, z], argTypes := #[t, t] } /\ E.P.underlying t = some (.slice e) /\ E.P.info? e = some i /\ ev s y = .c k /\ ev s z = .c k2 /\ getL s k = some e1 /\ getL s k2 = some e2 /\ x = .c k /\ own = s.own /\ q = [(pre (decide (e2.n = 0)), true)] := by
 unfold simNA at h
 split at h
 . rename_i az ats d ho hd
   cases hn : E.non.any (Nat.beq d)
   . rw [hn] at h; cases h
   . rw [hn] at h
     simp only [cond_true] at h
     split at h
     . rename_i y z t t' hl1 hl2
       have e1 : az = #[y, z] := by rw [<- Array.toArray_toList (xs := az), hl1]
       have e2 : ats = #[t, t'] := by rw [<- Array.toArray_toList (xs := ats), hl2]
       cases hb : Nat.beq t t'
       . rw [hb] at h; cases h
       . rw [hb] at h
         have htt := qB hb
         subst htt
         simp only [cond_true] at h
         split at h
         . rename_i e k k2 hu hy hz
           split at h
           . rename_i i la lb hi hk hk2
             simp only [qS, qP] at h
             obtain ⟨rfl, rfl, rfl⟩ := h
             subst e1 e2
             exact ⟨y, z, t, e, i, k, k2, la, lb, ho, hu, hi, hy, hz, hk, hk2, rfl, rfl, rfl⟩
           . cases h
         . cases h
     . cases h
 . cases h
theorem simFX3_st {E : Env} {o : Oper} {s : St} {x : SV} {own : Mem} {q : List (Bool × Bool)} (h : simFX3 E o s = some (x, own, q)) (hg : Good s) :
   okV own.b.length own.l.length x /\ s.own.b.length <= own.b.length /\ s.own.l.length <= own.l.length /\ (∀ i, i < s.lo -> own.b[i]? = s.own.b[i]?) /\ (∀ i, i < s.llo -> own.l[i]? = s.own.l[i]?) /\ OkB own.b.length own.l.length own.b := by
 unfold simFX3 at h
 split at h
 . rename_i r hr
   obtain ⟨y, z, t, e, i, k, k2, e1, e2, _, _, _, _, _, hk, _, rfl, rfl, _⟩ := simNA_some (hr.trans h)
   exact ⟨lt_of_some_list (getL_some hk).1, Nat.le_refl _, Nat.le_refl _, fun _ _ => rfl, fun _ _ => rfl, hg.okb⟩
 . exact simFX1_st h hg
theorem simNB_some {E : Env} {o : Oper} {s : St} {x : SV} {own : Mem} {q : List (Bool × Bool)} (h : simNB E o s = some (x, own, q)) : ∃ y z t e i fl, o.op = .call { callee := .builtin .append, args := #[y, z], argTypes := #[t, t] } /\ E.P.underlying t = some (.slice e) /\ E.P.info? e = some i /\ ev s y = .inl (fl, .slice none 0 0) /\ x = .inl ([], .slice none 0 0) /\ own = s.own /\
   ((∃ k2 e2, ev s z = .c k2 /\ getL s k2 = some e2 /\ q = [(pre (decide (e2.n = 0)), true)]) \/ ∃ f2, ev s z = .inl (f2, .slice none 0 0)) := by
 unfold simNB at h
 split at h
 . rename_i az ats d ho hd
   split at h
   . rename_i y z t t' hl1 hl2
     have e1 : az = #[y, z] := by rw [<- Array.toArray_toList (xs := az), hl1]
     have e2 : ats = #[t, t'] := by rw [<- Array.toArray_toList (xs := ats), hl2]
     cases hb : Nat.beq t t'
     . rw [hb] at h; cases h
     . rw [hb] at h
       have htt := qB hb
       subst htt
       simp only [cond_true] at h
       subst e1 e2
       split at h
       . rename_i e fl k2 hu hy hz
         cases hn : E.non.any (Nat.beq d)
         . rw [hn] at h; cases h
         . rw [hn] at h
           simp only [cond_true] at h
           split at h
           . rename_i i le hi hk
             simp only [qS, qP] at h
             obtain ⟨rfl, rfl, rfl⟩ := h
             exact ⟨y, z, t, e, i, fl, ho, hu, hi, hy, rfl, rfl, .inl ⟨k2, le, hz, hk, rfl⟩⟩
           . cases h
       . rename_i e fl f2 hu hy hz
         split at h
         . rename_i i hi
           simp only [qS, qP] at h
           obtain ⟨rfl, rfl, rfl⟩ := h
           exact ⟨y, z, t, e, i, fl, ho, hu, hi, hy, rfl, rfl, .inr ⟨f2, hz⟩⟩
         . cases h
       . cases h
   . cases h
 . cases h
theorem simAG_some {E : Env} {o : Oper} {s : St} {x : SV} {own : Mem} {q : List (Bool × Bool)} (h : simAG E o s = some (x, own, q)) : ∃ y z t t' e i zv fl m n f o1 k?, o.op = .call { callee := .builtin .append, args := #[y, z], argTypes := #[t, t'] } /\ E.P.underlying t = some (.slice e) /\ E.P.underlying t' = some (.int .i64) /\ E.P.info? e = some i /\ i.zero = some zv /\
   zv.cells.size = i.size /\ 0 < i.size /\ bldFree s e = true /\ zv.cells.toList.all Value.oneCell' = true /\ ev s z = .inl (fl, .int .i64 m) /\ baseOf s e i.size (ev s y) = some (n, f, o1, k?) /\ x = .c s.own.l.length /\ own = { s.own with l := killL s.own.l k? ++ [⟨e, i.size, n + m.toNat, joinE n f (fun _ => zv.cells.toList), true, false, o1 || anyF fl⟩] } /\ q = [(pre (decide (0 <= m /\ n + m.toNat <= maxLen /\ (n + m.toNat) * i.bytes <= 140737488355328)), true)] := by
 unfold simAG at h
 split at h
 . rename_i az ats ho
   split at h
   . rename_i y z t t' hl1 hl2
     have e1 : az = #[y, z] := by rw [<- Array.toArray_toList (xs := az), hl1]
     have e2 : ats = #[t, t'] := by rw [<- Array.toArray_toList (xs := ats), hl2]
     subst e1 e2
     split at h
     . rename_i e fl m hu hu' hz
       split at h
       . rename_i i hi
         split at h
         . rename_i zv hzv
           cases hb : (Nat.beq zv.cells.size i.size && Nat.blt 0 i.size && bldFree s e && zv.cells.toList.all Value.oneCell')
           . rw [hb] at h; cases h
           . rw [hb] at h
             simp only [cond_true] at h
             split at h
             . rename_i n f o1 k? hbase
               simp only [qS, qP] at h
               obtain ⟨rfl, rfl, rfl⟩ := h
               simp only [Bool.and_eq_true] at hb
               exact ⟨y, z, t, t', e, i, zv, fl, m, n, f, o1, k?, ho, hu, hu', hi, hzv, qB hb.1.1.1, by simpa [Nat.blt_eq] using hb.1.1.2, hb.1.2, hb.2, hz, hbase, rfl, rfl, rfl⟩
             . cases h
         . cases h
       . cases h
     . cases h
   . cases h
 . cases h
theorem simFX6_st {E : Env} {o : Oper} {s : St} {x : SV} {own : Mem} {q : List (Bool × Bool)} (h : simFX6 E o s = some (x, own, q)) (hg : Good s) :
   okV own.b.length own.l.length x /\ s.own.b.length <= own.b.length /\ s.own.l.length <= own.l.length /\ (∀ i, i < s.lo -> own.b[i]? = s.own.b[i]?) /\ (∀ i, i < s.llo -> own.l[i]? = s.own.l[i]?) /\ OkB own.b.length own.l.length own.b := by
 unfold simFX6 at h
 split at h
 . rename_i r hr
   obtain ⟨y, z, t, t', e, i, zv, fl, m, n, f, o1, k?, _, _, _, _, _, _, _, _, _, _, hbase, rfl, rfl, _⟩ := simAG_some (hr.trans h)
   have hk := baseOf_low hbase
   have hlen := killL_len s.own.l k?
   refine ⟨by show _ < _; simp [hlen], Nat.le_refl _, by simp [hlen], fun _ _ => rfl, fun j hj => ?_, hg.okb.mono (Nat.le_refl _) (by simp [hlen])⟩
   show (killL s.own.l k? ++ _)[j]? = _
   have hj2 : j < s.own.l.length := Nat.lt_of_lt_of_le hj hg.llo
   rw [List.getElem?_append_left (by rw [hlen]; exact hj2)]
   exact killL_low hk j hj
 . unfold simFX4 at h
   split at h
   . rename_i r hr
     obtain ⟨_, _, _, _, _, _, _, _, _, _, rfl, rfl, _⟩ := simNB_some (hr.trans h)
     exact ⟨trivial, Nat.le_refl _, Nat.le_refl _, fun _ _ => rfl, fun _ _ => rfl, hg.okb⟩
   . exact simFX3_st h hg
theorem simMY_some {E : Env} {o : Oper} {s : St} {x : SV} {own : Mem} {q : List (Bool × Bool)} (h : simMY E o s = some (x, own, q)) :
   (∃ t, o.op = .makeMap t none /\ x = .mp s.own.b.length /\ own = { s.own with b := s.own.b ++ [⟨[], 0, .mapV t []⟩] } /\ q = []) \/
   ∃ t m ix y i f k g v b kt et T l, o.op = .mapUpdate t m ix y /\ ev s m = .mp i /\ ev s ix = .inl (f, k) /\ ev s y = .inl (g, v) /\ s.lo <= i /\ s.own.b[i]? = some b /\ E.P.underlying t = some (.map kt et) /\ b.kd = .mapV T l /\
     x = .inl ([], undef) /\ own = { s.own with b := s.own.b.set i ⟨[], 0, .mapV T ((k, v) :: l)⟩ } /\ q = [(pre (decide (l.length < maxLen)), true), (pre (keysB E.P kt k l), true)] := by
 unfold simMY at h
 split at h
 . rename_i t ho
   split at h
   . split at h
     . cases h
     . simp only [qS, qP] at h
       exact .inl ⟨t, ho, h.1.symm, h.2.1.symm, h.2.2.symm⟩
   . cases h
 . rename_i t m ix y ho
   split at h
   . rename_i i f k g v hm hix hy
     cases hlo : Nat.ble s.lo i
     . rw [hlo] at h; cases h
     . rw [hlo] at h
       simp only [cond_true] at h
       split at h
       . rename_i b kt et hb hu
         split at h
         . rename_i T l hkd
           simp only [qS, qP] at h
           exact .inr ⟨t, m, ix, y, i, f, k, g, v, b, kt, et, T, l, ho, hm, hix, hy, Nat.le_of_ble_eq_true hlo, hb, hu, hkd, h.1.symm, h.2.1.symm, h.2.2.symm⟩
         . cases h
       . cases h
   . cases h
 . cases h
theorem simFX2_st {E : Env} {o : Oper} {s : St} {x : SV} {own : Mem} {q : List (Bool × Bool)} (h : simFX2 E o s = some (x, own, q)) (hg : Good s) :
   okV own.b.length own.l.length x /\ s.own.b.length <= own.b.length /\ s.own.l.length <= own.l.length /\ (∀ i, i < s.lo -> own.b[i]? = s.own.b[i]?) /\ (∀ i, i < s.llo -> own.l[i]? = s.own.l[i]?) /\ OkB own.b.length own.l.length own.b := by
 unfold simFX2 at h
 split at h
 . rename_i r hr
   rcases simMY_some (hr.trans h) with ⟨t, ho, rfl, rfl, rfl⟩ | ⟨t, m, ix, y, i, f, k, g, v, b, kt, et, T, l, ho, hm, hix, hy, hlo, hb, hu, hkd, rfl, rfl, rfl⟩
   . exact ⟨by show _ < _; simp, by simp, Nat.le_refl _, fun j hj => List.getElem?_append_left (Nat.lt_of_lt_of_le hj hg.lo), fun _ _ => rfl, (hg.okb.snoc (b := ⟨[], 0, .mapV t []⟩) (fun c hc => by cases hc)).mono (by simp) (Nat.le_refl _)⟩
   . exact ⟨trivial, by simp, Nat.le_refl _, fun j hj => List.getElem?_set_ne (by omega), fun _ _ => rfl, (hg.okb.set (i := i) (b := ⟨[], 0, .mapV T ((k, v) :: l)⟩) (fun c hc => by cases hc)).mono (by simp) (Nat.le_refl _)⟩
 . exact simFX6_st h hg
theorem simRW_some {E : Env} {o : Oper} {s : St} {x : SV} {own : Mem} {q : List (Bool × Bool)} (h : simRW E o s = some (x, own, q)) : ∃ fl v e qs, simRO E o s = some (.inl (fl, v), false, qs) /\ e.own = false /\ x = .c s.own.l.length /\ own = { s.own with l := s.own.l ++ [e] } /\ q = (pre (rowB E.glob v e), true) :: qs := by
 unfold simRW at h
 split at h
 . split at h
   . rename_i R _
     split at h
     . rename_i fl v qs hro
       simp only [qS, qP] at h
       obtain ⟨rfl, rfl, rfl⟩ := h
       exact ⟨fl, v, getIn (R v), qs, hro, rfl, rfl, rfl, rfl⟩
     . cases h
   . cases h
 . cases h
theorem simRS_some {E : Env} {o : Oper} {s : St} {x : SV} {own : Mem} {q : List (Bool × Bool)} (h : simRS E o s = some (x, own, q)) : ∃ fl cs v r e qs, simRO E o s = some (.inl (fl, .agg cs), false, qs) /\ cs.toList = v :: r /\ e.own = false /\ x = .st (.l s.own.l.length :: r.map (.v [true])) /\ own = { s.own with l := s.own.l ++ [e] } /\ q = (pre (rowB E.glob v e), true) :: qs := by
 unfold simRS at h
 split at h
 . split at h
   . rename_i R _
     split at h
     . rename_i fl cs qs hro
       split at h
       . rename_i v r hcs
         simp only [qS, qP] at h
         obtain ⟨rfl, rfl, rfl⟩ := h
         exact ⟨fl, cs, v, r, getIn (R v), qs, hro, hcs, rfl, rfl, rfl, rfl⟩
       . cases h
     . cases h
   . cases h
 . cases h
theorem simFX_st {E : Env} {o : Oper} {s : St} {x : SV} {own : Mem} {q : List (Bool × Bool)} (h : simFX E o s = some (x, own, q)) (hg : Good s) :
   okV own.b.length own.l.length x /\ s.own.b.length <= own.b.length /\ s.own.l.length <= own.l.length /\ (∀ i, i < s.lo -> own.b[i]? = s.own.b[i]?) /\ (∀ i, i < s.llo -> own.l[i]? = s.own.l[i]?) /\ OkB own.b.length own.l.length own.b := by
 unfold simFX at h
 split at h
 . rename_i r hr
   obtain ⟨fl, cs, v, r', e, qs, _, _, _, rfl, rfl, _⟩ := simRS_some (hr.trans h)
   refine ⟨fun c hc => ?_, Nat.le_refl _, by simp, fun _ _ => rfl, fun i hi => List.getElem?_append_left (Nat.lt_of_lt_of_le hi hg.llo), hg.okb.mono (Nat.le_refl _) (by simp)⟩
   rcases List.mem_cons.mp hc with rfl | hc
   . show s.own.l.length < (s.own.l ++ [e]).length; simp
   . obtain ⟨y, _, rfl⟩ := List.mem_map.mp hc; trivial
 . split at h
   . rename_i r hr
     obtain ⟨fl, v, e, qs, _, _, rfl, rfl, _⟩ := simRW_some (hr.trans h)
     exact ⟨by show s.own.l.length < (s.own.l ++ [e]).length; simp, Nat.le_refl _, by simp, fun _ _ => rfl, fun i hi => List.getElem?_append_left (Nat.lt_of_lt_of_le hi hg.llo), hg.okb.mono (Nat.le_refl _) (by simp)⟩
   . exact simFX2_st h hg
theorem simNX_st {o : Oper} {s s' : St} {x : SV} (h : simNX o s = some (x, s')) (hg : Good s) : Le s s' /\ Good s' /\ okV s'.own.b.length s'.own.l.length x := by
 unfold simNX at h; cases h
end Go.Proofs.Ytmaffamhjmlonaa.S2
