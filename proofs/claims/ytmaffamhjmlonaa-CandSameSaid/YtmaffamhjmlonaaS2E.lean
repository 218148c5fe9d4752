/- The evaluator with lists answers what the call returns: from one operation to the next; regions. No word of the program. -/
import Derived.Test.YtmaffamhjmlonaaS2D
set_option linter.unusedVariables false
set_option linter.unusedSimpArgs false
namespace Go.Proofs.Ytmaffamhjmlonaa.S2
open Go Go.RowKit Sim
theorem conc_one {ν : Nu} {s : St} {w0 : Base} {w : World} {mem : Bool} (hw : WR w0 ν s.own mem w) {y : SV} (h : oneS s y = true) : y ≠ .any /\ (conc ν y).cells = #[conc ν y] /\ (conc ν y).oneCell' = true := by
 cases y with
 | inl p =>
   obtain ⟨fl, v⟩ := p
   have h : v.oneCell' = true := h
   refine ⟨by simp, ?_, h⟩
   show v.cells = #[v]
   cases v <;> first | rfl | (cases h; done)
 | inr p =>
   obtain ⟨i, off, _ | ⟨len, cap⟩⟩ := p
   . exact ⟨by simp, rfl, rfl⟩
   . exact ⟨by simp, rfl, rfl⟩
 | c k =>
   unfold oneS at h
   simp only at h
   split at h
   . rename_i e he
     obtain ⟨hk, hd⟩ := getL_some he
     obtain ⟨_, a, cap, hv, _⟩ := hw.inB hk hd
     refine ⟨by simp, ?_, ?_⟩
     . show (ν.v k).cells = #[ν.v k]
       rw [hv]; rfl
     . show (ν.v k).oneCell' = true
       rw [hv]; rfl
   . cases h
 | fn f fs cs => exact ⟨by simp, rfl, rfl⟩
 | lp k j o sz => cases h
 | tp l => cases h
 | sub k lo n sz => cases h
 | st cs => cases h
 | mp i => cases h
 | ia i off len n => cases h
 | rp v e j o => cases h
 | any => cases h
theorem cellsS_ok {s : St} {y : SV} {cs : List SV} (h : cellsS s y = some cs) {w0 : Base} {w : World} {ν : Nu} {mem : Bool} (hw : WR w0 ν s.own mem w) : y ≠ .any /\ concB ν cs = (conc ν y).cells.toList /\ (conc ν y).cells.toList.all Value.oneCell' = true := by
 have one : ∀ {y : SV}, oneS s y = true -> y ≠ .any /\ concB ν [y] = (conc ν y).cells.toList /\ (conc ν y).cells.toList.all Value.oneCell' = true := fun {y} hy => by
   obtain ⟨h1, h2, h3⟩ := conc_one hw hy
   exact ⟨h1, by rw [h2]; rfl, by rw [h2]; simp [h3]⟩
 unfold cellsS at h
 split at h
 . rename_i fl v
   cases hb : v.cells.toList.all Value.oneCell'
   . rw [hb] at h; cases h
   . rw [hb] at h
     simp only [cond_true, qS] at h
     subst h
     exact ⟨by simp, concB_mkCells ν _ _, hb⟩
 . simp only [qS] at h
   subst h
   exact one rfl
 . rename_i k
   split at h
   . rename_i e he
     simp only [qS] at h
     subst h
     exact one (by unfold oneS; simp only [he])
   . cases h
 . simp only [qS] at h
   subst h
   exact one rfl
 . rename_i cs'
   cases hb : cs'.all (oneC s)
   . rw [hb] at h; cases h
   . rw [hb] at h
     simp only [cond_true, qS] at h
     subst h
     refine ⟨by simp, ?_, ?_⟩
     . show (cs'.map svC).map (conc ν) = cs'.map (concC ν)
       rw [List.map_map]
       exact List.map_congr_left fun c _ => svC_conc ν c
     . show (cs'.map (concC ν)).all Value.oneCell' = true
       rw [List.all_map]
       refine List.all_eq_true.mpr fun c hc => ?_
       have hc1 := List.all_eq_true.mp hb c hc
       cases c with
       | v fl x => exact hc1
       | a i off => rfl
       | l k =>
         have hk : oneS s (.c k) = true := hc1
         exact (conc_one hw hk).2.2
 . cases h
theorem putLS_conc (ν : Nu) : ∀ (vs c : List SV) (o : Nat), concB ν (putLS c o vs) = putL (concB ν c) o (concB ν vs)
 | [], c, o => rfl
 | v :: r, c, o => by
   show concB ν (putLS (c.set o v) (o + 1) r) = putL ((concB ν c).set o (conc ν v)) (o + 1) (concB ν r)
   rw [putLS_conc ν r]
   unfold concB
   rw [List.map_set]
theorem storeS_ok {P : Program} {t : TypeId} {cs us cs' : List SV} {off : Nat} {ν : Nu} {v : Value} (h : storeS P t cs off us = some cs') (h1 : concB ν us = v.cells.toList) (h2 : v.cells.toList.all Value.oneCell' = true) : storeB P t (concB ν cs) off v = some (concB ν cs') := by
 unfold storeS at h
 unfold storeB
 split at h
 . rename_i i hi
   cases hb : (Nat.beq us.length i.size && Nat.ble (off + i.size) cs.length)
   . rw [hb] at h; cases h
   . rw [hb] at h
     simp only [cond_true, qS] at h
     subst h
     have l1 : us.length = v.cells.toList.length := by rw [<- h1]; unfold concB; simp
     have l2 : cs.length = (concB ν cs).length := by unfold concB; simp
     rw [l1, l2] at hb
     simp only [hi, hb, h2, Bool.and_self, cond_true, qS]
     unfold putQ putQS
     rw [l1, l2]
     cases (Nat.beq off 0 && Nat.beq v.cells.toList.length (concB ν cs).length)
     . simp only [cond_false]; rw [putLS_conc, h1]
     . simp only [cond_true]; exact h1.symm
 . cases h
theorem fill_seq : ∀ (parts : List (Nat × Value)) (k : Nat) (cells : Array Value), (∀ p ∈ parts, p.2.cells = #[p.2]) -> parts.map (·.1) = List.range' k parts.length -> k + parts.length <= cells.size ->
   ∃ r, Instr.fill (fun k => some (k * 1, 1)) cells parts = some r /\ r.toList = cells.toList.take k ++ parts.map (·.2) ++ cells.toList.drop (k + parts.length)
 | [], k, cells, _, _, _ => ⟨cells, rfl, by simp⟩
 | (i, v) :: r, k, cells, h1, h2, h3 => by
   simp only [List.map_cons, List.length_cons, List.range'_succ, List.cons.injEq] at h2
   obtain ⟨rfl, h2⟩ := h2
   have hv : v.cells = #[v] := h1 (i, v) List.mem_cons_self
   simp only [List.length_cons] at h3
   obtain ⟨r', k1, k2⟩ := fill_seq r (i + 1) (cells.setIfInBounds i v) (fun p hp => h1 p (List.mem_cons_of_mem _ hp)) h2 (by simp; omega)
   refine ⟨r', ?_, ?_⟩
   . unfold Instr.fill
     have : ¬ (i + 1 > cells.size) := by omega
     simp only [Nat.mul_one] at k1
     simp [hv, this, k1]
   . rw [k2]
     have hlt : i < cells.toList.length := by simp; omega
     simp only [Array.toList_setIfInBounds, List.map_cons, List.length_cons]
     rw [List.take_set, List.drop_set, if_pos (by omega), List.take_add_one, List.getElem?_eq_getElem hlt]
     rw [List.set_append_right _ _ (by rw [List.length_take]; exact Nat.min_le_left _ _), show i - (cells.toList.take i).length = 0 by simp only [List.length_take]; omega]
     simp [show i + 1 + r.length = i + (r.length + 1) by omega]
theorem seqB_ok : ∀ (k : Nat) (l : List (Nat × SV)), seqB k l = true -> l.map (·.1) = List.range' k l.length
 | _, [], _ => rfl
 | k, (i, v) :: r, h => by
   simp only [seqB, Bool.and_eq_true] at h
   simp only [List.map_cons, List.length_cons, List.range'_succ, List.cons.injEq]
   exact ⟨qB h.1, seqB_ok (k + 1) r h.2⟩
theorem zero_made (z : Array Value) (n : Nat) : Builtin.zeroCells z n = madeCells z (n * z.size) := rfl
theorem run_append_zeros {P : Program} (w : World) (base : Nat) (t tn ty e : TypeId) (i : TypeInfo) (z : Value) (ht : P.underlying t = some (.slice e)) (htn : P.underlying tn = some (.int .i64)) (hi : P.info? e = some i) (hz : i.zero = some z)
   (hzs : z.cells.size = i.size) (hsz : 0 < i.size) (m : Nat) (h1 : ∀ u ∈ (Builtin.zeroCells z.cells m).toList, u.oneCell' = true) (v : Value) (n : Nat) (xs : List Value) (hown : w.ownsRow base e i.size v n xs)
   (h63 : n + m <= maxLen) (hbytes : (n + m) * i.bytes <= 140737488355328) (hbase : base <= w.heap.size) :
   ∃ v' w', (Builtin.append_ #[t, tn] ty #[v, .int .i64 (m : Int)]).run P w = .ok v' w' /\ w'.ownsRow base e i.size v' (n + m) (xs ++ (Builtin.zeroCells z.cells m).toList) /\ w.grownBy w' v.ownBlock /\ (v'.ownBlock = v.ownBlock \/ v'.ownBlock = some w.heap.size) := by
 have hmx : n + m <= 9223372036854775807 := by simp only [maxLen] at h63; omega
 have hw : IntKind.i64.wrap (m : Int) = m := by rw [IntKind.wrap_i64]; omega
 have hneg : ¬ ((m : Int) < 0) := by omega
 have hmb : m * i.bytes <= 140737488355328 := Nat.le_trans (Nat.mul_le_mul_right _ (Nat.le_add_left _ _)) hbytes
 have h48i : ¬ (281474976710656 < (m : Int) * (i.bytes : Int)) := by
   rw [<- Int.natCast_mul]; omega
 have hzl : (Builtin.zeroCells z.cells m).toList.length = m * i.size := by rw [Array.length_toList, size_zeroCells, hzs]
 have hlen : (xs ++ (Builtin.zeroCells z.cells m).toList).length = (n + m) * i.size := by rw [List.length_append, hown.1, hzl, Nat.add_mul]
 by_cases hm : m = 0
 . subst hm
   have e0 : (Builtin.zeroCells z.cells 0).toList = [] := List.eq_nil_of_length_eq_zero (by rw [hzl, Nat.zero_mul])
   have hw0 : IntKind.i64.wrap 0 = 0 := by decide
   rw [e0, List.append_nil, Nat.add_zero]
   refine ⟨v, w, ?_, hown, ⟨rfl, rfl, rfl, Nat.le_refl _, fun _ _ _ => rfl⟩, .inl rfl⟩
   rcases hown.2 with ⟨rfl, rfl⟩ | ⟨g, cap, cur, rfl, hbg, hg, hnc, hcm, hcs, htake⟩
   . simp [Builtin.append_, run_underlying ht, run_underlying htn, sizeOf, typeInfo, hi, asInt, asIntOf, hw0]
   . simp [Builtin.append_, run_underlying ht, run_underlying htn, sizeOf, typeInfo, hi, asInt, asIntOf, hw0, hnc, storeCells]
 . have hns : ¬ (m * i.size = 0) := Nat.mul_ne_zero hm (by omega)
   have grown : ∀ (old : Nat), old < n + m -> ∀ (row : Option Nat),
       (w.drew.alloc (.cells (xs.toArray ++ Builtin.zeroCells z.cells m ++ Builtin.zeroCells z.cells (grownCap w (n + m) old e - (n + m))) e)).ownsRow base e i.size
         (.slice (some ⟨w.heap.size, 0, none⟩) (n + m) (grownCap w (n + m) old e)) (n + m) (xs ++ (Builtin.zeroCells z.cells m).toList) /\
       w.grownBy (w.drew.alloc (.cells (xs.toArray ++ Builtin.zeroCells z.cells m ++ Builtin.zeroCells z.cells (grownCap w (n + m) old e - (n + m))) e)) row := by
     intro old ho row
     have hge := grownCap_ge w (n + m) old e
     have hcm : grownCap w (n + m) old e <= maxLen := grownCap_le_maxLen w (n + m) old e h63
     refine ⟨⟨hlen, .inr ⟨w.heap.size, _, _, rfl, hbase, heap_alloc_new w.drew _, hge, hcm, ?_, ?_⟩⟩, ⟨rfl, rfl, rfl, by simp, fun k hk _ => heap_alloc_old w.drew _ hk⟩⟩
     . simp only [Array.size_append, List.size_toArray, size_zeroCells, hzs, hown.1, <- Nat.add_mul]
       congr 1
       omega
     . simp only [Array.toList_append, List.append_assoc]
       rw [<- List.append_assoc, <- hlen]
       exact List.take_left
   rcases hown.2 with ⟨rfl, rfl⟩ | ⟨g, cap, cur, rfl, hbg, hg, hnc, hcm, hcs, htake⟩
   . have hx : xs = [] := List.eq_nil_of_length_eq_zero (by simpa using hown.1)
     subst hx
     have hp0 : 0 < m := by omega
     have k1 : ¬ (281474976710656 < Builtin.nextslicecap m 0 * i.bytes) := by rw [nextslicecap_zero hp0]; omega
     have k2 : ¬ (9223372036854775807 < (m : Int)) := by omega
     have hr : (Builtin.append_ #[t, tn] ty #[.slice none 0 0, .int .i64 (m : Int)]).run P w = .ok (.slice (some ⟨w.heap.size, 0, none⟩) m (grownCap w m 0 e)) (w.drew.alloc (.cells (Builtin.zeroCells z.cells m ++ Builtin.zeroCells z.cells (grownCap w m 0 e - m)) e)) := by
       simp [Builtin.append_, run_underlying ht, run_underlying htn, sizeOf, typeInfo, zeroValue, hi, hz, asInt, asIntOf, hw, hneg, h48i, hm, hns, k1, k2, Question.forced, run_firstCells_none, newRow, grownCap]
     have hgr := grown 0 (by omega) (Value.ownBlock (.slice none 0 0))
     simp only [Nat.zero_add, List.nil_append, Array.empty_append] at hgr ⊢
     exact ⟨_, _, hr, hgr.1, hgr.2, .inr rfl⟩
   . by_cases hroom : n + m <= cap
     . have hfit : n * i.size + (Builtin.zeroCells z.cells m).toList.length <= cur.size := by rw [hzl, hcs, <- Nat.add_mul]; exact Nat.mul_le_mul_right _ hroom
       have hst := run_storeCells_at P g (n * i.size) e (Builtin.zeroCells z.cells m).toList 0 cur w hg (by simpa using hfit) h1
       simp only [Nat.add_zero] at hst
       have hr : (Builtin.append_ #[t, tn] ty #[.slice (some ⟨g, 0, none⟩) n cap, .int .i64 (m : Int)]).run P w = .ok (.slice (some ⟨g, 0, none⟩) (n + m) cap) (w.setRow g (cur.toList.take (n * i.size) ++ (Builtin.zeroCells z.cells m).toList ++ cur.toList.drop (n * i.size + (Builtin.zeroCells z.cells m).toList.length)).toArray) := by
         simp [Builtin.append_, run_underlying ht, run_underlying htn, sizeOf, typeInfo, zeroValue, hi, hz, asInt, asIntOf, hw, hneg, h48i, hns, hroom, Addr.add_lit, hst]
       refine ⟨_, _, hr, ⟨hlen, .inr ⟨g, cap, _, rfl, hbg, setRow_heap w g cur _ e _ hg, hroom, hcm, ?_, ?_⟩⟩, ⟨rfl, rfl, rfl, by simp, fun k _ hk => setRow_other w g k _ (fun e => hk (by simp [Value.ownBlock, e]))⟩, .inl rfl⟩
       . simp only [List.size_toArray, List.length_append, List.length_take, List.length_drop, Array.length_toList] at hfit ⊢
         omega
       . rw [htake, <- hlen]
         exact List.take_left
     . have holds : ∀ j u, xs[j]? = some u -> w.cell? ((⟨g, 0, none⟩ : Addr).add j) = some u := hown.cells (g := g) rfl
       have hfo := run_firstCells_some (P := P) w.drew i.size n ⟨g, 0, none⟩ n cap xs hown.1 (by simpa using holds)
       have h63' : ¬ (9223372036854775807 < ((n : Int) + (m : Int))) := by omega
       have h48' : ¬ (281474976710656 < Builtin.nextslicecap (n + m) cap * i.bytes) := by have := growslice_fits (need := n + m) (old := cap) (by omega) hbytes; omega
       have hr : (Builtin.append_ #[t, tn] ty #[.slice (some ⟨g, 0, none⟩) n cap, .int .i64 (m : Int)]).run P w = .ok (.slice (some ⟨w.heap.size, 0, none⟩) (n + m) (grownCap w (n + m) cap e))
           (w.drew.alloc (.cells (xs.toArray ++ Builtin.zeroCells z.cells m ++ Builtin.zeroCells z.cells (grownCap w (n + m) cap e - (n + m))) e)) := by
         simp [Builtin.append_, run_underlying ht, run_underlying htn, sizeOf, typeInfo, zeroValue, hi, hz, asInt, asIntOf, hw, hneg, h48i, hns, hroom, h63', h48', Question.forced, hfo, newRow, grownCap]
       have hgr := grown cap (by omega) (Value.ownBlock (.slice (some ⟨g, 0, none⟩) n cap))
       exact ⟨_, _, hr, hgr.1, hgr.2, .inr rfl⟩
theorem foldl_cells : ∀ (l : List Value) (k : Nat) (cs : Array Value), k + l.length <= cs.size -> ((l.zipIdx k).foldl (fun cs (p : Value × Nat) => cs.setIfInBounds (0 + p.2) p.1) cs).toList = cs.toList.take k ++ l ++ cs.toList.drop (k + l.length)
 | [], k, cs, h => by simp
 | v :: r, k, cs, h => by
   simp only [List.length_cons] at h
   rw [List.zipIdx_cons, List.foldl_cons, foldl_cells r (k + 1) _ (by simp; omega)]
   have hlt : k < cs.toList.length := by simp; omega
   simp only [Nat.zero_add, Array.toList_setIfInBounds, List.length_cons]
   rw [List.take_set, List.drop_set, if_pos (by omega), List.take_add_one, List.getElem?_eq_getElem hlt]
   rw [List.set_append_right _ _ (by rw [List.length_take]; exact Nat.min_le_left _ _), show k - (cs.toList.take k).length = 0 by simp only [List.length_take]; omega]
   simp [show k + 1 + r.length = k + (r.length + 1) by omega]
theorem fill_one (sz : Nat) (cs : Array Value) (v : Value) (h1 : v.cells.size = sz) (h2 : cs.size = sz) : Instr.fill (fun k => some (k * sz, sz)) cs [(0, v)] = some v.cells := by
 unfold Instr.fill
 have hc : (decide (v.cells.size ≠ sz) || decide (0 * sz + v.cells.size > cs.size)) = false := by
   rw [Bool.or_eq_false_iff, decide_eq_false_iff_not, decide_eq_false_iff_not]; omega
 unfold Instr.fill
 simp only [hc, Bool.false_eq_true, if_false, qS]
 apply Array.toList_inj.mp
 have := foldl_cells v.cells.toList 0 cs (by rw [Array.length_toList]; omega)
 rw [List.take_zero, List.nil_append, Nat.zero_add, List.drop_eq_nil_of_le (by simp; omega), List.append_nil] at this
 rw [Nat.zero_mul]
 rw [<- Array.foldl_toList, Array.toList_zipIdx]
 exact this
theorem litS_ok {P : Program} {s : St} {t e : TypeId} {len : Nat} {parts : List (Nat × SV)} {cells : List SV} (h : litS P s t len parts = some (cells, e)) {w0 : Base} {w : World} {ν : Nu} {mem : Bool} (hw : WR w0 ν s.own mem w) :
   (∀ p ∈ parts, p.2 ≠ .any) /\ litB P t len (parts.map fun p => (p.1, conc ν p.2)) = some (concB ν cells, e) := by
 unfold litS at h
 unfold litB
 split at h
 . rename_i e' hu
   split at h
   . rename_i i hi
     split at h
     . rename_i z hz
       cases hb : (Nat.beq i.size 1 && Nat.beq parts.length len && Nat.blt 0 len && Nat.ble len (2 ^ 24) && seqB 0 parts && parts.all (fun p => oneS s p.2))
       . rw [hb] at h
         simp only [cond_false] at h
         split at h
         . rename_i us hus
           simp only [qS, qP] at h
           obtain ⟨rfl, rfl⟩ := h
           obtain ⟨cs, rfl, rfl, hl, h0, h24, hcs⟩ := litT_some hus
           obtain ⟨k1, k2, k3⟩ := cellsS_ok hcs hw
           have hul : us.length = i.size := by
             rw [<- hl]
             have hcs : (bif cs.all (oneC s) then some (cs.map svC) else none) = some us := hcs
             cases ho : cs.all (oneC s) <;> rw [ho] at hcs
             . cases hcs
             . simp only [cond_true, qS] at hcs
               rw [<- hcs, List.length_map]
           have hvs : (conc ν (.st cs)).cells.size = i.size := by
             rw [<- Array.length_toList, <- k2, <- hul]; unfold concB; simp
           refine ⟨fun p hp => by rw [List.mem_singleton.mp hp]; exact k1, ?_⟩
           have c1 : (Nat.beq (1 * i.size) 0 || Nat.blt (2 ^ 24) (1 * i.size)) = false := by
             rw [Nat.one_mul]
             cases hq : (Nat.beq i.size 0 || Nat.blt (2 ^ 24) i.size)
             . rfl
             . simp only [Bool.or_eq_true] at hq
               rcases hq with hq | hq
               . have := qB hq; omega
               . have : 2 ^ 24 < i.size := by simpa [Nat.blt_eq] using hq
                 omega
           simp only [hu, hi, hz, c1, cond_false, List.map_cons, List.map_nil]
           rw [fill_one i.size _ (conc ν (.st cs)) hvs (by simp)]
           simp only [qS, qP, and_true]
           exact k2.symm
         . cases h
       . rw [hb] at h
         simp only [cond_true, qS, qP] at h
         have hc := h.1.symm
         simp only [Bool.and_eq_true, List.all_eq_true] at hb
         obtain ⟨⟨⟨⟨⟨b1, b2⟩, b3⟩, b4⟩, b5⟩, b6⟩ := hb
         have b1 := qB b1
         have b2 := qB b2
         have b3 : 0 < len := by simpa [Nat.blt_eq] using b3
         have b4 := Nat.le_of_ble_eq_true b4
         have hone := fun p hp => conc_one hw (b6 p hp)
         refine ⟨fun p hp => (hone p hp).1, ?_⟩
         have c1 : (Nat.beq (len * i.size) 0 || Nat.blt (2 ^ 24) (len * i.size)) = false := by
           rw [b1, Nat.mul_one]
           cases hq : (Nat.beq len 0 || Nat.blt (2 ^ 24) len)
           . rfl
           . simp only [Bool.or_eq_true] at hq
             rcases hq with hq | hq
             . have := qB hq; omega
             . have : 2 ^ 24 < len := by simpa [Nat.blt_eq] using hq
               omega
         simp only [hu, hi, hz, c1, cond_false]
         obtain ⟨r, r1, r2⟩ := fill_seq (parts.map fun p => (p.1, conc ν p.2)) 0 ((Array.range (len * i.size)).map fun k => z.cells[k % z.cells.size]!) (fun p hp => by
           obtain ⟨q, hq, rfl⟩ := List.mem_map.mp hp
           exact (hone q hq).2.1) (by rw [List.map_map, List.length_map]; exact seqB_ok 0 parts b5) (by simp [b1, b2])
         rw [b1] at r1 r2 ⊢
         rw [r1]
         simp only [qS, qP]
         refine ⟨?_, h.2⟩
         rw [r2, hc]
         unfold concB
         rw [List.drop_eq_nil_of_le (by simp [b2])]
         simp
     . cases h
   . cases h
 . cases h
theorem bldOf_ok {E : Env} {t e : TypeId} {zs : List Value} (h : bldOf E t zs = some e) : zs = [.pointer none, .slice none 0 0] /\ t ≠ e := by
 unfold bldOf at h
 split at h
 . rename_i T e' _
   cases hb : (Nat.beq T t && zeroBld zs && !Nat.beq T e')
   . rw [hb] at h; cases h
   . rw [hb] at h
     simp only [cond_true, qS] at h
     simp only [Bool.and_eq_true, Bool.not_eq_true'] at hb
     obtain ⟨⟨b1, b2⟩, b3⟩ := hb
     have b1 := qB b1
     subst h
     refine ⟨?_, fun heq => ?_⟩
     . unfold zeroBld at b2
       split at b2
       . rfl
       . cases b2
     . rw [b1, heq] at b3; simp at b3
 . cases h
theorem op_nx {E : Env} {n : Nat} {o : Oper} {s s' : St} {x : SV} {w0 : Base} {ν : Nu} {a : Act} {w : World} {K : Act -> World -> Prop} {Q : Exit -> Act -> World -> Prop}
   (h : simNX o s = some (x, s')) (hh : Holds' s') (ht : TR n ν s a) (hw : WR w0 ν s.own s.mem w)
   (hK : ∀ v w', s'.tmps = s.tmps -> Is ν x v -> WR w0 ν s'.own s'.mem w' -> K (a.put o.dst v) w') : o.wp E.P a w K Q := by
 unfold simNX at h; cases h
theorem flat_same (zs : List Value) (z : Array Value) (hz : z.toList = zs) (h0 : 0 < z.size) (n : Nat) : (List.range n).flatMap (fun _ => zs) = (madeCells z (n * z.size)).toList := by
 have hzl : zs.length = z.size := by rw [<- hz, Array.length_toList]
 refine List.ext_getElem? fun p => ?_
 have hl := flat_len (f := fun _ => zs) (s := z.size) n (fun j _ => hzl)
 rcases Nat.lt_or_ge p (n * z.size) with hp | hp
 . have hq : p / z.size < n := Nat.div_lt_of_lt_mul (by rw [Nat.mul_comm]; exact hp)
   have hr := Nat.mod_lt p h0
   have hg := flat_get (f := fun _ => zs) (s := z.size) n (fun j _ => hzl) (p / z.size) hq (p % z.size) hr
   have hpe : p / z.size * z.size + p % z.size = p := by rw [Nat.mul_comm]; exact Nat.div_add_mod p z.size
   rw [hpe] at hg
   rw [hg]
   subst hz
   have e1 : (madeCells z (n * z.size)).toList[p]? = some (z[p % z.size]!) := by
     simp [madeCells, hp]
   rw [e1, getElem!_pos z _ hr, Array.getElem?_toList, Array.getElem?_eq_getElem hr]
 . rw [List.getElem?_eq_none (by rw [hl]; exact hp), List.getElem?_eq_none (by rw [Array.length_toList, size_madeCells]; exact hp)]
theorem putL_get : ∀ (vs c : List Value) (o i : Nat), o + vs.length <= c.length -> (putL c o vs)[i]? = if o <= i /\ i < o + vs.length then vs[i - o]? else c[i]?
 | [], c, o, i, _ => by
   show c[i]? = _
   rw [if_neg (by simp only [List.length_nil]; omega)]
 | v :: r, c, o, i, h => by
   simp only [List.length_cons] at h ⊢
   show (putL (c.set o v) (o + 1) r)[i]? = _
   rw [putL_get r (c.set o v) (o + 1) i (by rw [List.length_set]; omega)]
   by_cases h1 : o + 1 <= i /\ i < o + 1 + r.length
   . rw [if_pos h1, if_pos (by omega), show i - o = (i - (o + 1)) + 1 by omega]; rfl
   . rw [if_neg h1, List.getElem?_set]
     by_cases h2 : o = i
     . subst h2
       rw [if_pos rfl, if_pos (by omega), if_pos (by omega), Nat.sub_self]; rfl
     . rw [if_neg h2, if_neg (by omega)]
theorem putL_mem : ∀ (vs c : List Value) (o : Nat), ∀ x ∈ putL c o vs, x ∈ c \/ x ∈ vs
 | [], c, o, x, hx => .inl hx
 | v :: r, c, o, x, hx => by
   rcases putL_mem r (c.set o v) (o + 1) x hx with h | h
   . rcases List.mem_or_eq_of_mem_set h with h | h
     . exact .inl h
     . exact .inr (by rw [h]; exact List.mem_cons_self)
   . exact .inr (List.mem_cons_of_mem _ h)
theorem setE_len {f : Nat -> List Value} {s j o : Nat} {vs : List Value} (n : Nat) (hf : ∀ i, i < n -> (f i).length = s) (hj : j < n) : ∀ i, i < n -> (setE f j (putL (f j) o vs) i).length = s := fun i hi => by
 unfold setE
 cases hb : Nat.beq i j
 . exact hf i hi
 . show (putL (f j) o vs).length = s
   rw [putL_len, hf j hj]
theorem flat_set {f : Nat -> List Value} {s j o n : Nat} {vs cur : List Value} (h0 : 0 < s) (hf : ∀ i, i < n -> (f i).length = s) (hj : j < n) (ho : o + vs.length <= s) (hc : n * s <= cur.length) (ht : cur.take (n * s) = (List.range n).flatMap f) :
   (putL cur (j * s + o) vs).take (n * s) = (List.range n).flatMap (setE f j (putL (f j) o vs)) := by
 have hjs : j * s + s <= n * s := by
   have : (j + 1) * s <= n * s := Nat.mul_le_mul_right _ hj
   rwa [Nat.add_mul, Nat.one_mul] at this
 have hl := flat_len (f := setE f j (putL (f j) o vs)) (s := s) n (setE_len n hf hj)
 refine List.ext_getElem? fun p => ?_
 rcases Nat.lt_or_ge p (n * s) with hp | hp
 . have hq : p / s < n := Nat.div_lt_of_lt_mul (by rw [Nat.mul_comm]; exact hp)
   have hr := Nat.mod_lt p h0
   have hpe : p / s * s + p % s = p := by rw [Nat.mul_comm]; exact Nat.div_add_mod p s
   have hg := flat_get (f := setE f j (putL (f j) o vs)) (s := s) n (setE_len n hf hj) (p / s) hq (p % s) hr
   have hg0 := flat_get (f := f) (s := s) n hf (p / s) hq (p % s) hr
   rw [hpe] at hg hg0
   have hcp : cur[p]? = (f (p / s))[p % s]? := by
     rw [<- hg0, <- ht, List.getElem?_take, if_pos hp]
   rw [hg, List.getElem?_take, if_pos hp, putL_get vs cur _ p (by omega), hcp]
   generalize p / s = q at *
   generalize p % s = r at *
   unfold setE
   cases hb : Nat.beq q j
   . have hne : q ≠ j := fun e => by rw [e] at hb; simp at hb
     have hno : ¬ (j * s + o <= p /\ p < j * s + o + vs.length) := by
       rcases Nat.lt_or_ge q j with h | h
       . have : (q + 1) * s <= j * s := Nat.mul_le_mul_right _ h
         rw [Nat.add_mul, Nat.one_mul] at this
         omega
       . have : (j + 1) * s <= q * s := Nat.mul_le_mul_right _ (by omega)
         rw [Nat.add_mul, Nat.one_mul] at this
         omega
     rw [if_neg hno]; rfl
   . have he := qB hb
     subst he
     show _ = (putL (f q) o vs)[r]?
     rw [putL_get vs (f q) o r (by rw [hf q hj]; exact ho)]
     by_cases h : o <= r /\ r < o + vs.length
     . rw [if_pos (by omega), if_pos h, show p - (q * s + o) = r - o by omega]
     . rw [if_neg (by omega), if_neg h]
 . rw [List.getElem?_eq_none (by rw [List.length_take]; omega), List.getElem?_eq_none (by rw [hl]; exact hp)]
theorem store_elem {P : Program} {t : TypeId} {i : TypeInfo} {B : Nat} {w : World} {e : LE} {u v : Value} {j o : Nat} (h : OwnB B w e u) (hi : P.info? t = some i) (hl : v.cells.toList.length = i.size) (ho : o + i.size <= e.size) (h1 : v.cells.toList.all Value.oneCell' = true) (hj : j < e.n) :
   ∃ g w', placeOf u (j * e.size + o) = .pointer (some ⟨g, j * e.size + o, none⟩) /\ u.ownBlock = some g /\ (storeVar t ⟨g, j * e.size + o, none⟩ v).run P w = .ok () w' /\ OwnB B w' { e with el := setE e.el j (putL (e.el j) o v.cells.toList) } u /\ w.grownBy w' (some g) /\
     ∀ cs ty fz, w.heap[g]? = some (.cells cs ty fz) -> ty = e.elT := by
 obtain ⟨⟨hs, hwf⟩, hlen, hrow⟩ := h
 rcases hrow with ⟨_, hn⟩ | ⟨g, cap, cur, rfl, hb, hg, hnc, hcm, hcs, htake⟩
 . omega
 . have hjs : j * e.size + e.size <= e.n * e.size := by
     have : (j + 1) * e.size <= e.n * e.size := Nat.mul_le_mul_right _ hj
     rwa [Nat.add_mul, Nat.one_mul] at this
   have hcl : e.n * e.size <= cur.toList.length := by rw [Array.length_toList, hcs]; exact Nat.mul_le_mul_right _ hnc
   have hsb : storeB P t cur.toList (j * e.size + o) v = some (putL cur.toList (j * e.size + o) v.cells.toList) := by
     unfold storeB
     rw [hi]
     have hbb : (Nat.beq v.cells.toList.length i.size && Nat.ble (j * e.size + o + i.size) cur.toList.length && v.cells.toList.all Value.oneCell') = true := by
       rw [hl, h1]
       have : Nat.ble (j * e.size + o + i.size) cur.toList.length = true := Nat.ble_eq.mpr (by omega)
       rw [this]; simp
     simp only [hbb, cond_true]
     rw [putQ_eq]
   obtain ⟨w', r1, r2, r3, r4, r5, r6, r7⟩ := run_storeB (e := e.elT) hsb w (by rw [Array.toArray_toList]; exact hg)
   refine ⟨g, w', by simp [placeOf], rfl, r1, ⟨⟨hs, fun q hq => ⟨setE_len e.n (fun i hi => (hwf i hi).1) hj q hq, ?_⟩⟩, ?_, .inr ⟨g, cap, _, rfl, hb, r2, hnc, hcm, ?_, ?_⟩⟩, ⟨r5, r6, r7, by omega, fun k _ hk => r3 k (fun e => hk (by rw [e]))⟩, fun cs ty fz heq => by
     rw [hg] at heq
     simp only [qS, Obj.cells.injEq] at heq
     exact heq.2.1.symm⟩
   . show (setE e.el j (putL (e.el j) o v.cells.toList) q).all Value.oneCell' = true
     unfold setE
     cases hbq : Nat.beq q j
     . exact (hwf q hq).2
     . refine List.all_eq_true.mpr fun x hx => ?_
       rcases putL_mem _ _ _ x hx with h | h
       . exact List.all_eq_true.mp (hwf j hj).2 x h
       . exact List.all_eq_true.mp h1 x h
   . exact flat_len e.n (setE_len e.n (fun i hi => (hwf i hi).1) hj)
   . show (putL cur.toList (j * e.size + o) v.cells.toList).toArray.size = _
     rw [List.size_toArray, putL_len, Array.length_toList, hcs]
   . show (putL cur.toList (j * e.size + o) v.cells.toList).toArray.toList.take (e.n * e.size) = _
     exact flat_set hs (fun i hi => (hwf i hi).1) hj (by rw [hl]; exact ho) hcl htake
theorem op_fx0 {E : Env} {n : Nat} {o : Oper} {s : St} {x : SV} {own : Mem} {q : List (Bool × Bool)} {w0 : Base} {ν : Nu} {a : Act} {w : World} {K : Act -> World -> Prop} {Q : Exit -> Act -> World -> Prop}
   (h : simFX0 E o s = some (x, own, q)) (hq : ∀ p ∈ q, p.1 = p.2) (hg : Good s) (ht : TR n ν s a) (hw : WR w0 ν s.own s.mem w)
   (hK : ∀ ν' v w', Ag s.own ν ν' -> Is ν' x v -> WR w0 ν' own true w' -> K (a.put o.dst v) w') : o.wp E.P a w K Q := by
 unfold simFX0 at h
 unfold Oper.wp
 split at h
 . rename_i t ho
   split at h
   . rename_i i hi
     split at h
     . rename_i z hz
       have hr : (execOp a.eval o).run E.P w = .ok (.value (.pointer (some ⟨w.heap.size, 0, none⟩))) (w.alloc (.cells z.cells t)) := by
         simp only [execOp, ho, Instr.alloc, zeroValue, typeInfo, Sem.run_bind, run_program, Result.andThen_ok, hi, Sem.run_pure, hz, newVar, newRow, run_newObj, World.alloc_eq]
       rw [hr, Oper.upon_value]
       split at h
       . rename_i e hbo
         simp only [qS, qP] at h
         obtain ⟨rfl, rfl, _⟩ := h
         obtain ⟨hz2, hTe⟩ := bldOf_ok hbo
         refine hK (extL ν s.own.b.length w.heap.size) _ (w.alloc (.cells z.cells t)) (extL_old _ _ _ _) (by show _ = _; simp [conc, extL_new]) (hw.growB ⟨[], 0, .bld [] t e ByteArray.empty⟩ _ (fun c hc => by cases hc) ⟨.inl ⟨hw.below.size, .slice none 0 0, ?_, ⟨rfl, .inl ⟨rfl, rfl⟩⟩, by simp [Value.ownBlock]⟩, hTe⟩)
         have e1 : z.cells = #[.pointer none, .slice none 0 0] := by rw [<- Array.toArray_toList (xs := z.cells), hz2]
         rw [e1, heap_alloc_new]
       simp only [qS, qP] at h
       obtain ⟨rfl, rfl, _⟩ := h
       exact hK (extL ν s.own.b.length w.heap.size) _ (w.alloc (.cells z.cells t)) (extL_old _ _ _ _) (by show _ = _; simp [conc, extL_new]) (by have := hw.grow (mkCells z.cells.toList []) t (okV_mkCells _ _); rw [concB_mkCells] at this; exact this)
     . cases h
   . cases h
 . rename_i t x' ho
   split at h
   . rename_i fl str hx hu
     simp only [qS, qP] at h
     obtain ⟨rfl, rfl, _⟩ := h
     have he := eval_v ht hx
     have hr : (execOp a.eval o).run E.P w = .ok (.value (.pointer (some ⟨w.heap.size, 0, none⟩))) (w.alloc (.stringIter str 0)) := by
       simp only [execOp, ho, he, Sem.run_bind, run_range_string w t str hu, Result.andThen_ok, Sem.run_pure]; rfl
     rw [hr, Oper.upon_value]
     exact hK (extL ν s.own.b.length w.heap.size) _ (w.alloc (.stringIter str 0)) (extL_old _ _ _ _) (by show _ = _; simp [conc, extL_new]) (hw.growB ⟨[], 0, .iter fl str 0⟩ _ (fun c hc => by cases hc) (by show (w.alloc _).heap[w.heap.size]? = _; rw [heap_alloc_new]))
   . cases h
 . rename_i t x' ho
   split at h
   . rename_i fl y hx
     simp only [qS, qP] at h
     obtain ⟨rfl, rfl, _⟩ := h
     have he := eval_v ht hx
     have hr : (execOp a.eval o).run E.P w = .ok (.value (.pointer (some ⟨w.heap.size, 0, none⟩))) (w.alloc (.cells y.cells t)) := by
       simp only [execOp, ho, he, Instr.box, Sem.run_bind, Result.andThen_ok, Sem.run_pure, newVar, newRow, run_newObj, World.alloc_eq]
     rw [hr, Oper.upon_value]
     exact hK (extL ν s.own.b.length w.heap.size) _ (w.alloc (.cells y.cells t)) (extL_old _ _ _ _) (by show _ = _; simp [conc, extL_new]) (by have := hw.grow (mkCells y.cells.toList fl) t (okV_mkCells _ _); rw [concB_mkCells] at this; exact this)
   . split at h
     . rename_i cs hcs
       simp only [qS, qP] at h
       obtain ⟨rfl, rfl, _⟩ := h
       obtain ⟨hne, h1, _⟩ := cellsS_ok hcs hw
       have he := eval_ev ht rfl hne
       have hr : (execOp a.eval o).run E.P w = .ok (.value (.pointer (some ⟨w.heap.size, 0, none⟩))) (w.alloc (.cells (conc ν (ev s x')).cells t)) := by
         simp only [execOp, ho, he, Instr.box, Sem.run_bind, Result.andThen_ok, Sem.run_pure, newVar, newRow, run_newObj, World.alloc_eq]
       rw [hr, Oper.upon_value]
       exact hK (extL ν s.own.b.length w.heap.size) _ (w.alloc (.cells (conc ν (ev s x')).cells t)) (extL_old _ _ _ _) (by show _ = _; simp [conc, extL_new]) (by have := hw.grow cs t (cellsS_okV hcs (ev_ok hg x')); rw [h1] at this; exact this)
     . cases h
 . rename_i t x' y' ho
   split at h
   . rename_i i off us hx hy
     cases hlo : Nat.ble s.lo i
     . rw [hlo] at h; cases h
     . rw [hlo] at h
       simp only [cond_true] at h
       split at h
       . rename_i b hb
         cases hfr : bldFree s b.elem
         . rw [hfr] at h; cases h
         . rw [hfr] at h
           simp only [cond_true] at h
           split at h
           . rename_i cs hcs
             simp only [qS, qP] at h
             obtain ⟨rfl, rfl, _⟩ := h
             obtain ⟨hb, hkd⟩ := getB_some hb
             have hex := eval_own ht hx
             obtain ⟨hne, h1, h2⟩ := cellsS_ok hy hw
             have hey := eval_ev ht rfl hne
             obtain ⟨w', r1, r2, r3, r4, r5, r6, r7⟩ := run_storeB (storeS_ok hcs h1 h2) w ((hw.blk i b hb).1.cells hkd)
             have hr : (execOp a.eval o).run E.P w = .ok .skip w' := by
               simp only [execOp, ho, hex, hey, Instr.storeAt, Instr.sureAddr, Sem.run_bind, Sem.run_pure, Result.andThen_ok, r1]
             rw [hr, Oper.upon_skip]
             exact hK ν _ w' (Agree.refl _ _ _) rfl (hw.store hb hkd (storeS_okV hcs (hg.okb i b hb) (cellsS_okV hy (ev_ok hg y'))) (bldFree_ok hfr) r2 r3 r4 r5 r6 r7)
           . cases h
       . cases h
   . rename_i k j p sz hx
     split at h
     . rename_i fl v hy
       split at h
       . rename_i e' q' hsto
         simp only [qS, qP] at h
         obtain ⟨rfl, rfl, rfl⟩ := h
         obtain ⟨e, i, hk, hd, hi, ho1, hlo, rfl, hfr, hl, hos, h1, rfl, rfl⟩ := stoL_some hsto
         have hj : j < e.n := by have := hq (pre (decide (j < e.n)), true) (by simp); simpa [pre] using this
         have hex := eval_lp ht hx
         have hey := eval_v ht hy
         obtain ⟨g, w', e1, e2, e3, e4, e5, e6⟩ := store_elem (P := E.P) (t := t) (v := v) (hw.row hk hd ho1) hi hl hos h1 hj
         have hr : (execOp a.eval o).run E.P w = .ok .skip w' := by
           simp only [execOp, ho, hex, hey, e1, Instr.storeAt, Instr.sureAddr, Sem.run_bind, Sem.run_pure, Result.andThen_ok, e3]
         rw [hr, Oper.upon_skip]
         refine hK ν _ w' (Agree.refl _ _ _) rfl (hw.turnL hk hd ho1 ho1 hd e4 (by rw [e2]; exact e5) (fun j2 c fl2 T e3 acc hj2 hkd g2 cs fz hg2 heq => ?_))
         rw [e2] at hg2
         cases hg2
         exact bldFree_ok hfr j2 c fl2 T e3 acc hj2 hkd (e6 cs e3 fz heq)
       . cases h
     . cases h
   . cases h
 . rename_i t lo co ho
   split at h
   . rename_i f kl n f2 kc m e hln hcn hu
     split at h
     . rename_i i hi
       split at h
       . rename_i z hz
         simp only [cond_eq_ite] at h
         split at h
         . rename_i hb
           simp only [Bool.and_eq_true] at hb
           simp only [qS, qP] at h
           obtain ⟨rfl, rfl, rfl⟩ := h
           have hpre := hq (pre (decide (n = m /\ 0 <= n /\ i.bytes * n.toNat <= 281474976710656 /\ n.toNat <= maxLen)), true) (by simp)
           simp only [pre, decide_eq_true_eq] at hpre
           obtain ⟨rfl, hn0, hby, hmx⟩ := hpre
           have hsz := qB hb.1.1
           have h0 : 0 < i.size := by simpa [Nat.blt_eq] using hb.1.2
           have hel := eval_v ht hln
           have hec := eval_v ht hcn
           obtain ⟨w', hrun, r1, r2⟩ := run_make_full (P := E.P) w w0.heap.size t e i z i.size hu hi hz rfl kl kc n.toNat hby hmx hw.below.size
           rw [Int.toNat_of_nonneg hn0] at hrun
           have hr : (execOp a.eval o).run E.P w = .ok (.value (.slice (some ⟨w.heap.size, 0, none⟩) n.toNat n.toNat)) w' := by
             simp only [execOp, ho, hel, hec, Sem.run_bind, hrun, Result.andThen_ok, Sem.run_pure]
           rw [hr, Oper.upon_value]
           have hzl : z.cells.toList.length = i.size := by rw [Array.length_toList, hsz]
           have hown : OwnB w0.heap.size w' ⟨e, i.size, n.toNat, fun _ => z.cells.toList, true, false, anyF f⟩ (.slice (some ⟨w.heap.size, 0, none⟩) n.toNat n.toNat) := by
             refine ⟨⟨h0, fun j hj => ⟨hzl, hb.2⟩⟩, ?_⟩
             have hfl := flat_same z.cells.toList z.cells rfl (by rw [hsz]; exact h0) n.toNat
             rw [hsz] at hfl
             show w'.ownsRow w0.heap.size e i.size _ n.toNat ((List.range n.toNat).flatMap fun _ => z.cells.toList)
             rw [hfl]; exact r1
           exact hK (extV ν s.own.l.length (.slice (some ⟨w.heap.size, 0, none⟩) n.toNat n.toNat)) _ w' (extV_old _ _ _ _) (by show _ = _; simp [conc, extV_new])
             (hw.append (k? := none) (v := .slice none 0 0) (ne := ⟨e, i.size, n.toNat, fun _ => z.cells.toList, true, false, anyF f⟩) hown rfl (fun g e => by cases e) r2 (.inr rfl) (fun _ _ _ _ _ _ _ _ _ _ _ e => by cases e))
         . cases h
       . cases h
     . cases h
   . cases h
 . rename_i t len parts ho
   cases hb : parts.toList.all (fun p => isV (ev s p.2))
   . rw [hb] at h
     simp only [cond_false] at h
     split at h
     . rename_i cells e hlit
       simp only [qS, qP] at h
       obtain ⟨rfl, rfl, _⟩ := h
       obtain ⟨hne, hl⟩ := litS_ok hlit hw
       have hp : (parts.map fun (i, x) => (i, a.eval x)) = ((parts.toList.map fun p => (p.1, ev s p.2)).map fun p => (p.1, conc ν p.2)).toArray := by
         rw [<- Array.toArray_toList (xs := parts.map _), Array.toList_map, List.map_map]
         congr 1
         refine List.map_congr_left fun p hp => ?_
         show (p.1, a.eval p.2) = (p.1, conc ν (ev s p.2))
         rw [eval_ev ht rfl (hne (p.1, ev s p.2) (List.mem_map.mpr ⟨p, hp, rfl⟩))]
       have hr : (execOp a.eval o).run E.P w = .ok (.value (.slice (some ⟨w.heap.size, 0, none⟩) len len)) (w.alloc (.cells (concB ν cells).toArray e)) := by
         simp only [execOp, ho, hp, Sem.run_bind, run_litB hl w, Result.andThen_ok, Sem.run_pure]
       rw [hr, Oper.upon_value]
       refine hK (extL ν s.own.b.length w.heap.size) _ (w.alloc (.cells (concB ν cells).toArray e)) (extL_old _ _ _ _) (by show _ = _; simp [conc, extL_new]) (hw.grow cells e fun c hc => ?_)
       exact litS_okV hlit (fun p hp => by
         obtain ⟨p, _, rfl⟩ := List.mem_map.mp hp
         exact ev_ok hg p.2) c hc
     . cases h
   . rw [hb] at h
     simp only [cond_true] at h
     split at h
     . rename_i cells e hlit
       simp only [qS, qP] at h
       obtain ⟨rfl, rfl, _⟩ := h
       have hp : (parts.map fun (i, x) => (i, a.eval x)) = (parts.toList.map fun p => (p.1, rho s p.2)).toArray := by
         rw [<- Array.toArray_toList (xs := parts.map _), Array.toList_map]
         congr 1
         refine List.map_congr_left fun p hp => ?_
         rw [List.all_eq_true] at hb
         show (p.1, a.eval p.2) = _
         rw [eval_rho ht (hb p hp)]
       have hr : (execOp a.eval o).run E.P w = .ok (.value (.slice (some ⟨w.heap.size, 0, none⟩) len len)) (w.alloc (.cells cells.toArray e)) := by
         simp only [execOp, ho, hp, Sem.run_bind, run_litB hlit w, Result.andThen_ok, Sem.run_pure]
       rw [hr, Oper.upon_value]
       exact hK (extL ν s.own.b.length w.heap.size) _ (w.alloc (.cells cells.toArray e)) (extL_old _ _ _ _) (by show _ = _; simp [conc, extL_new]) (by have := hw.grow (mkCells cells (bif E.mks then List.replicate cells.length (openS s (parts.toList.map (·.2))) else [])) e (okV_mkCells _ _); rw [concB_mkCells] at this; exact this)
     . cases h
 . rename_i az ats ho
   split at h
   . rename_i x' y' t t' hl1 hl2
     have e1 : az = #[x', y'] := by rw [<- Array.toArray_toList (xs := az), hl1]
     have e2 : ats = #[t, t'] := by rw [<- Array.toArray_toList (xs := ats), hl2]
     cases hb : Nat.beq t t'
     . rw [hb] at h; cases h
     . rw [hb] at h
       have htt := qB hb
       subst htt
       simp only [cond_true] at h
       split at h
       . rename_i e hu
         split at h
         . rename_i i hi
           split at h
           . rename_i z hz
             simp only [cond_eq_ite] at h
             split at h
             . rename_i hcond
               simp only [Bool.and_eq_true] at hcond
               have hzs := qB hcond.1.1
               have hsz : 0 < i.size := by simpa [Nat.blt_eq] using hcond.1.2
               have hfree := bldFree_ok hcond.2
               split at h
               . rename_i n' f o1 k? m g o2 hbase hnews
                 simp only [qS, qP] at h
                 obtain ⟨rfl, rfl, rfl⟩ := h
                 have hpre := hq (pre (decide (n' + m <= maxLen /\ (n' + m) * i.bytes <= 140737488355328 /\ 0 < m)), true) (by simp)
                 simp only [pre, decide_eq_true_eq] at hpre
                 obtain ⟨h63, hby, hm⟩ := hpre
                 obtain ⟨hown, hwf1, hne1, hk1, hv1⟩ := baseOf_ok hbase hw
                 obtain ⟨⟨ad, c, hy, hcell⟩, hwf2, hne2⟩ := newsOf_ok hnews hsz hm hw
                 have hex := eval_ev ht rfl hne1
                 have hey := (eval_ev ht rfl hne2).trans hy
                 have hl : ((List.range m).flatMap g).length = m * i.size := flat_len m (fun j hj => (hwf2 j hj).1)
                 have hone : ∀ u ∈ (List.range m).flatMap g, u.oneCell' = true := fun u hu => by
                   obtain ⟨j, hj, hju⟩ := List.mem_flatMap.mp hu
                   exact List.all_eq_true.mp (hwf2 j (List.mem_range.mp hj)).2 u hju
                 obtain ⟨v', w', hr, h2, h3, h4⟩ := run_append_own (P := E.P) w w0.heap.size t o.type e i z i.size i.bytes hu hi hz rfl rfl hzs hsz _ n' _ hown ad m c _ hl hcell hone h63 hby hw.below.size
                 have hwh := append_where hr hu hi hz hown hm hl hcell hone h63 hby
                 have hr' : (execOp a.eval o).run E.P w = .ok (.value v') w' := by
                   subst e1 e2
                   unfold execOp
                   simp only [ho, resolve, invoke, builtin, Sem.run_bind, Sem.run_pure, Result.andThen_ok, List.map_toArray, List.map_cons, List.map_nil, hex, hey, hr]
                 rw [hr', Oper.upon_value]
                 have hlen := killL_len s.own.l k?
                 refine hK (extV ν s.own.l.length v') v' w' (extV_old _ _ _ _) (by show _ = _; simp [conc, extV_new]) (hw.append (ne := ⟨e, i.size, n' + m, joinE n' f g, true, false, o1 || o2⟩) ⟨⟨hsz, fun j hj => ?_⟩, ?_⟩ rfl hv1 h3 hwh (fun j c fl T e2 acc hj hkd g cs fz hg2 heq => by
                   rcases hown.2 with ⟨hv0, _⟩ | ⟨g', cap', cur', hv0, _, hgg, _⟩
                   . rw [hv0] at hg2; cases hg2
                   . rw [hv0] at hg2
                     simp only [Value.ownBlock, qS] at hg2
                     subst hg2
                     rw [hgg] at heq
                     simp only [qS, Obj.cells.injEq] at heq
                     exact hfree j c fl T e2 acc hj hkd heq.2.1.symm))
                 . show (joinE n' f g j).length = i.size /\ (joinE n' f g j).all Value.oneCell' = true
                   unfold joinE
                   cases hjb : Nat.blt j n'
                   . have : ¬ j < n' := by intro hc; rw [<- Nat.blt_eq, hjb] at hc; cases hc
                     have hj' : j < n' + m := hj
                     exact hwf2 (j - n') (by omega)
                   . exact hwf1 j (by simpa [Nat.blt_eq] using hjb)
                 . unfold LE.flat
                   show w'.ownsRow w0.heap.size e i.size v' (n' + m) ((List.range (n' + m)).flatMap (joinE n' f g))
                   rw [flat_join]; exact h2
               . split at h
                 . rename_i n' f m g o2 hbase hnews
                   simp only [qS, qP] at h
                   obtain ⟨rfl, rfl, rfl⟩ := h
                   have hpre := hq (pre (decide (n' + m <= maxLen /\ (n' + m) * i.bytes <= 140737488355328 /\ 0 < m)), true) (by simp)
                   simp only [pre, decide_eq_true_eq] at hpre
                   obtain ⟨h63, hby, hm⟩ := hpre
                   obtain ⟨gb, hcv, hne1, hown, hwf1⟩ := baseB_ok hbase hsz hw
                   obtain ⟨⟨ad, c, hy, hcell⟩, hwf2, hne2⟩ := newsOf_ok hnews hsz hm hw
                   have hex := (eval_ev ht rfl hne1).trans hcv
                   have hey := (eval_ev ht rfl hne2).trans hy
                   have hl : ((List.range m).flatMap g).length = m * i.size := flat_len m (fun j hj => (hwf2 j hj).1)
                   have hone : ∀ u ∈ (List.range m).flatMap g, u.oneCell' = true := fun u hu => by
                     obtain ⟨j, hj, hju⟩ := List.mem_flatMap.mp hu
                     exact List.all_eq_true.mp (hwf2 j (List.mem_range.mp hj)).2 u hju
                   obtain ⟨v', w', hr, h2, h3, h4⟩ := run_append_own (P := E.P) w w0.heap.size t o.type e i z i.size i.bytes hu hi hz rfl rfl hzs hsz _ n' _ hown ad m c _ hl hcell hone h63 hby hw.below.size
                   have h63' : n' + m <= 9223372036854775807 := by simp only [maxLen] at h63; omega
                   have hgr := run_append_grow (P := E.P) w t o.type e i z hu hi hz ⟨gb, 0, none⟩ n' n' _ hown.1 (World.ownsRow.cells hown (g := gb) rfl) ad m c _ hl hcell (by omega) (by omega) (growslice_fits (by omega) hby)
                   rw [hr] at hgr
                   simp only [Result.ok.injEq] at hgr
                   have hga := World.grownBy_alloc w.drew (.cells (((List.range n').flatMap f).toArray ++ ((List.range m).flatMap g).toArray ++ Builtin.zeroCells z.cells (grownCap w (n' + m) n' e - (n' + m))) e) none
                   have hgn : w.grownBy w' none := by rw [hgr.2]; exact ⟨hga.os, hga.tape, hga.output, hga.size, hga.block⟩
                   have hr' : (execOp a.eval o).run E.P w = .ok (.value v') w' := by
                     subst e1 e2
                     unfold execOp
                     simp only [ho, resolve, invoke, builtin, Sem.run_bind, Sem.run_pure, Result.andThen_ok, List.map_toArray, List.map_cons, List.map_nil, hex, hey, hr]
                   rw [hr', Oper.upon_value]
                   refine hK (extV ν s.own.l.length v') v' w' (extV_old _ _ _ _) (by show _ = _; simp [conc, extV_new]) (hw.append (k? := none) (v := .slice none 0 0) (ne := ⟨e, i.size, n' + m, joinE n' f g, true, false, o2⟩) ⟨⟨hsz, fun j hj => ?_⟩, ?_⟩ rfl (fun g e => by cases e) hgn (.inr (by rw [hgr.1]; rfl)) (fun _ _ _ _ _ _ _ _ _ _ _ e => by cases e))
                   . show (joinE n' f g j).length = i.size /\ (joinE n' f g j).all Value.oneCell' = true
                     unfold joinE
                     cases hjb : Nat.blt j n'
                     . have : ¬ j < n' := by intro hc; rw [<- Nat.blt_eq, hjb] at hc; cases hc
                       have hj' : j < n' + m := hj
                       exact hwf2 (j - n') (by omega)
                     . exact hwf1 j (by simpa [Nat.blt_eq] using hjb)
                   . unfold LE.flat
                     show w'.ownsRow w0.heap.size e i.size v' (n' + m) ((List.range (n' + m)).flatMap (joinE n' f g))
                     rw [flat_join]; exact h2
                 . cases h
             . cases h
           . cases h
         . cases h
       . cases h
   . cases h
 . cases h
def ClSt (cl : Callee) : Prop := ∀ f args s x s', s.lo <= s.own.b.length -> s.llo <= s.own.l.length -> OkB s.own.b.length s.own.l.length s.own.b -> (∀ y ∈ args, okV s.own.b.length s.own.l.length y) -> cl f args s = some (x, s') -> Le s s' /\ okV s'.own.b.length s'.own.l.length x /\ OkB s'.own.b.length s'.own.l.length s'.own.b
def ClOk (E : Env) (w0 : Base) (cl : Callee) : Prop := ∀ f args s x s', s.lo <= s.own.b.length -> s.llo <= s.own.l.length -> (∀ y ∈ args, okV s.own.b.length s.own.l.length y) -> cl f args s = some (x, s') -> Holds' s' -> ∀ ν w vs, IsL ν args vs -> WR w0 ν s.own s.mem w ->
 (∃ fn, E.P.funcs[f]? = some fn ∧ (fn.name == "runtime.NumGoroutine") = false ∧ fn.body.isNone = false) ∧
   Calls E.P f vs.toArray w fun e w' => ∃ ν' v, Ag s.own ν ν' /\ e = .returned v /\ Is ν' x v /\ WR w0 ν' s'.own s'.mem w'
theorem run_convert_mark {P : Program} (w : World) (t e ty : TypeId) (C : Array Value) (g n c : Nat) (ht : P.underlying t = some (.slice e)) (he : P.underlying e = some (.int .u8)) (hg : w.heap[g]? = some (.cells C ty (0, 0))) :
   (convert t t (.slice (some ⟨g, 0, none⟩) n c)).run P w = .ok (.slice (some ⟨g, 0, none⟩) n c) (w.freeze ⟨g, C.size, none⟩ 1) := by
 have hsh : w.shape? g = some (ty, C.size) := by unfold World.shape?; rw [hg]
 simp [convert, run_underlying ht, run_underlying he, markStringish, hsh]
theorem freeze_at (w : World) (g k : Nat) (C : Array Value) (ty : TypeId) (hg : w.heap[g]? = some (.cells C ty (0, 0))) : (w.freeze ⟨g, k, none⟩ 1).heap[g]? = some (.cells C ty (k, k + 1)) := by
 unfold World.freeze
 rw [if_neg (by decide)]
 show (w.heap.modify g _)[g]? = _
 rw [Array.getElem?_modify, if_pos rfl, hg]
 rfl
theorem freeze_other (w : World) (g k j : Nat) (hj : j ≠ g) : (w.freeze ⟨g, k, none⟩ 1).heap[j]? = w.heap[j]? := by
 unfold World.freeze
 rw [if_neg (by decide)]
 show (w.heap.modify g _)[j]? = _
 rw [Array.getElem?_modify, if_neg (fun e => hj e.symm)]
theorem freeze_rest (w : World) (g k : Nat) : (w.freeze ⟨g, k, none⟩ 1).heap.size = w.heap.size /\ (w.freeze ⟨g, k, none⟩ 1).os = w.os /\ (w.freeze ⟨g, k, none⟩ 1).tape = w.tape /\ (w.freeze ⟨g, k, none⟩ 1).output = w.output := by
 unfold World.freeze
 rw [if_neg (by decide)]
 exact ⟨Array.size_modify, rfl, rfl, rfl⟩
theorem op_gx {E : Env} {n : Nat} {o : Oper} {s : St} {x : SV} {own : Mem} {q : List (Bool × Bool)} {w0 : Base} {ν : Nu} {a : Act} {w : World} {K : Act -> World -> Prop} {Q : Exit -> Act -> World -> Prop}
   (h : simGX E o s = some (x, own, q)) (hq : ∀ p ∈ q, p.1 = p.2) (hg : Good s) (ht : TR n ν s a) (hw : WR w0 ν s.own s.mem w)
   (hK : ∀ ν' v w', Ag s.own ν ν' -> Is ν' x v -> WR w0 ν' own true w' -> K (a.put o.dst v) w') : o.wp E.P a w K Q := by
 unfold Oper.wp
 cases simGX_some h with
 | cut t y lo hi k e i l hh ho hx hk hu hi' hl hhh hsz hown =>
   obtain ⟨hkl, hd⟩ := getL_some hk
   have hr : 0 <= l /\ l <= hh /\ hh <= (e.n : Int) := by have := hq (pre (decide (0 <= l /\ l <= hh /\ hh <= (e.n : Int))), true) (by simp); simpa [pre] using this
   have hev := eval_c ht hx
   have hLk := hw.lst k e hkl hd
   unfold LOk at hLk
   rw [hown] at hLk
   have hin : InB w0.heap.size w e (ν.v k) := hLk
   have hin2 := hin
   obtain ⟨_, aa, cap, hv0, hcap, _⟩ := hin2
   have hbl : (lo.map a.eval = none /\ l = 0) \/ ∃ k, lo.map a.eval = some (.int k l) := by
     rcases boundS_ok ht hl with ⟨rfl, rfl⟩ | h'
     . exact .inl ⟨rfl, rfl⟩
     . exact .inr h'
   have hbh : (hi.map a.eval = none /\ hh = e.n) \/ ∃ k, hi.map a.eval = some (.int k hh) := by
     rcases boundS_ok ht hhh with ⟨rfl, rfl⟩ | h'
     . exact .inl ⟨rfl, rfl⟩
     . exact .inr h'
   have hrun := run_sliceE hu hi' (a := aa) (cap := cap) hbl hbh hr.1 hr.2.1 hr.2.2 hcap w
   rw [hsz, <- hv0] at hrun
   have hr' : (execOp a.eval o).run E.P w = .ok (.value (subOf (ν.v k) l.toNat (hh.toNat - l.toNat) e.size)) w := by
     simp only [execOp, ho, hev, Sem.run_bind, hrun, Result.andThen_ok, Sem.run_pure, Option.map_none]
   rw [hr', Oper.upon_value]
   refine hK (extV ν s.own.l.length (subOf (ν.v k) l.toNat (hh.toNat - l.toNat) e.size)) _ w (extV_old _ _ _ _) (by show _ = _; simp [conc, extV_new]) (hw.addIn rfl ?_)
   exact InB.sub hin l.toNat (hh.toNat - l.toNat) (by omega) true
 | mark t y i len cap b et ho hx hlo hb hu he hfr =>
   obtain ⟨hbb, hkd⟩ := getB_some hb
   have hc := (hw.blk i b hbb).1.cells hkd
   have hev := eval_sl ht hx
   have hrun := run_convert_mark (P := E.P) w t et b.elem _ (ν.l i) len cap hu he hc
   have hr' : (execOp a.eval o).run E.P w = .ok (.value (.slice (some ⟨ν.l i, 0, none⟩) len cap)) (w.freeze ⟨ν.l i, (concB ν b.cells).toArray.size, none⟩ 1) := by
     simp only [execOp, ho, hev, Sem.run_bind, hrun, Result.andThen_ok, Sem.run_pure]
   rw [hr', Oper.upon_value]
   obtain ⟨r1, r2, r3, r4⟩ := freeze_rest w (ν.l i) (concB ν b.cells).toArray.size
   have hsz : (concB ν b.cells).toArray.size = b.cells.length := by simp [concB]
   refine hK ν _ _ (.refl _ _ _) rfl (hw.turnB hbb (nb := ⟨b.cells, b.elem, .shut⟩) (hg.okb i b hbb) ?_ (fun j c fl T e acc cs fz hj hk2 heq => ?_) (fun k hk => freeze_other w _ _ k hk) r1 r2 r3 r4)
   . show (w.freeze _ 1).heap[ν.l i]? = some (.cells (concB ν b.cells).toArray b.elem (b.cells.length, b.cells.length + 1))
     rw [freeze_at w _ _ _ _ hc, hsz]
   . rw [hc] at heq
     simp only [qS, Obj.cells.injEq] at heq
     exact bldFree_ok hfr j c fl T e acc hj hk2 heq.2.1.symm
 | app x' y' t e i z n' f m g o2 ho hu hi hz hzs hsz hbase hnews =>
   have hpre := hq (pre (decide (n' + m <= maxLen /\ (n' + m) * i.bytes <= 140737488355328 /\ 0 < m)), true) (by simp)
   simp only [pre, decide_eq_true_eq] at hpre
   obtain ⟨h63, hby, hm⟩ := hpre
   obtain ⟨gb, hcv, hne1, hlx, hcx, hwf1⟩ := baseF_ok hbase hsz hw
   obtain ⟨⟨ad, c, hy, hcell⟩, hwf2, hne2⟩ := newsOf_ok hnews hsz hm hw
   have hex := (eval_ev ht rfl hne1).trans hcv
   have hey := (eval_ev ht rfl hne2).trans hy
   have hl : ((List.range m).flatMap g).length = m * i.size := flat_len m (fun j hj => (hwf2 j hj).1)
   have h63' : n' + m <= 9223372036854775807 := by simp only [maxLen] at h63; omega
   have hr := run_append_grow (P := E.P) w t o.type e i z hu hi hz ⟨gb, 0, none⟩ n' n' _ hlx hcx ad m c _ hl hcell (by omega) (by omega) (growslice_fits (by omega) hby)
   have hr' : (execOp a.eval o).run E.P w = .ok (.value (.slice (some ⟨w.heap.size, 0, none⟩) (n' + m) (grownCap w (n' + m) n' e))) (w.drew.alloc (.cells (((List.range n').flatMap f).toArray ++ ((List.range m).flatMap g).toArray ++ Builtin.zeroCells z.cells (grownCap w (n' + m) n' e - (n' + m))) e)) := by
     unfold execOp
     simp only [ho, resolve, invoke, builtin, Sem.run_bind, Sem.run_pure, Result.andThen_ok, List.map_toArray, List.map_cons, List.map_nil, hex, hey, hr]
   rw [hr', Oper.upon_value]
   have hga := World.grownBy_alloc w.drew (.cells (((List.range n').flatMap f).toArray ++ ((List.range m).flatMap g).toArray ++ Builtin.zeroCells z.cells (grownCap w (n' + m) n' e - (n' + m))) e) none
   have hge := grownCap_ge w (n' + m) n' e
   have hcm : grownCap w (n' + m) n' e <= maxLen := grownCap_le_maxLen w (n' + m) n' e h63
   refine hK (extV ν s.own.l.length _) _ _ (extV_old _ _ _ _) (by show _ = _; simp [conc, extV_new]) (hw.append (k? := none) (v := .slice none 0 0) (v' := .slice (some ⟨w.heap.size, 0, none⟩) (n' + m) (grownCap w (n' + m) n' e)) (ne := ⟨e, i.size, n' + m, joinE n' f g, true, false, o2⟩) ⟨⟨hsz, fun j hj => ?_⟩, ?_⟩ rfl (fun g e => by cases e) ⟨hga.os, hga.tape, hga.output, hga.size, hga.block⟩ (.inr rfl) (fun _ _ _ _ _ _ _ _ _ _ _ e => by cases e))
   . show (joinE n' f g j).length = i.size /\ (joinE n' f g j).all Value.oneCell' = true
     unfold joinE
     cases hjb : Nat.blt j n'
     . have : ¬ j < n' := by intro hc; rw [<- Nat.blt_eq, hjb] at hc; cases hc
       have hj' : j < n' + m := hj
       exact hwf2 (j - n') (by omega)
     . exact hwf1 j (by simpa [Nat.blt_eq] using hjb)
   . unfold LE.flat
     show (World.alloc w.drew _).ownsRow w0.heap.size e i.size _ (n' + m) ((List.range (n' + m)).flatMap (joinE n' f g))
     rw [flat_join]
     have hlen : ((List.range n').flatMap f ++ (List.range m).flatMap g).length = (n' + m) * i.size := by rw [List.length_append, hlx, hl, Nat.add_mul]
     refine ⟨hlen, .inr ⟨w.heap.size, _, _, rfl, hw.below.size, heap_alloc_new w.drew _, hge, hcm, ?_, ?_⟩⟩
     . simp only [Array.size_append, List.size_toArray, size_zeroCells, hzs, hlx, hl, <- Nat.add_mul]
       congr 1
       omega
     . simp only [Array.toList_append, List.append_assoc]
       rw [<- List.append_assoc, <- hlen]
       exact List.take_left
theorem op_fx1 {E : Env} {n : Nat} {o : Oper} {s : St} {x : SV} {own : Mem} {q : List (Bool × Bool)} {w0 : Base} {ν : Nu} {a : Act} {w : World} {K : Act -> World -> Prop} {Q : Exit -> Act -> World -> Prop}
   (h : simFX1 E o s = some (x, own, q)) (hq : ∀ p ∈ q, p.1 = p.2) (hg : Good s) (ht : TR n ν s a) (hw : WR w0 ν s.own s.mem w)
   (hK : ∀ ν' v w', Ag s.own ν ν' -> Is ν' x v -> WR w0 ν' own true w' -> K (a.put o.dst v) w') : o.wp E.P a w K Q := by
 unfold simFX1 at h
 split at h
 . rename_i r hr
   obtain ⟨t, len, parts, cells, e, i, ho, hb, hlit, hi, hsz, hlen, hone, hle, rfl, rfl, rfl⟩ := simLX_some (hr.trans h)
   unfold Oper.wp
   have hp : (parts.map fun (i, x) => (i, a.eval x)) = (parts.toList.map fun p => (p.1, rho s p.2)).toArray := by
     rw [<- Array.toArray_toList (xs := parts.map _), Array.toList_map]
     congr 1
     refine List.map_congr_left fun p hp => ?_
     rw [List.all_eq_true] at hb
     show (p.1, a.eval p.2) = _
     rw [eval_rho ht (hb p hp)]
   have hr' : (execOp a.eval o).run E.P w = .ok (.value (.slice (some ⟨w.heap.size, 0, none⟩) len len)) (w.alloc (.cells cells.toArray e)) := by
     simp only [execOp, ho, hp, Sem.run_bind, run_litB hlit w, Result.andThen_ok, Sem.run_pure]
   rw [hr', Oper.upon_value]
   have hga := World.grownBy_alloc w (.cells cells.toArray e) none
   have hfl := chunks_flat hsz hlen
   refine hK (extV ν s.own.l.length (.slice (some ⟨w.heap.size, 0, none⟩) len len)) _ _ (extV_old _ _ _ _) (by show _ = _; simp [conc, extV_new]) (hw.append (k? := none) (v := .slice none 0 0) (v' := .slice (some ⟨w.heap.size, 0, none⟩) len len) (ne := ⟨e, i.size, len, tabE (chunks i.size len cells), true, false, true⟩) ⟨⟨hsz, fun j hj => ?_⟩, ?_⟩ rfl (fun g e => by cases e) hga (.inr rfl) (fun _ _ _ _ _ _ _ _ _ _ _ e => by cases e))
   . have hj : j < len := hj
     have hm : j * i.size + i.size <= len * i.size := by
       have := Nat.mul_le_mul_right i.size (show j + 1 <= len from hj)
       rwa [Nat.add_mul, Nat.one_mul] at this
     show (tabE (chunks i.size len cells) j).length = i.size /\ (tabE (chunks i.size len cells) j).all Value.oneCell' = true
     rw [tabE_chunks i.size len cells j hj]
     exact ⟨by rw [List.length_take, List.length_drop]; omega, List.all_eq_true.mpr fun x hx => List.all_eq_true.mp hone x (List.mem_of_mem_drop (List.mem_of_mem_take hx))⟩
   . show (World.alloc w _).ownsRow w0.heap.size e i.size _ len ((List.range len).flatMap (tabE (chunks i.size len cells)))
     rw [hfl]
     exact ⟨hlen, .inr ⟨w.heap.size, len, cells.toArray, rfl, hw.below.size, heap_alloc_new w _, Nat.le_refl _, by unfold maxLen; omega, by rw [List.size_toArray]; exact hlen, List.take_of_length_le (by show cells.length <= _; omega)⟩⟩
 . split at h
   . rename_i r hr
     rcases simMX_some (hr.trans h) with ⟨t, ho, rfl, rfl, rfl⟩ | ⟨t, m, ix, y, i, f, k, g, v, b, kt, et, T, l, ho, hm, hix, hy, hlo, hb, hu, hkd, hk, rfl, rfl, rfl⟩
     . unfold Oper.wp
       have hrun : (execOp a.eval o).run E.P w = .ok (.value (.map (some w.heap.size))) (w.alloc (.map #[] 0)) := by
         simp only [execOp, ho, Option.map_none, Sem.run_bind, run_makeMap, Result.andThen_ok, Sem.run_pure]
       rw [hrun, Oper.upon_value]
       exact hK (extL ν s.own.b.length w.heap.size) _ _ (extL_old _ _ _ _) (by show _ = _; simp [conc, extL_new]) (hw.growB ⟨[], 0, .map t []⟩ _ (fun c hc => by cases hc) (MapL_made w))
     . have hc := hq (pre (decide (inI k = true /\ l.length < maxLen)), true) (by simp)
       have hc : inI k = true /\ l.length < maxLen := by simpa [pre] using hc
       have hml : MapL w (ν.l i) l := by
         have := (hw.blk i b hb).1
         unfold BOk at this
         rw [hkd] at this; exact this
       obtain ⟨ob, hrun0, hnew⟩ := hml.store hu hk hc.2 (wf_inI hc.1) v
       unfold Oper.wp
       have hrun : (execOp a.eval o).run E.P w = .ok .skip (Go.ChangeMaps.setBlock w (ν.l i) ob) := by
         simp only [execOp, ho, eval_mp ht hm, eval_v ht hix, eval_v ht hy, Sem.run_bind, hrun0, Result.andThen_ok, Sem.run_pure]
       rw [hrun, Oper.upon_skip]
       exact hK ν _ _ (.refl _ _ _) rfl (hw.turnB hb (nb := ⟨[], 0, .map T ((k, v) :: l)⟩) (fun c hc => by cases hc) hnew (fun j c fl T e acc cs fz _ _ heq => hml.not_cells cs e fz heq) (fun k hne => setBlock_other hml ob k hne) (setBlock_size w _ ob) rfl rfl rfl)
   . split at h
     . rename_i r hr
       obtain ⟨t, y, z, i, off, len, m, f, k, v, b, ti, xs, ho, hy, hz, hlo, hb, hi, hfr, hs, hxs, hl, rfl, rfl, rfl⟩ := simIX_some (hr.trans h)
       have hin := idx_of (hq _ List.mem_cons_self)
       obtain ⟨hb, hkd⟩ := getB_some hb
       obtain ⟨w', r1, r2, r3, r4, r5, r6, r7⟩ := run_storeB (store_ia (ν := ν) (v := v) hi hs hxs hl hin) w ((hw.blk i b hb).1.cells hkd)
       unfold Oper.wp
       have hr : (execOp a.eval o).run E.P w = .ok .skip w' := by
         simp only [execOp, ho, eval_ia ht hy, eval_v ht hz, Instr.storeAt, Instr.sureAddr, Sem.run_bind, Sem.run_pure, Result.andThen_ok, r1]
       rw [hr, Oper.upon_skip]
       exact hK ν _ w' (Agree.refl _ _ _) rfl (hw.store hb hkd (ia_okV (hg.okb i b hb)) (bldFree_ok hfr) r2 r3 r4 r5 r6 r7)
     . split at h
       . rename_i r hr
         exact op_fx0 (hr.trans h) hq hg ht hw hK
       . exact op_gx h hq hg ht hw hK
theorem run_append_non {P : Program} (w : World) (t ty e : TypeId) (i : TypeInfo) (ht : P.underlying t = some (.slice e)) (hi : P.info? e = some i) (a : Option Addr) (n cap : Nat) (hle : n <= cap) (a2 : Option Addr) (c2 : Nat) :
   (Builtin.append_ #[t, t] ty #[.slice a n cap, .slice a2 0 c2]).run P w = .ok (.slice a n cap) w := by
 cases a <;> cases a2 <;> simp [Builtin.append_, run_underlying ht, sizeOf, typeInfo, hi, hle, storeCells, Builtin.lenOf, Builtin.firstCells, loadCells, loadCellsFrom]
theorem op_fx3 {E : Env} {n : Nat} {o : Oper} {s : St} {x : SV} {own : Mem} {q : List (Bool × Bool)} {w0 : Base} {ν : Nu} {a : Act} {w : World} {K : Act -> World -> Prop} {Q : Exit -> Act -> World -> Prop}
   (h : simFX3 E o s = some (x, own, q)) (hq : ∀ p ∈ q, p.1 = p.2) (hg : Good s) (ht : TR n ν s a) (hw : WR w0 ν s.own s.mem w)
   (hK : ∀ ν' v w', Ag s.own ν ν' -> Is ν' x v -> WR w0 ν' own true w' -> K (a.put o.dst v) w') : o.wp E.P a w K Q := by
 unfold simFX3 at h
 split at h
 . rename_i r hr
   obtain ⟨y, z, t, e, i, k, k2, e1, e2, ho, hu, hi, hy, hz, hk, hk2, rfl, rfl, rfl⟩ := simNA_some (hr.trans h)
   have h0 : e2.n = 0 := by have := hq (pre (decide (e2.n = 0)), true) (by simp); simpa [pre] using this
   obtain ⟨hkl, hkd⟩ := getL_some hk
   obtain ⟨hkl2, hkd2⟩ := getL_some hk2
   obtain ⟨_, a1, c1, hv1, hc1, _⟩ := hw.inB hkl hkd
   obtain ⟨_, a2, c2, hv2, hc2, _⟩ := hw.inB hkl2 hkd2
   rw [h0] at hv2
   have hex := (eval_c ht hy).trans hv1
   have hey := (eval_c ht hz).trans hv2
   unfold Oper.wp
   have hr' : (execOp a.eval o).run E.P w = .ok (.value (.slice a1 e1.n c1)) w := by
     unfold execOp
     simp only [ho, resolve, invoke, builtin, Sem.run_bind, Sem.run_pure, Result.andThen_ok, List.map_toArray, List.map_cons, List.map_nil, hex, hey, run_append_non w t o.type e i hu hi a1 e1.n c1 hc1 a2 c2]
   rw [hr', Oper.upon_value]
   exact hK ν _ w (.refl _ _ _) (by show _ = _; rw [<- hv1]; rfl) hw.mem
 . exact op_fx1 h hq hg ht hw hK
theorem op_fx6 {E : Env} {n : Nat} {o : Oper} {s : St} {x : SV} {own : Mem} {q : List (Bool × Bool)} {w0 : Base} {ν : Nu} {a : Act} {w : World} {K : Act -> World -> Prop} {Q : Exit -> Act -> World -> Prop}
   (h : simFX6 E o s = some (x, own, q)) (hq : ∀ p ∈ q, p.1 = p.2) (hg : Good s) (ht : TR n ν s a) (hw : WR w0 ν s.own s.mem w)
   (hK : ∀ ν' v w', Ag s.own ν ν' -> Is ν' x v -> WR w0 ν' own true w' -> K (a.put o.dst v) w') : o.wp E.P a w K Q := by
 unfold simFX6 at h
 split at h
 . rename_i r hr
   obtain ⟨y, z, t, t', e, i, zv, fl, m, n', f, o1, k?, ho, hu, hu', hi, hzv, hzs, hsz, hfr, h1, hz, hbase, rfl, rfl, rfl⟩ := simAG_some (hr.trans h)
   have hpre := hq (pre (decide (0 <= m /\ n' + m.toNat <= maxLen /\ (n' + m.toNat) * i.bytes <= 140737488355328)), true) (by simp)
   simp only [pre, decide_eq_true_eq] at hpre
   obtain ⟨hm0, h63, hby⟩ := hpre
   obtain ⟨m, rfl⟩ := Int.eq_ofNat_of_zero_le hm0
   simp only [qN] at h63 hby ⊢
   obtain ⟨hown, hwf1, hne1, hk1, hv1⟩ := baseOf_ok hbase hw
   have hfree := bldFree_ok hfr
   have hex := eval_ev ht rfl hne1
   have hey := eval_v ht hz
   have hfl := flat_same zv.cells.toList zv.cells rfl (by rw [hzs]; exact hsz) m
   rw [<- zero_made] at hfl
   have hone : ∀ u ∈ (Builtin.zeroCells zv.cells m).toList, u.oneCell' = true := fun u hu => by
     rw [<- hfl] at hu
     obtain ⟨j, _, hju⟩ := List.mem_flatMap.mp hu
     exact List.all_eq_true.mp h1 u hju
   obtain ⟨v', w', hr, h2, h3, hwh⟩ := run_append_zeros (P := E.P) w w0.heap.size t t' o.type e i zv hu hu' hi hzv hzs hsz m hone _ n' _ hown h63 hby hw.below.size
   have hr' : (execOp a.eval o).run E.P w = .ok (.value v') w' := by
     unfold execOp
     simp only [ho, resolve, invoke, builtin, Sem.run_bind, Sem.run_pure, Result.andThen_ok, List.map_toArray, List.map_cons, List.map_nil, hex, hey, hr]
   unfold Oper.wp
   rw [hr', Oper.upon_value]
   refine hK (extV ν s.own.l.length v') v' w' (extV_old _ _ _ _) (by show _ = _; simp [conc, extV_new]) (hw.append (ne := ⟨e, i.size, n' + m, joinE n' f (fun _ => zv.cells.toList), true, false, o1 || anyF fl⟩) ⟨⟨hsz, fun j hj => ?_⟩, ?_⟩ rfl hv1 h3 hwh (fun j c fl T e2 acc hj hkd g cs fz hg2 heq => by
     rcases hown.2 with ⟨hv0, _⟩ | ⟨g', cap', cur', hv0, _, hgg, _⟩
     . rw [hv0] at hg2; cases hg2
     . rw [hv0] at hg2
       simp only [Value.ownBlock, qS] at hg2
       subst hg2
       rw [hgg] at heq
       simp only [qS, Obj.cells.injEq] at heq
       exact hfree j c fl T e2 acc hj hkd heq.2.1.symm))
   . show (joinE n' f (fun _ => zv.cells.toList) j).length = i.size /\ (joinE n' f (fun _ => zv.cells.toList) j).all Value.oneCell' = true
     unfold joinE
     cases hjb : Nat.blt j n'
     . exact ⟨by rw [<- hzs]; exact Array.length_toList, h1⟩
     . exact hwf1 j (by simpa [Nat.blt_eq] using hjb)
   . unfold LE.flat
     show w'.ownsRow w0.heap.size e i.size v' (n' + m) ((List.range (n' + m)).flatMap (joinE n' f (fun _ => zv.cells.toList)))
     rw [flat_join, hfl]; exact h2
 . unfold simFX4 at h
   split at h
   . rename_i r hr
     obtain ⟨y, z, t, e, i, fl, ho, hu, hi, hy, rfl, rfl, hc⟩ := simNB_some (hr.trans h)
     have hex := eval_v ht hy
     obtain ⟨a2, c2, hey⟩ : ∃ a2 c2, a.eval z = .slice a2 0 c2 := by
       rcases hc with ⟨k2, e2, hz, hk2, rfl⟩ | ⟨f2, hz⟩
       . have h0 : e2.n = 0 := by have := hq (pre (decide (e2.n = 0)), true) (by simp); simpa [pre] using this
         obtain ⟨hkl2, hkd2⟩ := getL_some hk2
         obtain ⟨_, a2, c2, hv2, _, _⟩ := hw.inB hkl2 hkd2
         rw [h0] at hv2
         exact ⟨a2, c2, (eval_c ht hz).trans hv2⟩
       . exact ⟨none, 0, eval_v ht hz⟩
     unfold Oper.wp
     have hr' : (execOp a.eval o).run E.P w = .ok (.value (.slice none 0 0)) w := by
       unfold execOp
       simp only [ho, resolve, invoke, builtin, Sem.run_bind, Sem.run_pure, Result.andThen_ok, List.map_toArray, List.map_cons, List.map_nil, hex, hey, run_append_non w t o.type e i hu hi none 0 0 (Nat.le_refl _) a2 c2]
     rw [hr', Oper.upon_value]
     exact hK ν _ w (.refl _ _ _) (by show _ = _; rfl) hw.mem
   . exact op_fx3 h hq hg ht hw hK
theorem op_fx2 {E : Env} {n : Nat} {o : Oper} {s : St} {x : SV} {own : Mem} {q : List (Bool × Bool)} {w0 : Base} {ν : Nu} {a : Act} {w : World} {K : Act -> World -> Prop} {Q : Exit -> Act -> World -> Prop}
   (h : simFX2 E o s = some (x, own, q)) (hq : ∀ p ∈ q, p.1 = p.2) (hg : Good s) (ht : TR n ν s a) (hw : WR w0 ν s.own s.mem w)
   (hK : ∀ ν' v w', Ag s.own ν ν' -> Is ν' x v -> WR w0 ν' own true w' -> K (a.put o.dst v) w') : o.wp E.P a w K Q := by
 unfold simFX2 at h
 split at h
 . rename_i r hr
   rcases simMY_some (hr.trans h) with ⟨t, ho, rfl, rfl, rfl⟩ | ⟨t, m, ix, y, i, f, k, g, v, b, kt, et, T, l, ho, hm, hix, hy, hlo, hb, hu, hkd, rfl, rfl, rfl⟩
   . unfold Oper.wp
     have hrun : (execOp a.eval o).run E.P w = .ok (.value (.map (some w.heap.size))) (w.alloc (.map #[] 0)) := by
       simp only [execOp, ho, Option.map_none, Sem.run_bind, run_makeMap, Result.andThen_ok, Sem.run_pure]
     rw [hrun, Oper.upon_value]
     exact hK (extL ν s.own.b.length w.heap.size) _ _ (extL_old _ _ _ _) (by show _ = _; simp [conc, extL_new]) (hw.growB ⟨[], 0, .mapV t []⟩ _ (fun c hc => by cases hc) (MapV_made w))
   . have hc := hq (pre (decide (l.length < maxLen)), true) (by simp)
     have hc : l.length < maxLen := by simpa [pre] using hc
     have hin := keysB_ok.mp (hq (pre (keysB E.P kt k l), true) (by simp))
     have hml : MapV w (ν.l i) l := by
       have := (hw.blk i b hb).1
       unfold BOk at this
       rw [hkd] at this; exact this
     obtain ⟨ob, hrun0, hnew⟩ := hml.store hu hc hin v
     unfold Oper.wp
     have hrun : (execOp a.eval o).run E.P w = .ok .skip (Go.ChangeMaps.setBlock w (ν.l i) ob) := by
       simp only [execOp, ho, eval_mp ht hm, eval_v ht hix, eval_v ht hy, Sem.run_bind, hrun0, Result.andThen_ok, Sem.run_pure]
     rw [hrun, Oper.upon_skip]
     exact hK ν _ _ (.refl _ _ _) rfl (hw.turnB hb (nb := ⟨[], 0, .mapV T ((k, v) :: l)⟩) (fun c hc => by cases hc) hnew (fun j c fl T e acc cs fz _ _ heq => hml.not_cells cs e fz heq) (fun k hne => setBlock_otherV hml ob k hne) (setBlock_size w _ ob) rfl rfl rfl)
 . exact op_fx6 h hq hg ht hw hK
theorem op_fx {E : Env} {n : Nat} {o : Oper} {s : St} {x : SV} {own : Mem} {q : List (Bool × Bool)} {w0 : Base} (hG : GlobB E w0) {ν : Nu} {a : Act} {w : World} {K : Act -> World -> Prop} {Q : Exit -> Act -> World -> Prop}
   (h : simFX E o s = some (x, own, q)) (hq : ∀ p ∈ q, p.1 = p.2) (hg : Good s) (ht : TR n ν s a) (hw : WR w0 ν s.own s.mem w)
   (hK : ∀ ν' v w', Ag s.own ν ν' -> Is ν' x v -> WR w0 ν' own true w' -> K (a.put o.dst v) w') : o.wp E.P a w K Q := by
 unfold simFX at h
 split at h
 . rename_i r hr
   obtain ⟨fl, cs, v, r', e, qs, hro, hcs, ho, rfl, rfl, rfl⟩ := simRS_some (hr.trans h)
   have hp := rowB_ok.mp (hq (pre (rowB E.glob v e), true) List.mem_cons_self)
   obtain ⟨v', hv, hd⟩ := simRO_ok (mem := s.mem) hro (fun p hp => hq p (List.mem_cons_of_mem _ hp)) ht hG (simRO_st hro hg)
   have hv : v' = .agg cs := hv
   subst hv
   unfold Oper.wp
   rcases hd with ⟨_, hd⟩ | ⟨hc, _⟩
   . rw [hd w hw, Oper.upon_value]
     refine hK (extV ν s.own.l.length v) (.agg cs) w (extV_old _ _ _ _) ?_ (hw.mem.addIn ho ?_)
     . show Value.agg cs = .agg (((CV.l s.own.l.length :: r'.map (CV.v [true])).map (concC (extV ν s.own.l.length v))).toArray)
       have e1 : (r'.map (CV.v [true])).map (concC (extV ν s.own.l.length v)) = r' := by
         rw [List.map_map]; exact List.map_id' r'
       rw [List.map_cons, e1]
       show Value.agg cs = .agg ((extV ν s.own.l.length v).v s.own.l.length :: r').toArray
       rw [extV_new, <- hcs]
     . have h0 := rowG_in hG.glob hp
       have := LOk.kept (e := e) (row := none) (w' := w) (show LOk w0.heap.size w0.toWorld e v by unfold LOk; rw [ho]; exact h0) (grownBy_of hw.below none) (Nat.le_refl _) (fun g hg => by cases hg) (fun hc => by rw [ho] at hc; cases hc)
       unfold LOk at this
       rw [ho] at this; exact this
   . cases hc
 . split at h
   . rename_i r hr
     obtain ⟨fl, v, e, qs, hro, ho, rfl, rfl, rfl⟩ := simRW_some (hr.trans h)
     have hp := rowB_ok.mp (hq (pre (rowB E.glob v e), true) List.mem_cons_self)
     obtain ⟨v', hv, hd⟩ := simRO_ok (mem := s.mem) hro (fun p hp => hq p (List.mem_cons_of_mem _ hp)) ht hG (simRO_st hro hg)
     have hv : v' = v := hv
     subst hv
     unfold Oper.wp
     rcases hd with ⟨_, hd⟩ | ⟨hc, _⟩
     . rw [hd w hw, Oper.upon_value]
       refine hK (extV ν s.own.l.length v') v' w (extV_old _ _ _ _) (by show _ = _; simp [conc, extV_new]) (hw.mem.addIn ho ?_)
       have h0 := rowG_in hG.glob hp
       have := LOk.kept (e := e) (row := none) (w' := w) (show LOk w0.heap.size w0.toWorld e v' by unfold LOk; rw [ho]; exact h0) (grownBy_of hw.below none) (Nat.le_refl _) (fun g hg => by cases hg) (fun hc => by rw [ho] at hc; cases hc)
       unfold LOk at this
       rw [ho] at this; exact this
     . cases hc
   . exact op_fx2 h hq hg ht hw hK
theorem isL_map {n : Nat} {ν : Nu} {s : St} {a : Act} (ht : TR n ν s a) : ∀ (l : List Operand), IsL ν (l.map (ev s)) (l.map a.eval)
 | [] => trivial
 | x :: r => ⟨eval_is ht x, isL_map ht r⟩
theorem evals {a : Act} (az : Array Operand) : az.map a.eval = (az.toList.map a.eval).toArray := by rw [<- Array.toArray_toList (xs := az.map a.eval), Array.toList_map]
theorem isL_append {ν : Nu} : ∀ {l r : List SV} {vs us : List Value}, IsL ν l vs -> IsL ν r us -> IsL ν (l ++ r) (vs ++ us)
 | [], r, [], us, _, h => h
 | [], _, _ :: _, _, h, _ => h.elim
 | _ :: _, _, [], _, h, _ => h.elim
 | x :: l, r, v :: vs, us, h, k => ⟨h.1, isL_append h.2 k⟩
theorem svC_is (ν : Nu) : ∀ (cs : List CV), IsL ν (cs.map svC) (cs.map (concC ν))
 | [] => trivial
 | c :: r => ⟨by cases c <;> rfl, svC_is ν r⟩
theorem svC_okV {n m : Nat} {c : CV} (h : okC n m c) : okV n m (svC c) := by
 cases c with
 | v fl x => trivial
 | a i off => exact h
 | l k => exact h
theorem callArgs_okV {s : St} {o : Oper} {f : FuncId} {args : List SV} (h : callArgs s o = some (f, args)) (hg : Good s) : ∀ y ∈ args, okV s.own.b.length s.own.l.length y := by
 unfold callArgs at h
 split at h
 . rename_i x az ats ho
   split at h
   . rename_i f' fs cs hf
     simp only [qS, qP] at h
     obtain ⟨rfl, rfl⟩ := h
     have hx := ev_ok hg x
     have key : (∀ y ∈ fs, okV s.own.b.length s.own.l.length y) /\ ∀ y ∈ cs, okV s.own.b.length s.own.l.length y := by
       unfold fnOf at hf
       split at hf
       . rename_i f0 fs0 cs0 he
         simp only [qS, qP] at hf
         obtain ⟨rfl, rfl, rfl⟩ := hf
         rw [he] at hx
         exact ⟨fun y hy => by obtain ⟨c, hc, rfl⟩ := List.mem_map.mp hy; exact svC_okV (hx.1 c hc), fun y hy => by obtain ⟨c, hc, rfl⟩ := List.mem_map.mp hy; exact svC_okV (hx.2 c hc)⟩
       . simp only [qS, qP] at hf
         obtain ⟨rfl, rfl, rfl⟩ := hf
         exact ⟨fun y hy => (by cases hy), fun y hy => (by cases hy)⟩
       . cases hf
     intro y hy
     rcases List.mem_append.mp hy with hy | hy
     . exact key.1 y hy
     . rcases List.mem_append.mp hy with hy | hy
       . obtain ⟨x', _, rfl⟩ := List.mem_map.mp hy
         exact ev_ok hg x'
       . exact key.2 y hy
   . cases h
 . cases h
theorem callArgs_run {P : Program} {n : Nat} {ν : Nu} {s : St} {a : Act} {o : Oper} {f : FuncId} {args : List SV} (h : callArgs s o = some (f, args)) (ht : TR n ν s a) :
   ∃ vs, IsL ν args vs ∧ ((∃ fn, P.funcs[f]? = some fn ∧ (fn.name == "runtime.NumGoroutine") = false ∧ fn.body.isNone = false) → ∀ w, (execOp a.eval o).run P w = .ok (.enter f vs.toArray) w) := by
 unfold callArgs at h
 split at h
 . rename_i x az ats ho
   split at h
   . rename_i f' fs cs hf
     simp only [qS, qP] at h
     obtain ⟨rfl, rfl⟩ := h
     have key : ∃ us ws, IsL ν fs us /\ IsL ν cs ws /\ a.eval x = .func (.func f') us.toArray ws.toArray := by
       unfold fnOf at hf
       split at hf
       . rename_i f0 fs0 cs0 he
         simp only [qS, qP] at hf
         obtain ⟨rfl, rfl, rfl⟩ := hf
         exact ⟨_, _, svC_is ν fs0, svC_is ν cs0, eval_fn ht he⟩
       . rename_i fl f0 he
         simp only [qS, qP] at hf
         obtain ⟨rfl, rfl, rfl⟩ := hf
         exact ⟨[], [], trivial, trivial, eval_v ht he⟩
       . cases hf
     obtain ⟨us, ws, h1, h2, he⟩ := key
     refine ⟨us ++ (az.toList.map a.eval ++ ws), isL_append h1 (isL_append (isL_map ht az.toList) h2), fun hfn w => ?_⟩
     obtain ⟨fn, k1, k2, k3⟩ := hfn
     have e1 : execOp a.eval o = callFunc f' (us ++ (az.toList.map a.eval ++ ws)).toArray := by
       have : us.toArray ++ az.map a.eval ++ ws.toArray = (us ++ (az.toList.map a.eval ++ ws)).toArray := by
         rw [evals az]; simp
       rw [<- this]
       unfold execOp
       simp [ho, resolve, Deferred.ofValue, invoke, he]
     rw [e1]
     simp only [callFunc, Sem.run_bind, run_program, Result.andThen_ok, k1, k2, k3, Bool.false_eq_true, if_false, Sem.run_pure]
   . cases h
 . cases h
theorem Le.upd {s t : St} (h : Le s t) (s' : St) (h1 : s'.obl = t.obl) (h2 : s'.own = t.own) (h3 : s'.lo = s.lo) (h4 : s'.llo = s.llo) : Le s s' :=
 ⟨fun p hp => by rw [h1]; exact h.ext p hp, by rw [h2]; exact h.len, by rw [h2]; exact h.llen, h3, h4, fun i hi => by rw [h2]; exact h.keep i hi, fun i hi => by rw [h2]; exact h.lkeep i hi⟩
theorem more_ext (s : St) (q : List (Bool × Bool)) : ∀ p ∈ s.obl, p ∈ more s q := fun p hp => List.mem_append_right _ hp
theorem more_q {s : St} {q : List (Bool × Bool)} (h : ∀ p ∈ more s q, p.1 = p.2) : (∀ p ∈ q, p.1 = p.2) /\ Holds' s := ⟨fun p hp => h p (List.mem_append_left _ hp), fun p hp => h p (List.mem_append_right _ hp)⟩
theorem Good.grow {s : St} (hg : Good s) {s' : St} (h1 : s'.tmps = s.tmps) (h2 : s'.lo = s.lo) (h3 : s'.llo = s.llo) (h4 : s.own.b.length <= s'.own.b.length) (h5 : s.own.l.length <= s'.own.l.length) (h6 : OkB s'.own.b.length s'.own.l.length s'.own.b) : Good s' :=
 ⟨by rw [h2]; exact Nat.le_trans hg.lo h4, by rw [h3]; exact Nat.le_trans hg.llo h5, fun p hp => (hg.ok p (by rw [<- h1]; exact hp)).mono h4 h5, h6⟩
theorem simOps_st {E : Env} {cl : Callee} (hcl : ClSt cl) {n : Nat} {ops : Array Oper} {ro : Bool} : ∀ (l : List Oper) (s s' : St), Good s -> simOps E cl n ops ro l s = some s' -> Le s s' /\ Good s' /\ (ro = true -> s'.own = s.own)
 | [], s, s', hg, h => by simp only [simOps, qS] at h; subst h; exact ⟨Le.refl s, hg, fun _ => rfl⟩
 | o :: rest, s, s', hg, h => by
   have go : ∀ (s1 s2 s3 : St) (x : SV), Le s s1 -> Le s1 s2 -> Good s2 -> okV s2.own.b.length s2.own.l.length x -> (ro = true -> s2.own = s.own) -> putS n o.dst x s2 = some s3 -> simOps E cl n ops ro rest s3 = some s' -> Le s s' /\ Good s' /\ (ro = true -> s'.own = s.own) := fun s1 s2 s3 x k1 k2 k3 k4 k5 hp hr => by
     obtain ⟨g3, l3⟩ := putS_good hp k3 k4
     obtain ⟨r1, r2, r3⟩ := simOps_st hcl rest s3 s' g3 hr
     exact ⟨((k1.trans k2).trans l3).trans r1, r2, fun hro => by rw [r3 hro, (putS_keep hp).2.1, k5 hro]⟩
   unfold simOps at h
   split at h
   . cases h
   . rename_i s1 hw
     obtain ⟨k1, k2, k3, k4⟩ := wantS_st hw
     split at h
     . rename_i s2 hp
       exact go s1 s1 s2 (.inl ([], undef)) k1 (Le.refl _) (k4 hg) trivial (fun _ => k2) hp h
     . cases h
   . rename_i s1 hw
     obtain ⟨k1, k2, k3, k4⟩ := wantS_st hw
     have g1 := k4 hg
     split at h
     . rename_i x s1' hnx
       cases ro with
       | true => cases hnx
       | false =>
         simp only [cond_false] at hnx
         obtain ⟨f1, f2, f3⟩ := simNX_st hnx g1
         split at h
         . rename_i s2 hp
           exact go s1 s1' s2 x k1 f1 f2 f3 (fun h => by cases h) hp h
         . cases h
     split at h
     . rename_i x own q hfx
       cases ro with
       | true => cases hfx
       | false =>
         simp only [cond_false] at hfx
         obtain ⟨f1, f2, f3, f4, f5, f6⟩ := simFX_st hfx g1
         split at h
         . rename_i s2 hp
           refine go s1 { s1 with own := own, mem := true, obl := more s1 q } s2 x k1 ⟨more_ext s1 q, f2, f3, rfl, rfl, f4, f5⟩ (g1.grow rfl rfl rfl f2 f3 f6) f1 (fun h => by cases h) hp h
         . cases h
     . split at h
       . rename_i x c q hro
         have hx := simRO_st hro g1
         split at h
         . rename_i s2 hp
           exact go s1 { s1 with mem := s1.mem || c, obl := more s1 q } s2 x k1 (.same (more_ext s1 q) rfl rfl rfl) ⟨g1.lo, g1.llo, g1.ok, g1.okb⟩ hx (fun _ => k2) hp h
         . cases h
       . split at h
         . cases h
         . rename_i f args hca
           have hargs : ∀ y ∈ args, okV s1.own.b.length s1.own.l.length y := callArgs_okV hca g1
           cases ro with
           | true =>
             simp only [cond_true] at h
             split at h
             . rename_i fl x s2 hc
               obtain ⟨c1, c2, _⟩ := hcl f args { s1 with lo := s1.own.b.length, llo := s1.own.l.length } _ s2 (Nat.le_refl _) (Nat.le_refl _) g1.okb hargs hc
               split at h
               . rename_i s3 hp
                 exact go s1 { s1 with mem := true, orc := s2.orc, obl := s2.obl } s3 (.inl (fl, x)) k1 (.same c1.ext rfl rfl rfl) ⟨g1.lo, g1.llo, g1.ok, g1.okb⟩ trivial (fun _ => k2) hp h
               . cases h
             . cases h
           | false =>
             simp only [cond_false] at h
             split at h
             . rename_i x s2 hc
               obtain ⟨c1, c2, c3⟩ := hcl f args s1 _ s2 g1.lo g1.llo g1.okb hargs hc
               split at h
               . rename_i s3 hp
                 exact go s1 { s1 with own := s2.own, mem := s2.mem, orc := s2.orc, obl := s2.obl } s3 _ k1 (c1.upd _ rfl rfl rfl rfl) (g1.grow rfl rfl rfl c1.len c1.llen c3) c2 (fun h => by cases h) hp h
               . cases h
             . cases h
theorem Ag.step {s s2 : St} {ν ν' ν'' : Nu} (h1 : Ag s.own ν ν') (h2 : Ag s2.own ν' ν'') (hn : s.own.b.length <= s2.own.b.length) (hm : s.own.l.length <= s2.own.l.length) : Ag s.own ν ν'' := Agree.trans h1 h2 hn hm
theorem simOps_wp {E : Env} (HC : CallOk E) {cl : Callee} (hst : ClSt cl) {w0 : Base} (hok : ClOk E w0 cl) {n : Nat} {ops : Array Oper} (hG : GlobB E w0) {Q : Exit -> Act -> World -> Prop} :
   ∀ (l : List Oper) (s s' : St), simOps E cl n ops false l s = some s' -> Good s -> Holds' s' -> ∀ ν a w, TR n ν s a -> WR w0 ν s.own s.mem w ->
     (∀ ν' a' w', Ag s.own ν ν' -> TR n ν' s' a' -> WR w0 ν' s'.own s'.mem w' -> Q .normal a' w') -> wpList E.P ops Q l a w
 | [], s, s', h, _, _, ν, a, w, ht, hw, hQ => by
   simp only [simOps, qS] at h; subst h
   exact wpList_nil (hQ ν a w (Agree.refl _ _ _) ht hw)
 | o :: rest, s, s', h, hg, hh, ν, a, w, ht, hw, hQ => by
   unfold simOps at h
   refine wpList_step fun K hK => ?_
   split at h
   . cases h
   . rename_i s1 hwant
     obtain ⟨k1, k2, k3, k4⟩ := wantS_st hwant
     have g1 := k4 hg
     split at h
     . rename_i s2 hp
       obtain ⟨p1, p2, p3, p4, _⟩ := putS_keep hp
       obtain ⟨g2, l2⟩ := putS_good hp g1 trivial
       have hh1 : Holds' s1 := (l2.trans (simOps_st hst rest s2 s' g2 h).1).holds hh
       obtain ⟨hwn, ht1⟩ := wantS_ok hwant hh1 ht
       rw [if_neg (by rw [hwn]; simp)]
       exact hK _ _ (simOps_wp HC hst hok hG rest s2 s' h g2 hh ν _ w (tr_put hp rfl ht1) (by rw [p2, p3, k2, k3]; exact hw) (fun ν' a' w' ha => hQ ν' a' w' (by rw [p2, k2] at ha; exact ha)))
     . cases h
   . rename_i s1 hwant
     obtain ⟨k1, k2, k3, k4⟩ := wantS_st hwant
     have g1 := k4 hg
     have hw1 : WR w0 ν s1.own s1.mem w := by rw [k2, k3]; exact hw
     split at h
     . rename_i x s1' hnx
       simp only [cond_false] at hnx
       obtain ⟨f1, f2, f3⟩ := simNX_st hnx g1
       split at h
       . rename_i s2 hp
         obtain ⟨p1, p2, p3, p4, _⟩ := putS_keep hp
         obtain ⟨g2, l2⟩ := putS_good hp f2 f3
         have hh1 : Holds' s1' := (l2.trans (simOps_st hst rest s2 s' g2 h).1).holds hh
         obtain ⟨hwn, ht1⟩ := wantS_ok hwant (f1.holds hh1) ht
         rw [if_pos hwn]
         refine op_nx hnx hh1 ht1 hw1 fun v w' htm hv hw' => ?_
         exact hK _ _ (simOps_wp HC hst hok hG rest s2 s' h g2 hh ν _ w' (tr_put hp hv (ht1.of htm)) (by rw [p2, p3]; exact hw')
           (fun ν'' a' w'' ha' => hQ ν'' a' w'' (by rw [<- k2]; exact ha'.mono (by rw [p2]; exact f1.len) (by rw [p2]; exact f1.llen))))
       . cases h
     split at h
     . rename_i x own q hfx
       simp only [cond_false] at hfx
       obtain ⟨f1, f2, f3, f4, f5, f6⟩ := simFX_st hfx g1
       split at h
       . rename_i s2 hp
         obtain ⟨p1, p2, p3, p4, _⟩ := putS_keep hp
         have gm : Good { s1 with own := own, mem := true, obl := more s1 q } := g1.grow rfl rfl rfl f2 f3 f6
         obtain ⟨g2, l2⟩ := putS_good hp gm f1
         obtain ⟨hq, hh1⟩ := more_q ((l2.trans (simOps_st hst rest s2 s' g2 h).1).holds hh)
         obtain ⟨hwn, ht1⟩ := wantS_ok hwant hh1 ht
         rw [if_pos hwn]
         refine op_fx hG hfx hq g1 ht1 hw1 fun ν' v w' ha hv hw' => ?_
         exact hK _ _ (simOps_wp HC hst hok hG rest s2 s' h g2 hh ν' _ w' (tr_put hp hv (ht1.move g1 ha rfl)) (by rw [p2, p3]; exact hw')
           (fun ν'' a' w'' ha' => hQ ν'' a' w'' (by rw [<- k2]; exact Agree.trans ha ha' (by rw [p2]; exact f2) (by rw [p2]; exact f3))))
       . cases h
     . split at h
       . rename_i x c q hro
         split at h
         . rename_i s2 hp
           obtain ⟨p1, p2, p3, p4, _⟩ := putS_keep hp
           have gm : Good { s1 with mem := s1.mem || c, obl := more s1 q } := ⟨g1.lo, g1.llo, g1.ok, g1.okb⟩
           have hx := simRO_st hro g1
           obtain ⟨g2, l2⟩ := putS_good hp gm hx
           obtain ⟨hq, hh1⟩ := more_q ((l2.trans (simOps_st hst rest s2 s' g2 h).1).holds hh)
           obtain ⟨hwn, ht1⟩ := wantS_ok hwant hh1 ht
           rw [if_pos hwn]
           refine op_ro HC hG hro hq g1 ht1 hw1 fun v w' hv hw' => ?_
           exact hK _ _ (simOps_wp HC hst hok hG rest s2 s' h g2 hh ν _ w' (tr_put hp hv (ht1.of rfl)) (by rw [p2, p3]; exact hw')
             (fun ν'' a' w'' ha' => hQ ν'' a' w'' (by rw [p2] at ha'; rw [<- k2]; exact ha')))
         . cases h
       . split at h
         . cases h
         . rename_i f args hca
           have hok1 : ∀ y ∈ args, okV s1.own.b.length s1.own.l.length y := callArgs_okV hca g1
           simp only [cond_false] at h
           split at h
           . rename_i x s2 hc
             obtain ⟨c1, c2, c3⟩ := hst f args s1 _ s2 g1.lo g1.llo g1.okb hok1 hc
             split at h
             . rename_i s3 hp
               obtain ⟨p1, p2, p3, p4, _⟩ := putS_keep hp
               have gm : Good { s1 with own := s2.own, mem := s2.mem, orc := s2.orc, obl := s2.obl } := g1.grow rfl rfl rfl c1.len c1.llen c3
               obtain ⟨g3, l3⟩ := putS_good hp gm c2
               have hh2 : Holds' s2 := fun p hp' => ((l3.trans (simOps_st hst rest s3 s' g3 h).1).holds hh) p hp'
               have hh1 : Holds' s1 := c1.holds hh2
               obtain ⟨hwn, ht1⟩ := wantS_ok hwant hh1 ht
               rw [if_pos hwn]
               obtain ⟨vs, hvs, hrun⟩ := callArgs_run (P := E.P) hca ht1
               obtain ⟨hf, hcalls⟩ := hok f args s1 x s2 g1.lo g1.llo hok1 hc hh2 ν w vs hvs hw1
               unfold Oper.wp
               rw [hrun hf w, Oper.upon_enter]
               refine hcalls.mono fun e w' ⟨ν', v, ha, he, hv, hw'⟩ => ?_
               subst he
               exact hK _ _ (simOps_wp HC hst hok hG rest s3 s' h g3 hh ν' _ w' (tr_put hp hv (ht1.move g1 ha rfl)) (by rw [p2, p3]; exact hw')
                 (fun ν'' a' w'' ha' => hQ ν'' a' w'' (by rw [<- k2]; exact Agree.trans ha ha' (by rw [p2]; exact c1.len) (by rw [p2]; exact c1.llen))))
             . cases h
           . cases h
theorem simOps_quiet {E : Env} (HC : CallOk E) {cl : Callee} (hst : ClSt cl) {w0 : Base} (hok : ClOk E w0 cl) {n : Nat} {ops : Array Oper} (hG : GlobB E w0) {ν : Nu} {own : Mem} {Q : Act -> Prop} :
   ∀ (l : List Oper) (s s' : St), simOps E cl n ops true l s = some s' -> Good s -> Holds' s' -> s.own = own -> s.mem = true -> ∀ a, TR n ν s a ->
     (s'.mem = true -> ∀ a', TR n ν s' a' -> Q a') -> wpQuiet E.P ops (fun w => WR w0 ν own true w) Q l a
 | [], s, s', h, _, _, h1, h2, a, ht, hQ => by
   simp only [simOps, qS] at h; subst h
   exact wpQuiet_nil (hQ h2 a ht)
 | o :: rest, s, s', h, hg, hh, h1, h2, a, ht, hQ => by
   unfold simOps at h
   refine wpQuiet_step fun K hK => ?_
   split at h
   . cases h
   . rename_i s1 hwant
     obtain ⟨k1, k2, k3, k4⟩ := wantS_st hwant
     have g1 := k4 hg
     split at h
     . rename_i s2 hp
       obtain ⟨p1, p2, p3, p4, _⟩ := putS_keep hp
       obtain ⟨g2, l2⟩ := putS_good hp g1 trivial
       have hh1 : Holds' s1 := (l2.trans (simOps_st hst rest s2 s' g2 h).1).holds hh
       obtain ⟨hwn, ht1⟩ := wantS_ok hwant hh1 ht
       rw [if_neg (by rw [hwn]; simp)]
       exact hK _ (simOps_quiet HC hst hok hG rest s2 s' h g2 hh (by rw [p2, k2, h1]) (by rw [p3, k3, h2]) _ (tr_put hp rfl ht1) hQ)
     . cases h
   . rename_i s1 hwant
     obtain ⟨k1, k2, k3, k4⟩ := wantS_st hwant
     have g1 := k4 hg
     have e1 : s1.own = own := k2.trans h1
     split at h
     . rename_i x s1' hnx
       cases hnx
     split at h
     . rename_i x own' q hfx
       cases hfx
     . split at h
       . rename_i x c q hro
         split at h
         . rename_i s2 hp
           obtain ⟨p1, p2, p3, p4, _⟩ := putS_keep hp
           have gm : Good { s1 with mem := s1.mem || c, obl := more s1 q } := ⟨g1.lo, g1.llo, g1.ok, g1.okb⟩
           have hx := simRO_st hro g1
           obtain ⟨g2, l2⟩ := putS_good hp gm hx
           obtain ⟨hq, hh1⟩ := more_q ((l2.trans (simOps_st hst rest s2 s' g2 h).1).holds hh)
           obtain ⟨hwn, ht1⟩ := wantS_ok hwant hh1 ht
           rw [if_pos hwn]
           obtain ⟨v, hv, hdo⟩ := simRO_ok (mem := true) hro hq ht1 hG hx
           refine ⟨v, fun w hw => ?_, hK _ (simOps_quiet HC hst hok hG rest s2 s' h g2 hh (by rw [p2]; exact e1) (by rw [p3]; show (s1.mem || c) = true; rw [k3, h2]; rfl) _ (tr_put hp hv (ht1.of rfl)) hQ)⟩
           unfold Oper.quietAt
           rcases hdo with ⟨rfl, hd⟩ | ⟨rfl, f, args, hf, hd⟩
           . rw [hd w (by rw [e1]; exact hw)]; exact ⟨rfl, rfl⟩
           . rw [hd w]
             exact ⟨rfl, (HC.1 f args _ hf w (hG.below hw.below)).mono fun e w' ⟨he, hb⟩ => ⟨he, hw.grown hb⟩⟩
         . cases h
       . split at h
         . cases h
         . rename_i f args hca
           have hok1 : ∀ y ∈ args, okV s1.own.b.length s1.own.l.length y := callArgs_okV hca g1
           simp only [cond_true] at h
           split at h
           . rename_i fl x s2 hc
             obtain ⟨c1, c2, _⟩ := hst f args { s1 with lo := s1.own.b.length, llo := s1.own.l.length } _ s2 (Nat.le_refl _) (Nat.le_refl _) g1.okb hok1 hc
             split at h
             . rename_i s3 hp
               obtain ⟨p1, p2, p3, p4, _⟩ := putS_keep hp
               have gm : Good { s1 with mem := true, orc := s2.orc, obl := s2.obl } := ⟨g1.lo, g1.llo, g1.ok, g1.okb⟩
               obtain ⟨g3, l3⟩ := putS_good hp gm trivial
               have hh2 : Holds' s2 := fun p hp' => ((l3.trans (simOps_st hst rest s3 s' g3 h).1).holds hh) p hp'
               have hh1 : Holds' s1 := fun p hp' => hh2 p (c1.ext p hp')
               obtain ⟨hwn, ht1⟩ := wantS_ok hwant hh1 ht
               rw [if_pos hwn]
               obtain ⟨vs, hvs, hrun⟩ := callArgs_run (P := E.P) hca ht1
               refine ⟨x, fun w hw => ?_, hK _ (simOps_quiet HC hst hok hG rest s3 s' h g3 hh (by rw [p2]; exact e1) (by rw [p3]) _ (tr_put hp rfl (ht1.of rfl)) hQ)⟩
               obtain ⟨hf, hcalls⟩ := hok f args { s1 with lo := s1.own.b.length, llo := s1.own.l.length } _ s2 (Nat.le_refl _) (Nat.le_refl _) hok1 hc hh2 ν w vs hvs (by show WR w0 ν s1.own s1.mem w; rw [e1, k3, h2]; exact hw)
               unfold Oper.quietAt
               rw [hrun hf w]
               refine ⟨rfl, hcalls.mono fun e w' ⟨ν', v, ha, he, hv, hw'⟩ => ⟨by rw [he, (show v = x from hv)], ?_⟩⟩
               have := hw'.restrict (own := s1.own) g1.okb ha c1.len (fun i hi => c1.keep i hi) (fun i hi => c1.lkeep i hi)
               rw [e1] at this
               exact this
             . cases h
           . cases h
end Go.Proofs.Ytmaffamhjmlonaa.S2
