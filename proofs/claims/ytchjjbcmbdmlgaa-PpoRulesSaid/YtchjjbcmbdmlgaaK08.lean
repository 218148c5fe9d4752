/- Hrt16, Set16, App16. -/
import Derived.Test.YtchjjbcmbdmlgaaBoth16
import Derived.Test.YtchjjbcmbdmlgaaK07
import Derived.Test.YtchjjbcmbdmlgaaChc16
import Derived.ArgAppend
import Derived.Deep.DeepAppendRoom
set_option linter.unusedVariables false
set_option linter.unusedSimpArgs false
namespace Go.Proofs.Ytchjjbcmbdmlgaa
open Go Go.RowKit
structure HZ where
  x : Nat → Int
  k : Nat → Bool
  o : Nat → Value
  pc : Int
  su : Bool
  ct : Value
  tp : Value
def hF (S : HZ) (k : Nat) : Value := if k < 32 then .int .i64 (S.x k) else if k < 64 then .bool (S.k (k - 32)) else if k < 96 then S.o (k - 64) else if k = 96 then .int .i64 S.pc else if k = 97 then .bool S.su else if k = 98 then S.ct else S.tp
abbrev hT : TypeId := 87
structure HtOk (w : World) (h : Nat) (M : List Nat) (N : Nat) (S : HZ) : Prop where
  row : Hb w h hT 100 (hF S)
  xs : ∀ k, k < 32 → isN (S.x k)
  os : ∀ k, k < 32 → LsW w M N (S.o k)
  ct : LsW w M N S.ct
  inn : h ∈ M
section
variable {w w' : World} {h N : Nat} {M : List Nat} {S : HZ}
theorem HtOk.cx (H : HtOk w h M N S) {k : Nat} (hk : k < 32) : w.cell? ⟨h, k, none⟩ = some (.int .i64 (S.x k)) := by
  have := H.row.cell (i := k) (by omega)
  rw [this]; unfold hF; rw [if_pos hk]
theorem HtOk.ck (H : HtOk w h M N S) {k : Nat} (hk : k < 32) : w.cell? ⟨h, 32 + k, none⟩ = some (.bool (S.k k)) := by
  have := H.row.cell (i := 32 + k) (by omega)
  rw [this]; unfold hF; rw [if_neg (by omega), if_pos (by omega), Nat.add_sub_cancel_left]
theorem HtOk.co (H : HtOk w h M N S) {k : Nat} (hk : k < 32) : w.cell? ⟨h, 64 + k, none⟩ = some (S.o k) := by
  have := H.row.cell (i := 64 + k) (by omega)
  rw [this]; unfold hF; rw [if_neg (by omega), if_neg (by omega), if_pos (by omega), Nat.add_sub_cancel_left]
theorem HtOk.cpc (H : HtOk w h M N S) : w.cell? ⟨h, 96, none⟩ = some (.int .i64 S.pc) := H.row.cell (i := 96) (by omega)
theorem HtOk.csu (H : HtOk w h M N S) : w.cell? ⟨h, 97, none⟩ = some (.bool S.su) := H.row.cell (i := 97) (by omega)
theorem HtOk.cct (H : HtOk w h M N S) : w.cell? ⟨h, 98, none⟩ = some S.ct := H.row.cell (i := 98) (by omega)
theorem HtOk.ctp (H : HtOk w h M N S) : w.cell? ⟨h, 99, none⟩ = some S.tp := H.row.cell (i := 99) (by omega)
theorem HtOk.fr (H : HtOk w h M N S) {T M' : List Nat} (hf : Fr T w w') (hh : h ∉ T) (hT : ∀ k, k ∈ T → k ∈ M ∨ w.heap.size ≤ k) (hM : ∀ k, k ∈ M' → k ∈ M ∨ w.heap.size ≤ k) (hm : h ∈ M') : HtOk w' h M' N S :=
  ⟨H.row.fr hf hh, H.xs, fun k hk => (H.os k hk).fr hf hT hM, H.ct.fr hf hT hM, hm⟩
theorem HtOk.same (H : HtOk w h M N S) (hb : Below w.heap.size w w') : HtOk w' h M N S := H.fr (T := []) (Fr.of_below hb) (by simp) (by simp) (fun _ hk => .inl hk) H.inn
theorem HtOk.mono (H : HtOk w h M N S) {N' : Nat} (hN : N ≤ N') : HtOk w h M N' S := ⟨H.row, H.xs, fun k hk => (H.os k hk).mono hN, H.ct.mono hN, H.inn⟩
theorem HtOk.put (H : HtOk w h M N S) (i : Nat) (v : Value) (S' : HZ) (he : ∀ k, k < 100 → updF (hF S) i v k = hF S' k) (hx : ∀ k, k < 32 → isN (S'.x k)) (ho : ∀ k, k < 32 → LsW w M N (S'.o k)) (hc : LsW w M N S'.ct) : HtOk (w.setCell ⟨h, i, none⟩ v) h M N S' := by
  have hf : Fr [h] w (w.setCell ⟨h, i, none⟩ v) := (Fr.refl _ w).set (.inr (by simp)) v
  have hT : ∀ k, k ∈ [h] → k ∈ M ∨ w.heap.size ≤ k := fun k hk => by simp at hk; subst hk; exact .inl H.inn
  exact ⟨(H.row.set v).congr he, hx, fun k hk => (ho k hk).fr hf hT fun _ hk => .inl hk, hc.fr hf hT fun _ hk => .inl hk, H.inn⟩
theorem HtOk.putX (H : HtOk w h M N S) {r : Nat} (hr : r < 32) (x : Int) (hx : isN x) : HtOk (w.setCell ⟨h, r, none⟩ (.int .i64 x)) h M N { S with x := updF S.x r x } :=
  H.put r _ _ (fun k hk => by
    unfold updF hF
    by_cases e : k = r
    · subst e; simp [hr]
    · simp [e]) (fun k hk => by by_cases e : k = r; (subst e; simp [updF, hx]); (simp [updF, e]; exact H.xs k hk)) H.os H.ct
theorem HtOk.putK (H : HtOk w h M N S) {r : Nat} (hr : r < 32) (x : Bool) : HtOk (w.setCell ⟨h, 32 + r, none⟩ (.bool x)) h M N { S with k := updF S.k r x } :=
  H.put (32 + r) _ _ (fun k hk => by
    unfold updF hF
    by_cases e : k = 32 + r
    · subst e; rw [if_pos rfl, if_neg (by omega), if_pos (by omega)]; simp
    · rw [if_neg e]
      by_cases e2 : k < 32
      · simp [e2]
      · by_cases e3 : k < 64
        · simp [e2, e3, show ¬ k - 32 = r from by omega]
        · simp [e2, e3]) H.xs H.os H.ct
theorem HtOk.putO (H : HtOk w h M N S) {r : Nat} (hr : r < 32) (v : Value) (hv : LsW w M N v) : HtOk (w.setCell ⟨h, 64 + r, none⟩ v) h M N { S with o := updF S.o r v } :=
  H.put (64 + r) _ _ (fun k hk => by
    unfold updF hF
    by_cases e : k = 64 + r
    · subst e; rw [if_pos rfl, if_neg (by omega), if_neg (by omega), if_pos (by omega)]; simp
    · rw [if_neg e]
      by_cases e2 : k < 32
      · simp [e2]
      · by_cases e3 : k < 64
        · simp [e2, e3]
        · by_cases e4 : k < 96
          · simp [e2, e3, e4, show ¬ k - 64 = r from by omega]
          · simp [e2, e3, e4]) H.xs (fun k hk => by by_cases e : k = r; (subst e; simp [updF]; exact hv); (simp [updF, e]; exact H.os k hk)) H.ct
theorem lt100 {P : Nat → Prop} {i : Nat} (hi : P i) (ho : ∀ k, k < 100 → k ≠ i → P k) : ∀ k, k < 100 → P k := fun k hk => by
  by_cases e : k = i
  · subst e; exact hi
  · exact ho k hk e
theorem HtOk.putPC (H : HtOk w h M N S) (x : Int) : HtOk (w.setCell ⟨h, 96, none⟩ (.int .i64 x)) h M N { S with pc := x } :=
  H.put 96 _ _ (lt100 (i := 96) (by simp [updF, hF]) fun k hk e => by simp [updF, hF, e]) H.xs H.os H.ct
theorem HtOk.putSu (H : HtOk w h M N S) (x : Bool) : HtOk (w.setCell ⟨h, 97, none⟩ (.bool x)) h M N { S with su := x } :=
  H.put 97 _ _ (lt100 (i := 97) (by simp [updF, hF]) fun k hk e => by simp [updF, hF, e]) H.xs H.os H.ct
theorem HtOk.putCt (H : HtOk w h M N S) (v : Value) (hv : LsW w M N v) : HtOk (w.setCell ⟨h, 98, none⟩ v) h M N { S with ct := v } :=
  H.put 98 _ _ (lt100 (i := 98) (by simp [updF, hF]) fun k hk e => by simp [updF, hF, e]) H.xs H.os hv
theorem HtOk.putTp (H : HtOk w h M N S) (v : Value) : HtOk (w.setCell ⟨h, 99, none⟩ v) h M N { S with tp := v } :=
  H.put 99 _ _ (lt100 (i := 99) (by simp [updF, hF]) fun k hk e => by
    have : k < 99 := by omega
    simp only [updF, hF, e, if_false]
    repeat' split
    all_goals first | rfl | omega) H.xs H.os H.ct
end
end Go.Proofs.Ytchjjbcmbdmlgaa
namespace Go.Proofs.Ytchjjbcmbdmlgaa
open Go Go.RowKit
def StE (w : World) (h : Nat) (M : List Nat) (N : Nat) (S : HZ) : Ending → World → Prop := fun e w' => e = .returned (.tuple #[]) ∧ ∃ S', HtOk w' h M N S' ∧ S'.tp = S.tp ∧ S'.pc = S.pc ∧ Fr [h] w w'
set_option maxHeartbeats 2000000 in
set_option maxRecDepth 100000 in
theorem set_w {w : World} {h N : Nat} {M : List Nat} {S : HZ} (H : HtOk w h M N S) (r v : Int) (hr : 0 ≤ r ∧ r ≤ 31) (kn : Bool) (on : Value) (hv : isN v) (hon : LsW w M N on) : Calls Try.prog 67 #[.pointer (some ⟨h, 0, none⟩), .int .i64 r, .int .i64 v, .bool kn, on] w (StE w h M N S) := by
  obtain ⟨n, rfl⟩ : ∃ n : Nat, r = (n : Int) := ⟨r.toNat, by omega⟩
  have hn : n < 32 := by omega
  obtain ⟨q, m, c, F, e, _⟩ := id hon
  subst e
  go_enter Try.func67, Try.ntmps67
  by_cases h0 : n = 0
  · subst h0
    go_wp2
    go_end0
    exact ⟨rfl, S, H, rfl, rfl, Fr.refl _ _⟩
  · have key : ∀ v, isN v → HtOk (((w.setCell ⟨h, n, none⟩ (.int .i64 v)).setCell ⟨h, 32 + n, none⟩ (.bool kn)).setCell ⟨h, 64 + n, none⟩ (.slice q m c)) h M N { S with x := updF S.x n v, k := updF S.k n kn, o := updF S.o n (.slice q m c) } := fun v hv =>
      ((H.putX hn v hv).putK hn kn).putO hn (.slice q m c) ((hon.fr (T := [h]) (((Fr.refl _ w).set (.inr (by simp)) _).set (.inr (by simp)) _) (fun k hk => by simp at hk; subst hk; exact .inl H.inn) fun _ hk => .inl hk))
    have Key := hid key
    have HF : Hid (∀ v : Value, Fr [h] w (((w.setCell ⟨h, n, none⟩ v).setCell ⟨h, 32 + n, none⟩ (.bool kn)).setCell ⟨h, 64 + n, none⟩ (.slice q m c))) := hid fun v => (((Fr.refl _ w).set (.inr (by simp)) _).set (.inr (by simp)) _).set (.inr (by simp)) _
    have c1 := H.cx hn
    have c2 := H.ck hn
    have c3 := H.co hn
    have f1 := H.row.free n
    have f2 := H.row.free (32 + n)
    have f3 := H.row.free (64 + n)
    clear key H
    cases kn
    · go_wp2
      go_end0
      exact ⟨rfl, _, Key.out 0 (by unfold isN; decide), rfl, rfl, HF.out _⟩
    · go_wp2
      go_end0
      exact ⟨rfl, _, Key.out v hv, rfl, rfl, HF.out _⟩
end Go.Proofs.Ytchjjbcmbdmlgaa
namespace Go.Proofs.Ytchjjbcmbdmlgaa
open Go Go.RowKit
theorem run_append_fresh {P : Program} (w : World) (base : Nat) (t ty e : TypeId) (i : TypeInfo) (z : Value) (size bytes : Nat) (ht : P.underlying t = some (.slice e)) (hi : P.info? e = some i) (hz : i.zero = some z)
    (hsize : i.size = size) (hby : i.bytes = bytes) (hzs : z.cells.size = size) (hsz : 0 < size)
    (v : Value) (n : Nat) (xs : List Value) (hown : w.ownsRow base e size v n xs)
    (a : Addr) (m c : Nat) (news : List Value) (hl : news.length = m * size) (hnews : ∀ j u, news[j]? = some u → w.cell? (a.add j) = some u) (h1 : ∀ u ∈ news, u.oneCell' = true)
    (h63 : n + m ≤ maxLen) (hbytes : (n + m) * bytes ≤ 140737488355328) (hbase : base ≤ w.heap.size) :
    ∃ v' w', (Builtin.append_ #[t, t] ty #[v, .slice (some a) m c]).run P w = .ok v' w' ∧ w'.ownsRow base e size v' (n + m) (xs ++ news) ∧ w.grownBy w' v.ownBlock ∧ (∀ g, v'.ownBlock = some g → v.ownBlock = some g ∨ w.heap.size ≤ g) := by
  obtain ⟨v', w', hr, o1, g1, _⟩ := run_append_own (P := P) w base t ty e i z size bytes ht hi hz hsize hby hzs hsz v n xs hown a m c news hl hnews h1 h63 hbytes hbase
  refine ⟨v', w', hr, o1, g1, fun g hg => ?_⟩
  rcases hown.2 with ⟨rfl, h0⟩ | ⟨g0, cap, cur, rfl, _⟩
  · subst h0
    obtain rfl : xs = [] := List.eq_nil_of_length_eq_zero (by simpa using hown.1)
    obtain ⟨v2, w2, hr2, o2, _⟩ := run_append_own (P := P) w w.heap.size t ty e i z size bytes ht hi hz hsize hby hzs hsz (.slice none 0 0) 0 [] (World.ownsRow_nil w _ e size) a m c news hl hnews h1 h63 hbytes (Nat.le_refl _)
    rw [hr] at hr2
    injection hr2 with e1 e2
    subst e1 e2
    exact .inr (o2.lt g hg).1
  · by_cases hroom : n + m ≤ cap
    · obtain ⟨w2, hr2, _⟩ := run_append_own_spare (P := P) w base t ty e i size ht hi hsize g0 n cap xs hown a m c news hl hnews h1 hroom
      rw [hr] at hr2
      injection hr2 with e1 e2
      subst e1 e2
      exact .inl hg
    · have holds := hown.cells (g := g0) rfl
      obtain ⟨v2, w2, hr2, o2, _⟩ := run_append_arg_grows (P := P) w t ty e i z size bytes ht hi hz hsize hby hzs hsz ⟨g0, 0, none⟩ n cap xs hown.1 holds a m c news hl hnews (by omega) h63 hbytes
      rw [hr] at hr2
      injection hr2 with e1 e2
      subst e1 e2
      exact .inr (o2.lt g hg).1
theorem wp_append_fresh {P : Program} {w : World} {o : Oper} {a : Act} {K : Act → World → Prop} {Q : Exit → Act → World → Prop} (s x : Operand) (t : TypeId)
    (ho : o.op = .call { callee := .builtin .append, args := #[s, x], argTypes := #[t, t] })
    (base : Nat) (e : TypeId) (i : TypeInfo) (z : Value) (size bytes : Nat) (ht : P.underlying t = some (.slice e)) (hi : P.info? e = some i) (hz : i.zero = some z)
    (hsize : i.size = size) (hby : i.bytes = bytes) (hzs : z.cells.size = size) (hsz : 0 < size)
    (v : Value) (n : Nat) (xs : List Value) (hs : a.eval s = v) (hown : w.ownsRow base e size v n xs)
    (ad : Addr) (m c : Nat) (news : List Value) (hx : a.eval x = .slice (some ad) m c) (hl : news.length = m * size) (hnews : ∀ j u, news[j]? = some u → w.cell? (ad.add j) = some u) (h1 : ∀ u ∈ news, u.oneCell' = true)
    (h63 : n + m ≤ maxLen) (hbytes : (n + m) * bytes ≤ 140737488355328) (hbase : base ≤ w.heap.size)
    (h : ∀ v' w', w'.ownsRow base e size v' (n + m) (xs ++ news) → w.grownBy w' v.ownBlock → (∀ g, v'.ownBlock = some g → v.ownBlock = some g ∨ w.heap.size ≤ g) → K (a.put o.dst v') w') : o.wp P a w K Q := by
  obtain ⟨v', w', hr, h2, h3, h4⟩ := run_append_fresh (P := P) w base t o.type e i z size bytes ht hi hz hsize hby hzs hsz v n xs hown ad m c news hl hnews h1 h63 hbytes hbase
  unfold Oper.wp execOp
  simp only [ho, resolve, invoke, builtin, Sem.run_bind, Sem.run_pure, Result.andThen_ok, List.map_toArray, List.map_cons, List.map_nil, hs, hx, hr]
  exact h v' w' h2 h3 h4
theorem wpList_append_fresh {P : Program} {w : World} {ops : Array Oper} {rest : List Oper} {o : Oper} {a : Act} {Q : Exit → Act → World → Prop} (hgd : o.guard = none) (s x : Operand) (t : TypeId)
    (ho : o.op = .call { callee := .builtin .append, args := #[s, x], argTypes := #[t, t] })
    (base : Nat) (e : TypeId) (i : TypeInfo) (z : Value) (size bytes : Nat) (ht : P.underlying t = some (.slice e)) (hi : P.info? e = some i) (hz : i.zero = some z)
    (hsize : i.size = size) (hby : i.bytes = bytes) (hzs : z.cells.size = size) (hsz : 0 < size)
    (v : Value) (n : Nat) (xs : List Value) (hs : a.eval s = v) (hown : w.ownsRow base e size v n xs)
    (ad : Addr) (m c : Nat) (news : List Value) (hx : a.eval x = .slice (some ad) m c) (hl : news.length = m * size) (hnews : ∀ j u, news[j]? = some u → w.cell? (ad.add j) = some u) (h1 : ∀ u ∈ news, u.oneCell' = true)
    (h63 : n + m ≤ maxLen) (hbytes : (n + m) * bytes ≤ 140737488355328) (hbase : base ≤ w.heap.size)
    (h : ∀ v' w', w'.ownsRow base e size v' (n + m) (xs ++ news) → w.grownBy w' v.ownBlock → (∀ g, v'.ownBlock = some g → v.ownBlock = some g ∨ w.heap.size ≤ g) → wpList P ops Q rest (a.put o.dst v') w') : wpList P ops Q (o :: rest) a w :=
  wpList_plain hgd fun _ hK => wp_append_fresh s x t ho base e i z size bytes ht hi hz hsize hby hzs hsz v n xs hs hown ad m c news hx hl hnews h1 h63 hbytes hbase fun v' w' h2 h3 h4 => hK _ _ (h v' w' h2 h3 h4)
end Go.Proofs.Ytchjjbcmbdmlgaa
