/- Evq16, Beg16. -/
import Derived.Test.YtchjjbcmbdmlgaaDcd16
import Derived.Test.YtchjjbcmbdmlgaaK07
import Derived.Test.YtchjjbcmbdmlgaaK08
import Derived.Deep.Cut
set_option linter.unusedVariables false
set_option linter.unusedSimpArgs false
namespace Go.Proofs.Ytchjjbcmbdmlgaa
open Go Go.RowKit
structure EvZ where
  ht : Int
  at' : Int
  pc : Int
  i : In
  addr : Int
  kn : Bool
  rd : Bool
  wr : Bool
  inn : Int
  out : Int
  ry : Bool
  sh : Int
  sa : Int
  wt : Bool
def evL (e : EvZ) (va vd vc : Value) : List Value := [.int .i64 e.ht, .int .i64 e.at', .int .i64 e.pc, .int .i64 e.i.op, .int .i64 e.i.rd, .int .i64 e.i.a, .int .i64 e.i.b, .int .i64 e.i.imm, .bool e.i.aq, .bool e.i.rl, .int .i64 e.addr, .bool e.kn, .bool e.rd, .bool e.wr, .int .i64 e.inn, .int .i64 e.out, .bool e.ry, .int .i64 e.sh, .int .i64 e.sa, .bool e.wt, va, vd, vc]
def evF (e : EvZ) (va vd vc : Value) (k : Nat) : Value := (evL e va vd vc).getD k undef
theorem lt23 {P : Nat → Prop} (h : P 0 ∧ P 1 ∧ P 2 ∧ P 3 ∧ P 4 ∧ P 5 ∧ P 6 ∧ P 7 ∧ P 8 ∧ P 9 ∧ P 10 ∧ P 11 ∧ P 12 ∧ P 13 ∧ P 14 ∧ P 15 ∧ P 16 ∧ P 17 ∧ P 18 ∧ P 19 ∧ P 20 ∧ P 21 ∧ P 22) : ∀ k, k < 23 → P k := fun k hk => by
  obtain ⟨h0, h1, h2, h3, h4, h5, h6, h7, h8, h9, h10, h11, h12, h13, h14, h15, h16, h17, h18, h19, h20, h21, h22⟩ := h
  have : k = 0 ∨ k = 1 ∨ k = 2 ∨ k = 3 ∨ k = 4 ∨ k = 5 ∨ k = 6 ∨ k = 7 ∨ k = 8 ∨ k = 9 ∨ k = 10 ∨ k = 11 ∨ k = 12 ∨ k = 13 ∨ k = 14 ∨ k = 15 ∨ k = 16 ∨ k = 17 ∨ k = 18 ∨ k = 19 ∨ k = 20 ∨ k = 21 ∨ k = 22 := by omega
  rcases this with rfl | rfl | rfl | rfl | rfl | rfl | rfl | rfl | rfl | rfl | rfl | rfl | rfl | rfl | rfl | rfl | rfl | rfl | rfl | rfl | rfl | rfl | rfl <;> assumption
section
variable (e : EvZ) (va vd vc : Value)
theorem evF_addr (x : Int) : ∀ k, k < 23 → updF (evF e va vd vc) 10 (.int .i64 x) k = evF { e with addr := x } va vd vc k := lt23 (by simp [updF, evF, evL])
theorem evF_kn (x : Bool) : ∀ k, k < 23 → updF (evF e va vd vc) 11 (.bool x) k = evF { e with kn := x } va vd vc k := lt23 (by simp [updF, evF, evL])
theorem evF_rd (x : Bool) : ∀ k, k < 23 → updF (evF e va vd vc) 12 (.bool x) k = evF { e with rd := x } va vd vc k := lt23 (by simp [updF, evF, evL])
theorem evF_wr (x : Bool) : ∀ k, k < 23 → updF (evF e va vd vc) 13 (.bool x) k = evF { e with wr := x } va vd vc k := lt23 (by simp [updF, evF, evL])
theorem evF_inn (x : Int) : ∀ k, k < 23 → updF (evF e va vd vc) 14 (.int .i64 x) k = evF { e with inn := x } va vd vc k := lt23 (by simp [updF, evF, evL])
theorem evF_out (x : Int) : ∀ k, k < 23 → updF (evF e va vd vc) 15 (.int .i64 x) k = evF { e with out := x } va vd vc k := lt23 (by simp [updF, evF, evL])
theorem evF_ry (x : Bool) : ∀ k, k < 23 → updF (evF e va vd vc) 16 (.bool x) k = evF { e with ry := x } va vd vc k := lt23 (by simp [updF, evF, evL])
theorem evF_ao (x : Value) : ∀ k, k < 23 → updF (evF e va vd vc) 20 x k = evF e x vd vc k := lt23 (by simp [updF, evF, evL])
theorem evF_do (x : Value) : ∀ k, k < 23 → updF (evF e va vd vc) 21 x k = evF e va x vc k := lt23 (by simp [updF, evF, evL])
theorem evF_co (x : Value) : ∀ k, k < 23 → updF (evF e va vd vc) 22 x k = evF e va vd x k := lt23 (by simp [updF, evF, evL])
end
abbrev evT : TypeId := 45
structure EvQ (w : World) (eb : Nat) (M : List Nat) (N : Nat) (no : Int) (e : EvZ) (va vd vc : Value) : Prop where
  row : Hb w eb evT 23 (evF e va vd vc)
  ht : e.ht = no
  kn : (e.rd || e.wr) = true → e.kn = true
  fe : e.i.op = 63 → 0 ≤ e.i.imm ∧ e.i.imm ≤ 255
  la : LsW w M N va
  ld : LsW w M N vd
  lc : LsW w M N vc
  inn : eb ∈ M
section
variable {w w' : World} {eb N : Nat} {M : List Nat} {no : Int} {e : EvZ} {va vd vc : Value}
theorem EvQ.fr (H : EvQ w eb M N no e va vd vc) {T : List Nat} (hf : Fr T w w') (hh : eb ∉ T) (hT : ∀ k, k ∈ T → k ∈ M ∨ w.heap.size ≤ k) : EvQ w' eb M N no e va vd vc :=
  ⟨H.row.fr hf hh, H.ht, H.kn, H.fe, H.la.fr hf hT fun _ hk => .inl hk, H.ld.fr hf hT fun _ hk => .inl hk, H.lc.fr hf hT fun _ hk => .inl hk, H.inn⟩
theorem EvQ.same (H : EvQ w eb M N no e va vd vc) (hb : Below w.heap.size w w') : EvQ w' eb M N no e va vd vc := H.fr (T := []) (Fr.of_below hb) (by simp) (by simp)
theorem EvQ.put (H : EvQ w eb M N no e va vd vc) (i : Nat) (v : Value) {e' : EvZ} {va' vd' vc' : Value} (he : ∀ k, k < 23 → updF (evF e va vd vc) i v k = evF e' va' vd' vc' k) (h1 : e'.ht = e.ht) (h2 : (e'.rd || e'.wr) = true → e'.kn = true) (h3 : e'.i.op = 63 → 0 ≤ e'.i.imm ∧ e'.i.imm ≤ 255)
    (ha : LsW w M N va') (hd : LsW w M N vd') (hc : LsW w M N vc') : EvQ (w.setCell ⟨eb, i, none⟩ v) eb M N no e' va' vd' vc' := by
  have hf : Fr [eb] w (w.setCell ⟨eb, i, none⟩ v) := (Fr.refl _ w).set (.inr (by simp)) v
  have hT : ∀ k, k ∈ [eb] → k ∈ M ∨ w.heap.size ≤ k := fun k hk => by simp at hk; subst hk; exact .inl H.inn
  exact ⟨(H.row.set v).congr he, h1.trans H.ht, h2, h3, ha.fr hf hT fun _ hk => .inl hk, hd.fr hf hT fun _ hk => .inl hk, hc.fr hf hT fun _ hk => .inl hk, H.inn⟩
theorem EvQ.addr (H : EvQ w eb M N no e va vd vc) (x : Int) : EvQ (w.setCell ⟨eb, 10, none⟩ (.int .i64 x)) eb M N no { e with addr := x } va vd vc := H.put 10 _ (evF_addr e va vd vc x) rfl H.kn H.fe H.la H.ld H.lc
theorem EvQ.known (H : EvQ w eb M N no e va vd vc) : EvQ (w.setCell ⟨eb, 11, none⟩ (.bool true)) eb M N no { e with kn := true } va vd vc := H.put 11 _ (evF_kn e va vd vc true) rfl (fun _ => rfl) H.fe H.la H.ld H.lc
theorem EvQ.read (H : EvQ w eb M N no e va vd vc) (hk : e.kn = true) (x : Bool) : EvQ (w.setCell ⟨eb, 12, none⟩ (.bool x)) eb M N no { e with rd := x } va vd vc := H.put 12 _ (evF_rd e va vd vc x) rfl (fun _ => hk) H.fe H.la H.ld H.lc
theorem EvQ.write (H : EvQ w eb M N no e va vd vc) (hk : e.kn = true) (x : Bool) : EvQ (w.setCell ⟨eb, 13, none⟩ (.bool x)) eb M N no { e with wr := x } va vd vc := H.put 13 _ (evF_wr e va vd vc x) rfl (fun _ => hk) H.fe H.la H.ld H.lc
theorem EvQ.inp (H : EvQ w eb M N no e va vd vc) (x : Int) : EvQ (w.setCell ⟨eb, 14, none⟩ (.int .i64 x)) eb M N no { e with inn := x } va vd vc := H.put 14 _ (evF_inn e va vd vc x) rfl H.kn H.fe H.la H.ld H.lc
theorem EvQ.outp (H : EvQ w eb M N no e va vd vc) (x : Int) : EvQ (w.setCell ⟨eb, 15, none⟩ (.int .i64 x)) eb M N no { e with out := x } va vd vc := H.put 15 _ (evF_out e va vd vc x) rfl H.kn H.fe H.la H.ld H.lc
theorem EvQ.ready (H : EvQ w eb M N no e va vd vc) (x : Bool) : EvQ (w.setCell ⟨eb, 16, none⟩ (.bool x)) eb M N no { e with ry := x } va vd vc := H.put 16 _ (evF_ry e va vd vc x) rfl H.kn H.fe H.la H.ld H.lc
theorem EvQ.setA (H : EvQ w eb M N no e va vd vc) (v : Value) (hv : LsW w M N v) : EvQ (w.setCell ⟨eb, 20, none⟩ v) eb M N no e v vd vc := H.put 20 _ (evF_ao e va vd vc v) rfl H.kn H.fe hv H.ld H.lc
theorem EvQ.setD (H : EvQ w eb M N no e va vd vc) (v : Value) (hv : LsW w M N v) : EvQ (w.setCell ⟨eb, 21, none⟩ v) eb M N no e va v vc := H.put 21 _ (evF_do e va vd vc v) rfl H.kn H.fe H.la hv H.lc
theorem EvQ.setC (H : EvQ w eb M N no e va vd vc) (v : Value) (hv : LsW w M N v) : EvQ (w.setCell ⟨eb, 22, none⟩ v) eb M N no e va vd v := H.put 22 _ (evF_co e va vd vc v) rfl H.kn H.fe H.la H.ld hv
theorem EvQ.c4 (H : EvQ w eb M N no e va vd vc) : w.cell? ⟨eb, 10, none⟩ = some (.int .i64 e.addr) := H.row.cell (i := 10) (by omega)
theorem EvQ.c11 (H : EvQ w eb M N no e va vd vc) : w.cell? ⟨eb, 11, none⟩ = some (.bool e.kn) := H.row.cell (i := 11) (by omega)
theorem EvQ.c12 (H : EvQ w eb M N no e va vd vc) : w.cell? ⟨eb, 12, none⟩ = some (.bool e.rd) := H.row.cell (i := 12) (by omega)
theorem EvQ.c13 (H : EvQ w eb M N no e va vd vc) : w.cell? ⟨eb, 13, none⟩ = some (.bool e.wr) := H.row.cell (i := 13) (by omega)
theorem EvQ.c14 (H : EvQ w eb M N no e va vd vc) : w.cell? ⟨eb, 14, none⟩ = some (.int .i64 e.inn) := H.row.cell (i := 14) (by omega)
theorem EvQ.c15 (H : EvQ w eb M N no e va vd vc) : w.cell? ⟨eb, 15, none⟩ = some (.int .i64 e.out) := H.row.cell (i := 15) (by omega)
theorem EvQ.c16 (H : EvQ w eb M N no e va vd vc) : w.cell? ⟨eb, 16, none⟩ = some (.bool e.ry) := H.row.cell (i := 16) (by omega)
theorem EvQ.c20 (H : EvQ w eb M N no e va vd vc) : w.cell? ⟨eb, 20, none⟩ = some va := H.row.cell (i := 20) (by omega)
theorem EvQ.c21 (H : EvQ w eb M N no e va vd vc) : w.cell? ⟨eb, 21, none⟩ = some vd := H.row.cell (i := 21) (by omega)
theorem EvQ.c22 (H : EvQ w eb M N no e va vd vc) : w.cell? ⟨eb, 22, none⟩ = some vc := H.row.cell (i := 22) (by omega)
end
end Go.Proofs.Ytchjjbcmbdmlgaa
namespace Go.Proofs.Ytchjjbcmbdmlgaa
open Go Go.RowKit
def hZ0 (pc : Int) (su : Bool) : HZ := ⟨fun _ => 0, fun _ => false, fun _ => .slice none 0 0, pc, su, .slice none 0 0, .slice none 0 0⟩
theorem zero87 : Try.zeroCells87.toList = (List.range 100).map (hF (hZ0 0 false)) := by kernel_rfl
theorem begin_cells (W : World) (pc : Int) : Hb (W.alloc (.cells ((Try.zeroCells87.setIfInBounds 96 (.int .i64 pc)).setIfInBounds 97 (.bool true)) hT)) W.heap.size hT 100 (hF (hZ0 pc true)) := by
  have hsz : Try.zeroCells87.size = 100 := by
    have := congrArg List.length zero87
    rwa [List.length_map, List.length_range, Array.length_toList] at this
  have h := Hb.new W ((Try.zeroCells87.setIfInBounds 96 (.int .i64 pc)).setIfInBounds 97 (.bool true)) hT (f := hF (hZ0 pc true)) (fun i hi => by
    have hi : i < 100 := by simpa [hsz] using hi
    by_cases e : i = 97
    · subst e
      rw [Array.getElem?_setIfInBounds_self_of_lt (by simp [hsz])]; rfl
    · rw [Array.getElem?_setIfInBounds_ne (fun h => e h.symm)]
      by_cases e2 : i = 96
      · subst e2
        rw [Array.getElem?_setIfInBounds_self_of_lt (by simp [hsz])]; rfl
      · rw [Array.getElem?_setIfInBounds_ne (fun h => e2 h.symm), ← Array.getElem?_toList, zero87, List.getElem?_map, List.getElem?_range hi]
        simp only [Option.map_some]
        unfold hF hZ0
        simp only [e, e2, if_false])
  have hs : ((Try.zeroCells87.setIfInBounds 96 (.int .i64 pc)).setIfInBounds 97 (.bool true)).size = 100 := by simp [hsz]
  rwa [hs] at h
set_option maxHeartbeats 4000000 in
set_option maxRecDepth 100000 in
theorem begin_w (qc qd qe : Option Addr) (n c nd cd ne ce k : Nat) (hk : k < ne) (w : World) (hr : RdW w w.heap.size .i64 qe ne) : Calls Try.prog 36 #[.agg #[.slice qc n c, .slice qd nd cd, .slice qe ne ce], .int .i64 k] w (fun e w' => ∃ h S, e = .returned (.pointer (some ⟨h, 0, none⟩)) ∧ w.heap.size ≤ h ∧ S.tp = .slice none 0 0 ∧ (∀ M, HtOk w' h (h :: M) 0 S) ∧ Below w.heap.size w w') := by
  have HB := hid ((Below.refl w.heap.size w).alloc (Nat.le_refl _) (.cells #[.slice qc n c, .slice qd nd cd, .slice qe ne ce] 25))
  obtain ⟨b, o, rfl, hb, hx⟩ := (hr.below HB.out) (by omega)
  obtain ⟨x, hx⟩ := hx k hk
  clear hr
  go_enter Try.func36, Try.ntmps36
  go_upto_region 2 with (fail)
  have hH : Hb ((w.alloc (.cells #[.slice qc n c, .slice qd nd cd, .slice (some ⟨b, o, none⟩) ne ce] 25)).alloc (.cells ((Try.zeroCells87.setIfInBounds 96 (.int .i64 (wrap64 (65536 + wrap64 (4 * x))))).setIfInBounds 97 (.bool true)) hT)) (w.heap.size + 1) hT 100 (hF (hZ0 (wrap64 (65536 + wrap64 (4 * x))) true)) := by
    have h1 := begin_cells (w.alloc (.cells #[.slice qc n c, .slice qd nd cd, .slice (some ⟨b, o, none⟩) ne ce] 25)) (wrap64 (65536 + wrap64 (4 * x)))
    rw [show (w.alloc (.cells #[.slice qc n c, .slice qd nd cd, .slice (some ⟨b, o, none⟩) ne ce] 25)).heap.size = w.heap.size + 1 from by simp] at h1
    exact h1
  have hB2 := HB.out.alloc HB.out.size (.cells ((Try.zeroCells87.setIfInBounds 96 (.int .i64 (wrap64 (65536 + wrap64 (4 * x))))).setIfInBounds 97 (.bool true)) hT)
  generalize (w.alloc _).alloc _ = W1 at hH hB2 ⊢
  have HH := hid (show ∃ S : HZ, S.tp = .slice none 0 0 ∧ ∀ M, HtOk W1 (w.heap.size + 1) ((w.heap.size + 1) :: M) 0 S from ⟨_, rfl, fun M => ⟨hH, fun k hk => by show isN 0; unfold isN; decide, fun k hk => LsW.nil _ _ _, LsW.nil _ _ _, List.mem_cons_self⟩⟩)
  have HB2 := hid hB2
  clear hH hB2 hx
  go_wp2
  go_loopw [6] (fun v wr => ∃ i : Nat, i ≤ 32 ∧ v = .int .i64 i ∧ (∃ S : HZ, S.tp = .slice none 0 0 ∧ ∀ M, HtOk wr (w.heap.size + 1) ((w.heap.size + 1) :: M) 0 S) ∧ Below w.heap.size w wr) (fun v _ => 32 - (intOf v).toNat)
  case atStart => exact ⟨0, by omega, rfl, HH.out, HB2.out⟩
  case round =>
    obtain ⟨i, hi, rfl, ⟨S, hS, hM⟩, hB⟩ := hrel
    have HM := hid hM
    have HB3 := hid hB
    have HS := hid hS
    clear hM hB hS
    by_cases hlt : i < 32
    · have c1 := (HM.out []).ck hlt
      have f1 := (HM.out []).row.free (32 + i)
      go_wp2
      go_roundw
      case rel => exact ⟨i + 1, by omega, by go_num, ⟨{ S with k := updF S.k i true }, HS.out, fun M => (HM.out M).putK hlt true⟩, HB3.out.setCell (p := ⟨w.heap.size + 1, 32 + i, none⟩) (Nat.le_succ _) _⟩
      case measure => simp [intOf]; omega
    · go_wp2
      go_ret
      exact ⟨_, S, rfl, Nat.le_succ _, HS.out, HM.out, HB3.out⟩
end Go.Proofs.Ytchjjbcmbdmlgaa
