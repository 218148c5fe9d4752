/- Layer 16: the reference's Run: its events, as far as the laws ask for them. -/
import Derived.Test.YtchjjbcmbdmlgaaChc16
import Derived.Test.YtchjjbcmbdmlgaaK13
import Derived.Test.YtchjjbcmbdmlgaaStw16
set_option linter.unusedVariables false
set_option linter.unusedSimpArgs false
namespace Go.Proofs.Ytchjjbcmbdmlgaa
open Go Go.RowKit Sim
theorem candInfo16 : (Try.prog.info? 29).map (·.size) = some 2 := by kernel_rfl
theorem load_cand {W : World} {b : Nat} {t : TypeId} {x y : Value} (h : Hb W b t 2 (arrF #[x, y])) : (loadVar 29 ⟨b, 0, none⟩).run Try.prog W = .ok (.agg #[x, y]) W :=
  run_loadVar_mid W b 0 _ [x, y] _ (h.range (fun j hj => by
    have : j = 0 ∨ j = 1 := by simp at hj; omega
    rcases this with rfl | rfl <;> rfl) (by simp)) Try.underlying29 rfl candInfo16
theorem owns_slice16 {W : World} {B n size : Nat} {ty : TypeId} {v : Value} {xs : List Value} (h : W.ownsRow B ty size v n xs) : ∃ q c, v = .slice q n c := by
  rcases h.2 with ⟨rfl, rfl⟩ | ⟨g, cap, cur, rfl, _⟩
  · exact ⟨_, _, rfl⟩
  · exact ⟨_, _, rfl⟩
theorem load_rec_at {W : World} {b o : Nat} {r : RkA} (h : ∀ k, k < 6 → W.cell? ⟨b, o + k, none⟩ = some (arrF (rkA r) k)) : (loadVar 81 ⟨b, o, none⟩).run Try.prog W = .ok (.agg (rkA r)) W :=
  run_loadVar_mid W b o _ (rkA r).toList _ (fun j v hj => by
    have hl := (List.getElem?_eq_some_iff.1 hj).1
    have : j = 0 ∨ j = 1 ∨ j = 2 ∨ j = 3 ∨ j = 4 ∨ j = 5 := by simp at hl; omega
    rw [h j (by simpa using hl), ← hj]
    rcases this with rfl | rfl | rfl | rfl | rfl | rfl <;> rfl) Try.underlying81 rfl recInfo16
theorem st_rec {w : World} {b : Nat} {F : Nat → Value} {t : TypeId} (h : Hb w b t 6 F) (r : RkA) : (storeVar 81 ⟨b, 0, none⟩ (.agg (rkA r))).run Try.prog w = .ok () (w.setCells b 0 (rkA r).toList) :=
  run_storeVar_mid (P := Try.prog) w b 0 81 (rkA r) (h.there (by simp)) recInfo16 (by simp [Value.oneCell'])
theorem Hb.storeA {W : World} {b n : Nat} {t : TypeId} {F : Nat → Value} (h : Hb W b t n F) (a : Array Value) (hn : a.size = n) : Hb (W.setCells b 0 a.toList) b t n (arrF a) :=
  (h.sets (o := 0) (vs := a.toList)).congr fun k hk => by
    have := updR_in (F := F) (o := 0) (vs := a.toList) (j := k) (by simpa [hn] using hk)
    rw [Nat.zero_add] at this
    rw [this]; simp [arrF, Array.getD, List.getD_eq_getElem?_getD, hn, hk]
theorem load_src {W : World} {b : Nat} {t : TypeId} {r : RkA} (h : Hb W b t 6 (arrF (rkA r))) : (loadVar 43 ⟨b, 2, none⟩).run Try.prog W = .ok (.agg #[.int .i64 r.sh, .int .i64 r.sa]) W :=
  run_loadVar_mid W b 2 _ [.int .i64 r.sh, .int .i64 r.sa] _ (h.range (fun j hj => by
    have : j = 0 ∨ j = 1 := by simp at hj; omega
    rcases this with rfl | rfl <;> rfl) (by simp)) Try.underlying43 rfl refInfo16
theorem evInfoS : (Try.prog.info? 45).map (·.size) = some 23 := by kernel_rfl
theorem st_ev {w : World} {b : Nat} {F : Nat → Value} {t : TypeId} (h : Hb w b t 23 F) (e : EvZ) (q : Option Addr) (n c : Nat) (q2 : Option Addr) (n2 c2 : Nat) (q3 : Option Addr) (n3 c3 : Nat) : (storeVar 45 ⟨b, 0, none⟩ (.agg (evAr e (.slice q n c) (.slice q2 n2 c2) (.slice q3 n3 c3)))).run Try.prog w = .ok () (w.setCells b 0 (evAr e (.slice q n c) (.slice q2 n2 c2) (.slice q3 n3 c3)).toList) :=
  run_storeVar_mid (P := Try.prog) w b 0 45 (evAr e (.slice q n c) (.slice q2 n2 c2) (.slice q3 n3 c3)) (h.there (by simp)) evInfoS (by simp [Value.oneCell'])
theorem load_ev {W : World} {b : Nat} {t : TypeId} {e : EvZ} {va vd vc : Value} (h : Hb W b t 23 (evF e va vd vc)) : (loadVar 45 ⟨b, 0, none⟩).run Try.prog W = .ok (.agg (evAr e va vd vc)) W :=
  run_loadVar_mid W b 0 _ (evL e va vd vc) _ (h.range (fun j hj => by
    unfold evF
    rw [Nat.zero_add, List.getD_eq_getElem?_getD, List.getElem?_eq_getElem hj]; rfl) (by rw [evL_len]; omega)) Try.underlying45 rfl evInfoS
theorem evAr_F (e : EvZ) (va vd vc : Value) : ∀ k, k < 23 → arrF (evAr e va vd vc) k = evF e va vd vc k := lt23 ⟨rfl, rfl, rfl, rfl, rfl, rfl, rfl, rfl, rfl, rfl, rfl, rfl, rfl, rfl, rfl, rfl, rfl, rfl, rfl, rfl, rfl, rfl, rfl⟩
abbrev ev0 (no at' pc sh sa : Int) (wt : Bool) : EvZ := ⟨no, at', pc, ⟨0, 0, 0, 0, 0, false, false⟩, 0, false, false, false, 0, 0, false, sh, sa, wt⟩
abbrev nilV : Value := .slice none 0 0
def RunP (w : World) (L : Nat → Nat) (nh : Nat) : Ending → World → Prop := fun x w' => ∃ vo vt k, x = .returned (.tuple #[vo, vt, .int .i64 k]) ∧ Below w.heap.size w w' ∧ ∃ n E, EvsOk w' vo n E ∧ n ≤ sumN16 L nh ∧ (n = 0 ∨ (nh ≤ 8 ∧ ∀ j, j < nh → L j ≤ 1024))
theorem RunP.bad {w w' : World} {L : Nat → Nat} {nh : Nat} {k : Int} (hB : Below w.heap.size w w') : RunP w L nh (.returned (.tuple #[.slice none 0 0, .slice none 0 0, .int .i64 k])) w' := ⟨_, _, _, rfl, hB, 0, ⟨fun _ => ⟨0, 0, 0, ⟨0, 0, 0, 0, 0, false, false⟩, 0, false, false, false, 0, 0, false, 0, 0, false⟩, fun _ => undef, fun _ => undef, fun _ => undef⟩, EvsOk.empty _ _, Nat.zero_le _, .inl rfl⟩
set_option maxHeartbeats 8000000 in
set_option maxRecDepth 100000 in
theorem run_w (qc qd qe qh qr : Option Addr) (nc cc nd cd ne ce nh ch nr cr : Nat) (L : Nat → Nat) (hn : nc ≤ maxLen) (w : World) (hcode : RdW w w.heap.size .u32 qc nc) (hent : RdW w w.heap.size .i64 qe ne) (hc : CdW w w.heap.size qh nh qr nr) (hN : CdN w w.heap.size qh nh L) :
    Calls Try.prog 17 #[.agg #[.slice qc nc cc, .slice qd nd cd, .slice qe ne ce], .agg #[.slice qh nh ch, .slice qr nr cr]] w (RunP w L nh) := by
  obtain ⟨ei, ez, hei1, hei2, hei3, hei4, hei5⟩ := info_three evInfo16
  obtain ⟨li, lz, hli1, hli2, hli3, hli4, hli5⟩ := info_three liInfo16
  have HEI := hid (And.intro hei1 (And.intro hei2 (And.intro hei3 (And.intro hei4 hei5))))
  have HLI := hid (And.intro hli1 (And.intro hli2 (And.intro hli3 (And.intro hli4 hli5))))
  clear hei1 hei2 hei3 hei4 hei5 hli1 hli2 hli3 hli4 hli5
  have HB0 := hid (((Below.refl w.heap.size w).alloc (Nat.le_refl _) (.cells #[.slice qc nc cc, .slice qd nd cd, .slice qe ne ce] 25)).alloc (by simp) (.cells #[.slice qh nh ch, .slice qr nr cr] 29))
  have H2 := hid ((Hb.arr w #[.slice qc nc cc, .slice qd nd cd, .slice qe ne ce] 25).alloc (.cells #[.slice qh nh ch, .slice qr nr cr] 29))
  have h3 := Hb.arr (w.alloc (.cells #[.slice qc nc cc, .slice qd nd cd, .slice qe ne ce] 25)) #[.slice qh nh ch, .slice qr nr cr] 29
  rw [World.size_alloc] at h3
  have H3 := hid h3
  have HS0 : Hid (w.heap.size + 2 ≤ ((w.alloc (.cells #[.slice qc nc cc, .slice qd nd cd, .slice qe ne ce] 25)).alloc (.cells #[.slice qh nh ch, .slice qr nr cr] 29)).heap.size) := hid (by simp)
  have hml : maxLen = 9223372036854775807 := rfl
  have Hn := hid hn
  have Hc := hid hc
  have HN := hid hN
  have HC := hid hcode
  have HE := hid hent
  clear h3 hcode hent hc hN hml hn
  go_enter Try.func17, Try.ntmps17
  go_upto_region 1 with (fail)
  generalize (w.alloc _).alloc _ = W0 at HB0 H2 H3 HS0 ⊢
  have up : ∀ {k : IntKind} {q : Option Addr} {n : Nat} {W : World}, RdW w w.heap.size k q n → Below w.heap.size w W → RdW W W.heap.size k q n := fun h hB hp => by
    obtain ⟨b, o, e1, h1, h2⟩ := (h.below hB) hp
    exact ⟨b, o, e1, Nat.lt_of_lt_of_le h1 hB.size, h2⟩
  have Hup := hid (fun (k : IntKind) (q : Option Addr) (n : Nat) (W : World) => @up k q n W)
  have h8 := hid (check8_w qc qd qe nc cc nd cd ne ce Hn.out W0 (up HE.out HB0.out))
  have i0 := load_image H2.out
  clear up
  go_upto_region 2 with (first
    | (go_at_call 34; refine h8.out.mono ?_; rintro x W1 ⟨k, rfl, hk, hB⟩; have HB1 := hid (HB0.out.trans (hB.mono HB0.out.size)); have H21 := hid (H2.out.below hB H2.out.lt); have H31 := hid (H3.out.below hB H3.out.lt); have HS1 := hid (Nat.le_trans HS0.out hB.size); have Hk := hid hk; clear hB hk)
    | (refine wp_ld_of rfl _ _ rfl rfl i0 ?_))
  clear i0 h8 H2 H3 HB0 HS0
  by_cases g0 : k = 0
  case neg =>
    have g0 : (k == 0) = false := by simpa using g0
    go_wp2
    go_ret3
    exact RunP.bad HB1.out
  case pos =>
    subst g0
    obtain ⟨hnc, hnd, hne⟩ := Hk.out rfl
    have s0 : W1.cell? ⟨w.heap.size + 1, 0, none⟩ = some (.slice qh nh ch) := H31.out.cell (i := 0) (by simp)
    have s2 : W1.cell? ⟨w.heap.size, 2, none⟩ = some (.slice qe ne ce) := H21.out.cell (i := 2) (by simp)
    by_cases g1 : nh = ne
    case neg =>
      have g1 : ((nh : Int) == (ne : Int)) = false := by simp; omega
      go_wp2
      go_ret3
      exact RunP.bad HB1.out
    case pos =>
      subst g1
      have j0 := load_cand H31.out
      have h13 := hid (check13_w qh qr nh ch nr cr W1 ((Hc.out.below HB1.out).grow HB1.out.size))
      go_upto_region 7 with (first
        | (go_at_call 35; refine h13.out.mono ?_; rintro x W2 ⟨k, rfl, hk, hB⟩; have HB2 := hid (HB1.out.trans (hB.mono HB1.out.size)); have H22 := hid (H21.out.below hB H21.out.lt); have H32 := hid (H31.out.below hB H31.out.lt); have HS2 := hid (Nat.le_trans HS1.out hB.size); have Hk' := hid hk; clear hB hk)
        | (refine wp_ld_of rfl _ _ rfl rfl j0 ?_))
      have HN1 := hid (HN.out.below HB1.out)
      clear j0 h13 s0 s2 H21 H31 HB1 HS1
      by_cases g0 : k = 0
      case neg =>
        have g0 : (k == 0) = false := by simpa using g0
        go_wp2
        go_ret3
        exact RunP.bad HB2.out
      case pos =>
        subst g0
        obtain ⟨hnh, hlen⟩ := Hk'.out rfl
        have HL : Hid (∀ j, j < nh → L j ≤ 1024) := hid fun j hj => by
          obtain ⟨b, o, e1, hb, hx⟩ := HN1.out (by omega)
          obtain ⟨q, c, e2, _⟩ := hx j hj
          exact hlen b o e1 j hj q (L j) c e2
        have Hnh := hid hnh
        have Hnc := hid hnc
        have Hnd := hid hnd
        clear hnh hlen hnc hnd
        clear HN1
        go_upto_block 0 with (fail)
        go_wp2
        go_loopw [9, 10, 11] (fun vo vt vn wr => ∃ (no m : Nat) (M : List Nat) (E : EvsZ) (uo ut : Value), no ≤ nh ∧ vo = uo ∧ vt = ut ∧ vn = .int .i64 no ∧ RnJ w wr #[.slice qc nc cc, .slice qd nd cd, .slice qe nh ce] #[.slice qh nh ch, .slice qr nr cr] M E uo ut m no no ∧ m ≤ sumN16 L no) (fun _ _ vn _ => nh - (intOf vn).toNat)
        case atStart =>
          refine ⟨0, 0, [], ⟨fun _ => ⟨0, 0, 0, ⟨0, 0, 0, 0, 0, false, false⟩, 0, false, false, false, 0, 0, false, 0, 0, false⟩, fun _ => undef, fun _ => undef, fun _ => undef⟩, _, _, Nat.zero_le _, rfl, rfl, rfl, ⟨HB2.out, H22.out, H32.out, World.ownsRow_nil _ _ _ _, ⟨[], World.ownsRow_nil _ _ _ _⟩, ?_, ?_, ?_, ?_, ?_, ?_, ?_, HS2.out⟩, Nat.zero_le _⟩
          all_goals simp [Value.ownBlock]
        case round =>
          obtain ⟨no, m, M, E, uo, ut, hno, rfl, rfl, rfl, hJ, hm⟩ := hrel
          have J := hid hJ
          have Hm := hid hm
          clear hJ hm
          have s0 : wr.cell? ⟨w.heap.size + 1, 0, none⟩ = some (.slice qh nh ch) := J.out.b3.cell (i := 0) (by simp)
          by_cases hlt : no < nh
          case neg =>
            obtain rfl : no = nh := by omega
            obtain ⟨q, c, e1⟩ := owns_slice16 J.out.own
            obtain ⟨ys, hy⟩ := J.out.tap
            obtain ⟨q', c', e2⟩ := owns_slice16 hy
            have Je := hid J.out.evs
            rw [e1] at Je ⊢
            rw [e2]
            clear e1 e2 hy
            go_wp2
            go_ret3
            exact ⟨_, _, _, rfl, J.out.bel, _, _, Je.out, Hm.out, .inr ⟨Hnh.out, HL.out⟩⟩
          case pos =>
            have i0 := load_image J.out.b2
            have hbg := hid (begin_w qc qd qe nc cc nd cd nh ce no hlt wr (Hup.out _ _ _ _ HE.out J.out.bel))
            go_upto_block 2 with (first
              | (go_at_call 36; refine hbg.out.mono ?_; rintro x W3 ⟨h, S, rfl, hh, htp, hH, hB⟩; have HH := hid hH; have HB3 := hid hB; have Htp := hid htp; have Hhh := hid hh; clear hH hB htp hh)
              | (refine wp_ld_of rfl _ _ rfl rfl i0 ?_))
            have hsum : sumN16 L no ≤ 8192 := by
              have h1 := sumN16_le L 1024 no fun j hj => HL.out j (by omega)
              have h2 := Hnh.out
              omega
            have hLno : L no ≤ 1024 := HL.out no hlt
            have J3 : Hid (RnJ w W3 #[.slice qc nc cc, .slice qd nd cd, .slice qe nh ce] #[.slice qh nh ch, .slice qr nr cr] (h :: M) E u9 u10 m no no) := hid (J.out.fr (T := []) (Fr.of_below HB3.out) (by simp) (by simp) (by simp) (fun k hk => List.mem_cons_of_mem _ hk) (fun k hk => by
              rcases List.mem_cons.1 hk with rfl | hk
              · exact .inr Hhh.out
              · exact .inl hk) (fun x hx => by
              rcases List.mem_cons.1 hx with rfl | hx
              · exact (HH.out []).row.lt
              · exact Nat.lt_of_lt_of_le (J.out.lt x hx) HB3.out.size))
            have HT3 : Hid (HtT W3 h (h :: M) m w.heap.size 0 S) := hid ⟨(HH.out M).mono (Nat.zero_le _), ⟨[], by rw [Htp.out]; exact World.ownsRow_nil _ _ _ _⟩, J3.out.bel.size, by omega, (by rw [Htp.out]; intro b hb; cases hb), J3.out.lt, by have := Hm.out; omega⟩
            clear HB3 HH Htp Hhh hbg i0 s0
            have hsz2 := hid hsum
            have hL2 := hid hLno
            clear hsum hLno
            go_wp2
            go_loopw [9, 13] (fun vo va wr => ∃ (at' m' n : Nat) (M' : List Nat) (E' : EvsZ) (uo : Value) (S' : HZ), at' ≤ L no ∧ vo = uo ∧ va = .int .i64 at' ∧ RnJ w wr #[.slice qc nc cc, .slice qd nd cd, .slice qe nh ce] #[.slice qh nh ch, .slice qr nr cr] M' E' uo u10 m' no no ∧ m' ≤ sumN16 L no + at' ∧ HtT wr h M' m' w.heap.size n S' ∧ n ≤ at') (fun _ va _ => L no - (intOf va).toNat)
            case atStart => exact ⟨0, m, 0, _, _, _, _, Nat.zero_le _, rfl, rfl, J3.out, by have := Hm.out; omega, HT3.out, Nat.le_refl _⟩
            case round =>
              clear J3 HT3 J Hm
              obtain ⟨at', m, n, M', E', uo, S', hat, rfl, rfl, hJ, hm, hT, hn⟩ := hrel
              have J := hid hJ
              have T := hid hT
              have Hm := hid hm
              have Hn' := hid hn
              clear hJ hT hm hn
              have s0 : wr.cell? ⟨w.heap.size + 1, 0, none⟩ = some (.slice qh nh ch) := J.out.b3.cell (i := 0) (by simp)
              obtain ⟨bh, oh, rfl, hbh, hxh⟩ := (HN.out.below J.out.bel) (by omega)
              obtain ⟨qx, cx, s1, hlx, hrx⟩ := hxh no hlt
              have Hrx := hid hrx
              have Hlx := hid hlx
              clear hxh hrx hbh hlx
              by_cases hlt2 : at' < L no
              case neg =>
                have c99 := T.out.ok.ctp
                obtain ⟨zs, hz⟩ := T.out.own
                obtain ⟨tq, tc, et⟩ := owns_slice16 hz
                rw [et] at c99
                clear hz et
                go_upto_region 24 with (fail)
                obtain ⟨ys, hy⟩ := J.out.tap
                obtain ⟨hli1, hli2, hli3, hli4, hli5⟩ := HLI.out
                have hB5 : Below wr.heap.size wr (wr.alloc (.cells #[.slice tq n tc] 23)) := (Below.refl _ wr).alloc (Nat.le_refl _) _
                have J5 := hid (J.out.same hB5)
                have hnh8 := Hnh.out
                have hbs := J.out.bel.size
                clear hB5
                go_wp2_with (refine wpList_append_fresh rfl _ _ 49 rfl w.heap.size 23 li lz 1 24 Try.underlying49 hli1 hli2 hli3 hli4 hli5 (by decide) u10 no ys rfl (hy.alloc _) ⟨wr.heap.size, 0, none⟩ 1 1 [.slice tq n tc] rfl rfl (cell_one_new _ _ _) (by simp [Value.oneCell']) (by unfold maxLen; omega) (by omega) (by simp; omega) ?_; intro vt' W6 ho6 hg6 hn6; have J6 := hid ((J5.out.tape ho6 hg6 hn6 (fun b hb hb2 => J5.out.apart b hb2 hb)).next (Nat.le_succ no)); clear ho6 hg6 hn6)
                go_roundw
                case rel => exact ⟨no + 1, m, _, _, _, _, by omega, rfl, rfl, by go_num, J6.out, by have := Hm.out; show m ≤ sumN16 L no + L no; omega⟩
                case measure => simp [intOf]; omega
              case pos =>
                obtain ⟨b', o', rfl, hb', hx'⟩ := Hrx.out (by omega)
                obtain ⟨⟨pc, val, sh, sa, wt, fl⟩, hval, hcr⟩ := hx' at' hlt2
                have r0 := load_rec_at hcr
                have HX0 := hid (Hb.arr wr (rkA ⟨0, 0, 0, 0, false, false⟩) 81)
                have Hval := hid hval
                have hL1 := hL2.out
                have hlL := Hlx.out
                clear hx' hcr hb' hval
                go_upto_region 19 with (first
                  | (refine wp_ld_of rfl _ _ rfl rfl r0 ?_)
                  | (refine wp_st_of rfl _ _ _ rfl rfl rfl (st_rec HX0.out ⟨pc, val, sh, sa, wt, fl⟩) ?_))
                have hB4 : Below wr.heap.size wr ((wr.alloc (.cells (rkA ⟨0, 0, 0, 0, false, false⟩) 81)).setCells wr.heap.size 0 (rkA ⟨pc, val, sh, sa, wt, fl⟩).toList) := (Fr.sets (T := []) (.inl (Nat.le_refl _)) _ _ ((Fr.refl [] wr).alloc _)).to_below
                have HX := hid (HX0.out.storeA (rkA ⟨pc, val, sh, sa, wt, fl⟩) rfl)
                have J4 := hid (J.out.same hB4)
                have T4 := hid (T.out.same hB4)
                have HXn : Hid (wr.heap.size ∉ M') := hid fun hm => by have := J.out.lt _ hm; omega
                have HXs : Hid (w.heap.size + 2 ≤ wr.heap.size) := hid J.out.sz
                clear hB4 HX0 J T s0 s1 r0
                generalize (wr.alloc (.cells (rkA ⟨0, 0, 0, 0, false, false⟩) 81)).setCells wr.heap.size 0 (rkA ⟨pc, val, sh, sa, wt, fl⟩).toList = W4 at HX J4 T4 ⊢
                obtain ⟨xb, hxb⟩ : ∃ b, b = wr.heap.size := ⟨_, rfl⟩
                rw [← hxb] at HX HXn HXs ⊢
                clear hxb
                simp only [Act.put]
                have x0 : W4.cell? ⟨xb, 0, none⟩ = some (.int .i64 pc) := HX.out.cell (i := 0) (by simp)
                have x4 : W4.cell? ⟨xb, 4, none⟩ = some (.bool wt) := HX.out.cell (i := 4) (by simp)
                have x2 := load_src HX.out
                have HE0 := hid (Hb.arr W4 (evAr (ev0 0 0 0 0 0 false) nilV nilV nilV) evT)
                go_upto_region 20 with (first
                  | (refine wp_ld_of rfl _ _ rfl rfl x2 ?_)
                  | (refine wp_st_of rfl _ _ _ rfl rfl rfl (st_ev HE0.out (ev0 no at' pc sh sa wt) none 0 0 none 0 0 none 0 0) ?_))
                have HE5 := hid ((HE0.out.storeA (evAr (ev0 no at' pc sh sa wt) nilV nilV nilV) rfl).congr (g := evF (ev0 no at' pc sh sa wt) nilV nilV nilV) (evAr_F _ _ _ _))
                have hB5 : Below W4.heap.size W4 ((W4.alloc (.cells (evAr (ev0 0 0 0 0 0 false) nilV nilV nilV) evT)).setCells W4.heap.size 0 (evAr (ev0 no at' pc sh sa wt) nilV nilV nilV).toList) := (Fr.sets (T := []) (.inl (Nat.le_refl _)) _ _ ((Fr.refl [] W4).alloc _)).to_below
                have HX5 := hid (HX.out.below hB5 HX.out.lt)
                have HB5 := hid hB5
                clear HX HE0 x0 x4 x2 hB5
                generalize (W4.alloc (.cells (evAr (ev0 0 0 0 0 0 false) nilV nilV nilV) evT)).setCells W4.heap.size 0 (evAr (ev0 no at' pc sh sa wt) nilV nilV nilV).toList = W5 at HE5 HX5 HB5 ⊢
                have hM1l : ∀ x, x ∈ W4.heap.size :: M' → x < W5.heap.size := fun x hx => by
                  rcases List.mem_cons.1 hx with rfl | hx
                  · exact HE5.out.lt
                  · exact Nat.lt_of_lt_of_le (J4.out.lt x hx) HB5.out.size
                have hM1 : ∀ k, k ∈ W4.heap.size :: M' → k ∈ M' ∨ W4.heap.size ≤ k := fun k hk => by
                  rcases List.mem_cons.1 hk with rfl | hk
                  · exact .inr (Nat.le_refl _)
                  · exact .inl hk
                have J5 := hid (J4.out.fr (T := []) (Fr.of_below HB5.out) (by simp) (by simp) (by simp) (fun k hk => List.mem_cons_of_mem _ hk) hM1 hM1l)
                have hsum := hsz2.out
                have hm5 := Hm.out
                have T5 := hid ((T4.out.frM (T := []) (Fr.of_below HB5.out) (by simp) (by simp) (by simp) (fun k hk => List.mem_cons_of_mem _ hk) hM1 hM1l).mono (Nat.le_succ m) (by omega))
                have hne5 : h ≠ W4.heap.size := fun he => by have := J4.out.lt h T4.out.ok.inn; omega
                obtain ⟨eb, heb⟩ : ∃ b, b = W4.heap.size := ⟨_, rfl⟩
                have He4 : Hid (∀ b, b ∈ M' → b < eb) := hid (by rw [heb]; exact J4.out.lt)
                have HVo := hid (fun b hb => He4.out b (J4.out.oin b hb))
                rw [← heb] at HE5 J5 T5 hne5 hM1l ⊢
                clear hM1 HB5 J4 T4 heb
                have E5 : Hid (EvQ W5 eb (eb :: M') (m + 1) no (ev0 no at' pc sh sa wt) nilV nilV nilV) := hid ⟨HE5.out, rfl, (fun h => by cases h), (fun h => by cases h), LsW.nil _ _ _, LsW.nil _ _ _, LsW.nil _ _ _, List.mem_cons_self⟩
                have HSt := hid (step_w m T5.out E5.out hne5 qc qd nc cc nd cd (.slice qe nh ce) Hnc.out Hnd.out (Hup.out _ _ _ _ HC.out J5.out.bel) pc val sh sa wt fl Hval.out)
                obtain ⟨q9, c9, e9⟩ := owns_slice16 J5.out.own
                subst e9
                have i5 := load_image J5.out.b2
                have r5 := load_rec HX5.out
                clear HE5 HX5
                go_upto_region 21 with (first
                  | (refine wp_ld_of rfl _ _ rfl rfl i5 ?_)
                  | (refine wp_ld_of rfl _ _ rfl rfl r5 ?_)
                  | (go_at_call 37; refine HSt.out.mono ?_; rintro x W6 ⟨k, rfl, hS⟩; have HS := hid hS; clear hS))
                have hn5 := Hn'.out
                obtain ⟨S6, n6, e6, va, vd, vc, hT6, hE6, hn6, hF6, hM6⟩ := HS.out.take (List.mem_cons_of_mem _ (by
                  have h1 := T5.out.ok.inn
                  rcases List.mem_cons.1 h1 with h2 | h2
                  · exact absurd h2 hne5
                  · exact h2)) List.mem_cons_self hM1l J5.out.bel.size (by omega) (by omega)
                have hTin : ∀ k, k ∈ h :: eb :: ownL S'.tp → k ∈ eb :: M' := fun k hk => by
                  rcases List.mem_cons.1 hk with rfl | hk
                  · exact T5.out.ok.inn
                  · rcases List.mem_cons.1 hk with rfl | hk
                    · exact List.mem_cons_self
                    · exact T5.out.inn _ (mem_ownL.1 hk)
                obtain ⟨zs5, hz5⟩ := T5.out.own
                obtain ⟨ys5, hy5⟩ := J5.out.tap
                have J6 := hid (J5.out.fr hF6 (fun k hk => .inl (hTin k hk)) (fun b hb hm => by
                  rcases List.mem_cons.1 hm with rfl | hm
                  · exact own_ne J5.out.own T5.out.ok.row (by decide) hb
                  · rcases List.mem_cons.1 hm with rfl | hm
                    · have := HVo.out _ hb; omega
                    · exact owns_ne2 J5.out.own hz5 (by decide) b hb (mem_ownL.1 hm)) (fun b hb hm => by
                  rcases List.mem_cons.1 hm with rfl | hm
                  · exact own_ne hy5 T5.out.ok.row (by decide) hb
                  · rcases List.mem_cons.1 hm with rfl | hm
                    · exact own_ne hy5 E5.out.row (by decide) hb
                    · exact owns_ne2 hy5 hz5 (by decide) b hb (mem_ownL.1 hm)) (fun k hk => List.mem_append_left _ hk) hM6 hT6.lt)
                have T6 := hid hT6
                have E6 := hid hE6
                have Hn6 := hid hn6
                clear hT6 hE6 hn6 hF6 hM6 hTin hz5 hy5 i5 r5 HSt HS J5 T5 E5 hM1l
                by_cases g0 : k = 0
                case neg =>
                  have g0 : (k == 0) = false := by simpa using g0
                  go_wp2
                  go_ret3
                  exact RunP.bad J6.out.bel
                case pos =>
                  subst g0
                  obtain ⟨qa, na, ca, Fa, ea, _⟩ := id E6.out.la
                  obtain ⟨qd', nd', cd', Fd, ed, _⟩ := id E6.out.ld
                  obtain ⟨qc', nc', cc', Fc, ec, _⟩ := id E6.out.lc
                  subst ea ed ec
                  obtain ⟨hei1, hei2, hei3, hei4, hei5⟩ := HEI.out
                  have v6 := load_ev E6.out.row
                  have hB7 : Below W6.heap.size W6 (W6.alloc (.cells (evAr e6 (.slice qa na ca) (.slice qd' nd' cd') (.slice qc' nc' cc')) evT)) := (Below.refl _ W6).alloc (Nat.le_refl _) _
                  have J7 := hid (J6.out.same hB7)
                  have T7 := hid (T6.out.same hB7)
                  have G7 : Hid (EvG (W6.alloc (.cells (evAr e6 (.slice qa na ca) (.slice qd' nd' cd') (.slice qc' nc' cc')) evT)) (eb :: M' ++ ownL S6.tp) (m + 1) e6 (.slice qa na ca) (.slice qd' nd' cd') (.slice qc' nc' cc')) := hid ⟨E6.out.kn, E6.out.fe, E6.out.la.same hB7, E6.out.ld.same hB7, E6.out.lc.same hB7⟩
                  have Hh7 := hid E6.out.ht
                  have ho7 := J7.out.own
                  have hb7 : w.heap.size ≤ (W6.alloc (.cells (evAr e6 (.slice qa na ca) (.slice qd' nd' cd') (.slice qc' nc' cc')) evT)).heap.size := J7.out.bel.size
                  have hnew : ∀ j u, (evL e6 (.slice qa na ca) (.slice qd' nd' cd') (.slice qc' nc' cc'))[j]? = some u → (W6.alloc (.cells (evAr e6 (.slice qa na ca) (.slice qd' nd' cd') (.slice qc' nc' cc')) evT)).cell? ((⟨W6.heap.size, 0, none⟩ : Addr).add j) = some u := fun j u hj => by
                    have hl : j < 23 := (List.getElem?_eq_some_iff.1 hj).1
                    have h1 := evA_box W6 e6 (.slice qa na ca) (.slice qd' nd' cd') (.slice qc' nc' cc') j hl
                    rw [Addr.add_mid, h1]
                    unfold evF
                    rw [List.getD_eq_getElem?_getD, hj]; rfl
                  have hone : ∀ u ∈ evL e6 (.slice qa na ca) (.slice qd' nd' cd') (.slice qc' nc' cc'), u.oneCell' = true := by simp [evL, Value.oneCell']
                  go_upto_region 17 with (first
                    | (refine wp_ld_of rfl _ _ rfl rfl v6 ?_)
                    | (refine wpList_append_fresh rfl _ _ 30 rfl w.heap.size evT ei ez 23 208 Try.underlying30 hei1 hei2 hei3 hei4 hei5 (by decide) _ m _ rfl ho7 ⟨W6.heap.size, 0, none⟩ 1 1 (evL e6 (.slice qa na ca) (.slice qd' nd' cd') (.slice qc' nc' cc')) rfl rfl hnew hone (by unfold maxLen; omega) (by omega) hb7 ?_; intro vo' W8 ho8 hg8 hn8; have Ho8 := hid ho8; have Hg8 := hid hg8; have Hn8 := hid hn8; clear ho8 hg8 hn8))
                  obtain ⟨zs7, hz7⟩ := T7.out.own
                  have J8 := hid (J7.out.push Ho8.out Hg8.out Hn8.out G7.out Hh7.out J7.out.apart)
                  have hf8 : Fr (ownL (.slice q9 m c9)) (W6.alloc (.cells (evAr e6 (.slice qa na ca) (.slice qd' nd' cd') (.slice qc' nc' cc')) evT)) W8 := ⟨Hg8.out.os, Hg8.out.tape, Hg8.out.output, Hg8.out.size, fun k hk hn => Hg8.out.block k hk fun e => hn (mem_ownL.2 e.symm)⟩
                  have T8 := hid (T7.out.frM hf8 (fun hm => own_ne J7.out.own T7.out.ok.row (by decide) (mem_ownL.1 hm)) (fun k hk => .inl (J7.out.oin k (mem_ownL.1 hk))) (fun b hb hm => owns_ne2 J7.out.own hz7 (by decide) b (mem_ownL.1 hm) hb) (fun k hk => List.mem_append_left _ hk) (fun k hk => by
                    rcases List.mem_append.1 hk with h1 | h1
                    · exact .inl h1
                    · rcases Hn8.out k (mem_ownL.1 h1) with h2 | h2
                      · exact .inl (J7.out.oin k h2)
                      · exact .inr h2) J8.out.lt)
                  clear hf8 hz7 J7 T7 G7 Hh7 ho7 hb7 hnew hone v6 Ho8 Hg8 Hn8 J6 T6 E6
                  go_wp2
                  go_roundw
                  case rel => exact ⟨at' + 1, m + 1, n6, _, _, _, _, by omega, rfl, by go_num, J8.out, by omega, T8.out, by have := Hn6.out; omega⟩
                  case measure => simp [intOf]; omega
end Go.Proofs.Ytchjjbcmbdmlgaa
