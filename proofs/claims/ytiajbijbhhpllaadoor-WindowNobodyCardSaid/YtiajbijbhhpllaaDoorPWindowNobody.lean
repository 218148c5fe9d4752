/- spinnaker/spinnakerlaw19.WindowNobody: for every input the law returns true and leaves its arguments as they were. No condition. -/
import Derived.Test.YtiajbijbhhpllaaDoorK06
import Derived.Test.YtiajbijbhhpllaaDoorRows
import Derived.Test.YtiajbijbhhpllaaDoorTie
import Derived.Test.YtiajbijbhhpllaaDoorCards
import Derived.ProofKit
import Derived.OpenShut
import Derived.ShutString
import Derived.ChangeOld
import Derived.Below
import Derived.LaidMore
import Derived.Stop.Joined
import Derived.SevenTiedAt
set_option linter.unusedVariables false
set_option linter.unusedSimpArgs false
namespace Go.Proofs.YtiajbijbhhpllaaDoor.windowNobody
open Go.ChangeShapes Go.WideShapes Go.ChangeAt Go.RowKit
open Go.ChangeMaps (open_string shut_string)
theorem own : ownKnob Tryd.prog.godebug = none := by kernel_rfl
theorem laidOut : laidOutB Tryd.prog = true := by kernel_rfl
set_option maxRecDepth 100000 in
theorem door_met (os : Os) (args : Array Value) : laidMetH Tryd.prog [("spinnaker/enc.words", Rows.laid_spinnaker_enc_words), ("spinnaker/enc.fields", Rows.laid_spinnaker_enc_fields), ("spinnaker/dec.branches", Rows.laid_spinnaker_dec_branches), ("spinnaker/dec.loads", Rows.laid_spinnaker_dec_loads), ("spinnaker/dec.stores", Rows.laid_spinnaker_dec_stores), ("spinnaker/dec.immediates", Rows.laid_spinnaker_dec_immediates), ("spinnaker/dec.sums", Rows.laid_spinnaker_dec_sums), ("spinnaker/dec.others", Rows.laid_spinnaker_dec_others), ("spinnaker/dec.products", Rows.laid_spinnaker_dec_products), ("spinnaker/dec.immediatesW", Rows.laid_spinnaker_dec_immediatesW), ("spinnaker/dec.sumsW", Rows.laid_spinnaker_dec_sumsW), ("spinnaker/dec.othersW", Rows.laid_spinnaker_dec_othersW), ("spinnaker/dec.productsW", Rows.laid_spinnaker_dec_productsW)] ((World.doorLaid Tryd.prog 400 os).forCall (fun _ _ => 0) ⟨#[], args, []⟩).memory :=
  laidMetH_of_parts3 (fuel := 8) (laidMet_of_run' 8 (by kernel_rfl) (by kernel_rfl)) (by kernel_rfl) (by kernel_rfl)
set_option maxRecDepth 100000 in
theorem lifted (os : Os) (started : os.Started) (H : Type) (enc : TypeId × Value → H) :
    ReturnsInHanded {} Tryd.checked os 3 .any (fun w args => (Rows.windowNobodySpec.pre enc Tryd.prog Tryd.f3 [] false w args ∧ laidMetH Tryd.prog [("spinnaker/enc.words", Rows.laid_spinnaker_enc_words), ("spinnaker/enc.fields", Rows.laid_spinnaker_enc_fields), ("spinnaker/dec.branches", Rows.laid_spinnaker_dec_branches), ("spinnaker/dec.loads", Rows.laid_spinnaker_dec_loads), ("spinnaker/dec.stores", Rows.laid_spinnaker_dec_stores), ("spinnaker/dec.immediates", Rows.laid_spinnaker_dec_immediates), ("spinnaker/dec.sums", Rows.laid_spinnaker_dec_sums), ("spinnaker/dec.others", Rows.laid_spinnaker_dec_others), ("spinnaker/dec.products", Rows.laid_spinnaker_dec_products), ("spinnaker/dec.immediatesW", Rows.laid_spinnaker_dec_immediatesW), ("spinnaker/dec.sumsW", Rows.laid_spinnaker_dec_sumsW), ("spinnaker/dec.othersW", Rows.laid_spinnaker_dec_othersW), ("spinnaker/dec.productsW", Rows.laid_spinnaker_dec_productsW)] w) ∧ sizedMet enc Tryd.prog Tryd.f3 (OpenSpec.ofChange Rows.windowNobodySpec) false w args)
      (Rows.windowNobodySpec.post enc Tryd.prog Tryd.f3 false true false false) := by
  refine returnsInHanded_of_change_and (C := Tryd.checked) (X := fun w _ => laidMetH Tryd.prog [("spinnaker/enc.words", Rows.laid_spinnaker_enc_words), ("spinnaker/enc.fields", Rows.laid_spinnaker_enc_fields), ("spinnaker/dec.branches", Rows.laid_spinnaker_dec_branches), ("spinnaker/dec.loads", Rows.laid_spinnaker_dec_loads), ("spinnaker/dec.stores", Rows.laid_spinnaker_dec_stores), ("spinnaker/dec.immediates", Rows.laid_spinnaker_dec_immediates), ("spinnaker/dec.sums", Rows.laid_spinnaker_dec_sums), ("spinnaker/dec.others", Rows.laid_spinnaker_dec_others), ("spinnaker/dec.products", Rows.laid_spinnaker_dec_products), ("spinnaker/dec.immediatesW", Rows.laid_spinnaker_dec_immediatesW), ("spinnaker/dec.sumsW", Rows.laid_spinnaker_dec_sumsW), ("spinnaker/dec.othersW", Rows.laid_spinnaker_dec_othersW), ("spinnaker/dec.productsW", Rows.laid_spinnaker_dec_productsW)] w) (fun _ _ _ hh h => h.of_heap hh) own started (by kernel_rfl) Tryd.func3
    (ChangeSpec.witness_shaped (enc := enc) (C := Tryd.checked) (os := os) (X := fun w _ => laidMetH Tryd.prog [("spinnaker/enc.words", Rows.laid_spinnaker_enc_words), ("spinnaker/enc.fields", Rows.laid_spinnaker_enc_fields), ("spinnaker/dec.branches", Rows.laid_spinnaker_dec_branches), ("spinnaker/dec.loads", Rows.laid_spinnaker_dec_loads), ("spinnaker/dec.stores", Rows.laid_spinnaker_dec_stores), ("spinnaker/dec.immediates", Rows.laid_spinnaker_dec_immediates), ("spinnaker/dec.sums", Rows.laid_spinnaker_dec_sums), ("spinnaker/dec.others", Rows.laid_spinnaker_dec_others), ("spinnaker/dec.products", Rows.laid_spinnaker_dec_products), ("spinnaker/dec.immediatesW", Rows.laid_spinnaker_dec_immediatesW), ("spinnaker/dec.sumsW", Rows.laid_spinnaker_dec_sumsW), ("spinnaker/dec.othersW", Rows.laid_spinnaker_dec_othersW), ("spinnaker/dec.productsW", Rows.laid_spinnaker_dec_productsW)] w) false (World.doorLaid Tryd.prog 400 os) #[.agg #[.slice none 0 0, .slice none 0 0, .slice none 0 0], .int .i64 0, .int .i64 0] 8 rfl (World.shaped_of_RefB (by kernel_rfl) (by kernel_rfl)) (by kernel_rfl) (by kernel_rfl) (by kernel_rfl) (door_met os _)) ?_
  intro W base args ds gs before hval0 hW hcnd _ hL _
  have hval : ∀ (j : Nat) t v, Tryd.f3.params[j]? = some t → args[j]? = some v → Value.okWide Tryd.prog W .any base t v := hval0
  have hW' := hW
  obtain ⟨p, q, hA0, hV, rfl, hfz, hnd⟩ := hW
  have hA : DataW.TrodAll enc Tryd.prog W 0 (fun _ => true) true Tryd.f3.params.toList args.toList ds p := hA0
  rw [Tryd.params3] at hA hval
  obtain ⟨v0, vs0, d0, ds0, p0, q0, hargs, rfl, rfl, h0, r0⟩ := trodAll_cons hA
  obtain ⟨v1, vs1, d1, ds1, p1, q1, rfl, rfl, rfl, h1, r1⟩ := trodAll_cons r0
  obtain ⟨v2, vs2, d2, ds2, p2, q2, rfl, rfl, rfl, h2, r2⟩ := trodAll_cons r1
  obtain ⟨rfl, rfl, rfl⟩ := trodAll_nil r2
  obtain rfl : args = #[v0, v1, v2] := by cases args; simp_all
  obtain ⟨rfl, rfl⟩ := trodVars_none hV
  have lt0 : ∀ x ∈ p0, x.block < W.heap.size := by obtain ⟨m, hm⟩ := h0; exact DataW.trod_lt m _ _ _ hm
  have k0 := h0
  obtain ⟨a0, w0, u0⟩ := im_in (hval 0 25 v0 rfl rfl) h0
  have lt1 : ∀ x ∈ p1, x.block < W.heap.size := by obtain ⟨m, hm⟩ := h1; exact DataW.trod_lt m _ _ _ hm
  have k1 := h1
  obtain ⟨a1, hv1, hd1, hp1, w1⟩ := open_int Tryd.underlying3 (hval 1 3 v1 rfl rfl) h1
  subst hv1
  have lt2 : ∀ x ∈ p2, x.block < W.heap.size := by obtain ⟨m, hm⟩ := h2; exact DataW.trod_lt m _ _ _ hm
  have k2 := h2
  obtain ⟨a2, hv2, hd2, hp2, w2⟩ := open_int Tryd.underlying3 (hval 2 3 v2 rfl rfl) h2
  subst hv2
  clear hA0 hval0
  obtain hG := dec_of_laid hL
  refine (windowNobody_walk a0 v0 a1 a2 W hG w0 u0 w1 w2).mono fun e W' ⟨he, bel⟩ => ?_
  subst he
  exact ⟨_, rfl, _, _, _, [], _, [], hW', trodAll_mk1 (shut_bool Tryd.underlying4 _), (trodAll_cons_mk (Below.trod laidOut (by kernel_rfl) (of_decide_eq_true (by kernel_rfl)) k0 bel lt0) (trodAll_cons_mk (Below.trod laidOut (by kernel_rfl) (of_decide_eq_true (by kernel_rfl)) k1 bel lt1) (trodAll_cons_mk (Below.trod laidOut (by kernel_rfl) (of_decide_eq_true (by kernel_rfl)) k2 bel lt2) trodAll_mk0))), rfl, bel.frame _, fun h => by cases h⟩
theorem over : Rows.windowNobodyRow.holds Tryd.pinned (OpenSpec.ofChange Rows.windowNobodySpec) :=
  OpenClaim.holds_of_wide 3 Tryd.f3 rfl rfl rfl rfl rfl rfl rfl ⟨rfl, rfl, rfl, rfl, rfl⟩ rfl rfl rfl rfl rfl (by kernel_rfl) Tryd.func3 (by kernel_rfl)
    (of_decide_eq_true (by kernel_rfl)) (by unfold Func.isWrapper; first | (rw [if_pos (by decide +kernel)]; kernel_rfl) | (rw [if_neg (by decide +kernel)]; exact ⟨rfl, rfl⟩))
    (fun os started H enc _ => lifted os started H enc)
theorem proved : Rows.WindowNobodyCardSaid :=
  Claim7.holds_tied_plain_at .later [] [.data,.data,.data,.data,.data,.data,.data,.data,.data,.data,.data,.data,.data] true _ false over (fun _ h => by cases h) (by kernel_rfl) (fun _ h => by cases h) windowNobody_row_tie rfl ⟨rfl, rfl⟩ (by kernel_rfl) rfl
    (fun f fn hf hfn => by
      obtain rfl : f = 3 := Option.some.inj ((show Tryd.prog.funcNamed "spinnaker/spinnakerlaw19.WindowNobody" = some 3 by kernel_rfl).symm.trans hf) |>.symm
      obtain rfl : fn = Tryd.f3 := (Option.some.inj (Tryd.func3.symm.trans hfn)).symm
      exact ⟨by kernel_rfl, fun j t ht => by
        rw [Tryd.params3] at ht
        have hm : t ∈ [25, 3, 3] := by simpa using Array.mem_of_getElem? ht
        have hall : ([25, 3, 3].all fun u => !Tryd.prog.wantsStandIn u) = true := by kernel_rfl
        exact (show Tryd.prog.wantsStandIn t = false by simpa using List.all_eq_true.1 hall t hm)⟩)
    (by kernel_rfl)
#print axioms proved
end Go.Proofs.YtiajbijbhhpllaaDoor.windowNobody
