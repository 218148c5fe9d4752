/- Layer 13: the laws' walks: CandSame. -/
import Derived.Test.YtmaffamhjmlonaaOpen13
import Derived.Test.YtmaffamhjmlonaaLaw13D
import Derived.Test.YtmaffamhjmlonaaCloF13
import Derived.Test.YtmaffamhjmlonaaPSam13
set_option linter.unusedVariables false
set_option linter.unusedSimpArgs false
namespace Go.Proofs.Ytmaffamhjmlonaa
open Go Go.RowKit Sim S2
theorem pCS_ok {gl : Gl} : PTabOk Try.prog gl (pCS gl) := .row decCC_eq fun x h w hG => by
 obtain ⟨h1, h2, h3⟩ := propB_ok.mp h
 exact same_ret x.1 x.2 h1 h2 h3 w hG
structure CnSz (gl : Gl) (c : Cn) : Prop where
 h0 : c.ha = none -> c.hn = 0 /\ c.hc = 0
 r0 : c.ra = none -> c.rn = 0 /\ c.rc = 0
 hv : ∀ i, i < c.hn -> lenV (c.hv gl i) * 40 <= 140737488355328 /\ (adrV (c.hv gl i) = none -> c.hv gl i = .slice none 0 0)
 rv : ∀ i, i < c.rn -> lenV (c.rv gl i) * 16 <= 140737488355328 /\ (adrV (c.rv gl i) = none -> c.rv gl i = .slice none 0 0)
theorem cnFit_of {gl : Gl} {c : Cn} (hc : CnOk gl c) (hs : CnSz gl c) (h1 : c.hn <= 20) (h2 : c.rn <= 200) : CnFit gl c := by
 refine ⟨by omega, by omega, ⟨hc.hs, by show c.hn * 24 <= _; omega, fun h => ?_⟩, ⟨hc.rw, by show c.rn * 32 <= _; omega, fun h => ?_⟩, fun i hi => ⟨hc.rc i hi, (hs.hv i hi).1, (hs.hv i hi).2⟩, fun i hi => ⟨hc.rf i hi, (hs.rv i hi).1, (hs.rv i hi).2⟩⟩
 . have h : c.ha = none := h
   obtain ⟨k1, k2⟩ := hs.h0 h
   rw [h, k1, k2]
 . have h : c.ra = none := h
   obtain ⟨k1, k2⟩ := hs.r0 h
   rw [h, k1, k2]
theorem CnSz.keep {W w : World} (hb : Below W.heap.size W w) {c : Cn} (hc : CnOk (frz W) c) (hs : CnSz (frz W) c) : CnSz (frz w) c :=
 ⟨hs.h0, hs.r0, fun i hi => by rw [hv_keep hb hc hi]; exact hs.hv i hi, fun i hi => by rw [rv_keep hb hc hi]; exact hs.rv i hi⟩
theorem csH {W : World} {c b : Cn} (hc : CnOk (frz W) c) (hb : CnOk (frz W) b) (sc : CnSm (frz W) c) (hs : CnSz (frz W) c) (hl : lrgZ (frz W) c = false) : CsH W c b :=
 ⟨hc, hb, sc, awake_ret, fun gl => pCS_ok, fun w hbl => clone_calls (hc.keep hbl) (sc.keep hbl hc) (cnFit_of (hc.keep hbl) (hs.keep hbl hc) (lrg_few hl).1 (lrg_few hl).2)⟩
theorem candSame_walk (c b : Cn) (v u : Value) (w : World) (hv : v = cnV c) (hu : u = cnV b) (h : CnOk (frz w) c /\ CnSm (frz w) c /\ CnSz (frz w) c) (k : CnOk (frz w) b) : Ret Try.prog 5 #[v, u] (.bool true) w := by
 subst hv
 subst hu
 exact LRet.plain (candSame_ret h.1 k awake_ret fun hl _ => csH h.1 k h.2.1 h.2.2 hl)
end Go.Proofs.Ytmaffamhjmlonaa
