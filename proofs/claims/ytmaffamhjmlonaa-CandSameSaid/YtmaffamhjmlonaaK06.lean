/- Twice13, Check13, CheckF13. -/
import Derived.Test.YtmaffamhjmlonaaSame13
import Derived.Test.YtmaffamhjmlonaaSameF13
set_option linter.unusedVariables false
set_option linter.unusedSimpArgs false
namespace Go.Proofs.Ytmaffamhjmlonaa
open Go.RowKit Sim S2
noncomputable def tw1 (gl : Gl) (c : Cn) (r : Rf) (w a i k : Nat) : Bool := !((decide ((i : Int) < (w : Int)) || decide ((k : Int) < (a : Int))) && ((rfG gl (c.rv gl i) k).h == r.h && ((rfG gl (c.rv gl i) k).a == r.a && true)))
noncomputable def tw2 (gl : Gl) (c : Cn) (r : Rf) (w a i : Nat) : Bool := Nat.beq (skipN (tw1 gl c r w a i) (lenV (c.rv gl i)) 0) (lenV (c.rv gl i))
noncomputable def twB (gl : Gl) (c : Cn) (w a : Nat) : Bool := !Nat.beq (skipN (tw2 gl c (rfG gl (c.rv gl w) a) w a) (w + 1) 0) (w + 1)
theorem twZ_ex : ∃ f : Gl -> Cn -> Int -> Int -> Bool, ∀ gl c w a, f gl c w a = twB gl c w.toNat a.toNat := ⟨_, fun _ _ _ _ => rfl⟩
noncomputable def twiZ : Gl -> Cn -> Int -> Int -> Bool := Classical.choose twZ_ex
theorem twiZ_eq (gl : Gl) (c : Cn) (w a : Int) : twiZ gl c w a = twB gl c w.toNat a.toNat := Classical.choose_spec twZ_ex gl c w a
end Go.Proofs.Ytmaffamhjmlonaa
namespace Go.Proofs.Ytmaffamhjmlonaa
open Go.RowKit Sim S2
noncomputable def ck1 (gl : Gl) (c : Cn) (i : Nat) : Bool := (bif decide (((lenV (c.hv gl i) : Nat) : Int) > 1024) then false else true)
noncomputable def ck3B (gl : Gl) (c : Cn) (i k : Nat) : Bool := (bif (rcG gl (c.hv gl i) k).sh == -1 then (bif (rcG gl (c.hv gl i) k).wt then (bif (rcG gl (c.hv gl i) k).fl then false else (bif !(rcG gl (c.hv gl i) k).sa == 0 then (bif !thZ gl c (rcG gl (c.hv gl i) k).sh (rcG gl (c.hv gl i) k).sa then false else true) else true)) else (bif !(rcG gl (c.hv gl i) k).sa == 0 then (bif !thZ gl c (rcG gl (c.hv gl i) k).sh (rcG gl (c.hv gl i) k).sa then false else true) else true)) else (bif (rcG gl (c.hv gl i) k).wt then (bif (rcG gl (c.hv gl i) k).fl then false else (bif !thZ gl c (rcG gl (c.hv gl i) k).sh (rcG gl (c.hv gl i) k).sa then false else true)) else (bif !thZ gl c (rcG gl (c.hv gl i) k).sh (rcG gl (c.hv gl i) k).sa then false else true)))
noncomputable def ck2B (gl : Gl) (c : Cn) (i : Nat) : Bool := Nat.beq (skipN (ck3B gl c i) (lenV (c.hv gl i)) 0) (lenV (c.hv gl i))
noncomputable def ck5B (gl : Gl) (c : Cn) (i k : Nat) : Bool := (bif !thZ gl c (rfG gl (c.rv gl i) k).h (rfG gl (c.rv gl i) k).a then false else (bif twiZ gl c (i : Int) (k : Int) then false else true))
noncomputable def ck4B (gl : Gl) (c : Cn) (i : Nat) : Bool := (bif ((lenV (c.rv gl i) : Nat) : Int) == 0 then false else (bif decide ((i : Int) > 0) then (bif decide (raG gl c.r i <= raG gl c.r ((i : Int) - 1).toNat) then false else Nat.beq (skipN (ck5B gl c i) (lenV (c.rv gl i)) 0) (lenV (c.rv gl i))) else Nat.beq (skipN (ck5B gl c i) (lenV (c.rv gl i)) 0) (lenV (c.rv gl i))))
end Go.Proofs.Ytmaffamhjmlonaa
namespace Go.Proofs.Ytmaffamhjmlonaa
open Go.RowKit Sim S2
noncomputable def chkB (gl : Gl) (c : Cn) : Int := if 8 < c.hn then 2 else if skipN (ck1 gl c) c.hn 0 = c.hn then (if skipN (ck2B gl c) c.hn 0 = c.hn then (if skipN (ck4B gl c) c.rn 0 = c.rn then 0 else 1) else 1) else 3
theorem chkZ_ex : ∃ f : Gl -> Cn -> Int, ∀ gl c, f gl c = chkB gl c := ⟨_, fun _ _ => rfl⟩
noncomputable def chkZ : Gl -> Cn -> Int := Classical.choose chkZ_ex
theorem chkZ_eq (gl : Gl) (c : Cn) : chkZ gl c = chkB gl c := Classical.choose_spec chkZ_ex gl c
def decC1 : List Value -> Option Cn
 | [.agg ⟨[.slice a n c, .slice b m d]⟩] => some ⟨a, n, c, b, m, d⟩
 | _ => none
theorem decC1_eq : ∀ l x, decC1 l = some x -> l = [cnV x] := fun l x h => by
 unfold decC1 at h
 split at h
 . simp only [qS] at h
   subst h; rfl
 . cases h
end Go.Proofs.Ytmaffamhjmlonaa
