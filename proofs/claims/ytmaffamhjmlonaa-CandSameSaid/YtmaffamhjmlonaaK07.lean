/- BytesF13, Byt13, Law13A, Cont13. -/
import Derived.Test.YtmaffamhjmlonaaK02
import Derived.Test.YtmaffamhjmlonaaK04
import Derived.Test.YtmaffamhjmlonaaK05
import Derived.Test.YtmaffamhjmlonaaBnd13
import Derived.Test.YtmaffamhjmlonaaTree13
import Derived.WalkKit
import Derived.Laws.BitsAllLaws
import Derived.WalkSpells
import Derived.WalkLawsBesides
import Derived.Deep.QuietTactic
import Derived.BigQuiet
import Derived.Deep.Draws
import Derived.Test.YtmaffamhjmlonaaRows
set_option linter.unusedVariables false
set_option linter.unusedSimpArgs false
namespace Go.Proofs.Ytmaffamhjmlonaa
open Go.RowKit Sim S2
def obL (N : List Int) : Nat -> List Int
 | 0 => []
 | j + 1 => obL N j ++ vbL (zgN ((N[j]?).getD 0))
theorem vbL_len (u : Nat) (hu : u < 18446744073709551616) : 1 <= (vbL u).length /\ (vbL u).length <= 11 := by
 have := gr_lt u hu
 have h : (vbL u).length = grN u + 1 := by
   show (grB u (grN u) ++ [_]).length = _
   rw [List.length_append, grB_len]; rfl
 omega
noncomputable def harL (gl : Gl) (c : Cn) : List Int := [(c.hn : Int)] ++ hsL gl c c.hn
noncomputable def numL13 (gl : Gl) (c : Cn) : List Int := (harL gl c ++ [(c.rn : Int)]) ++ rsL gl c c.rn
noncomputable def bytL (gl : Gl) (c : Cn) : List Int := obL (numL13 gl c) (numL13 gl c).length
theorem harL_len {gl : Gl} {c : Cn} (sc : CnBd gl c) : (harL gl c).length <= 501000000 := by
 have h1 := hsL_len sc.2.2.1 c.hn (Nat.le_refl _)
 have h2 := sc.1
 unfold harL
 rw [List.length_append]
 show 1 + (hsL gl c c.hn).length <= _
 omega
end Go.Proofs.Ytmaffamhjmlonaa
namespace Go.Proofs.Ytmaffamhjmlonaa
open Go.RowKit Sim S2
def CnIn (gl : Gl) (c : Cn) : Prop := ∀ j, j < (numL13 gl c).length -> inI (((numL13 gl c)[j]?).getD 0) = true
end Go.Proofs.Ytmaffamhjmlonaa
namespace Go.Proofs.Ytmaffamhjmlonaa
open Go Go.RowKit Sim S2
def seqL : Code -> Code | .seq a _ => a | _ => .skip
def seqR : Code -> Code | .seq _ b => b | _ => .skip
def regO : Code -> Array Oper | .region _ o _ => o | _ => #[]
def regI : Code -> Nat | .region i _ _ => i | _ => 0
def hdO : List Oper → Oper | o :: _ => o | [] => { dst := none, op := .move (.const undef), type := 0, pos := "", after := #[], guard := none }
def ccE (c : Cn) : S2.LE := ⟨25, 2, 1, fun _ => [.slice c.ha c.hn c.hc, .slice c.ra c.rn c.rc], false, false, true⟩
noncomputable def tAw13 : Tab := row 7 dec0 fun _ => .bool true
end Go.Proofs.Ytmaffamhjmlonaa
namespace Go.Proofs.Ytmaffamhjmlonaa
open Go Go.RowKit Sim S2
structure Alike (gl : Gl) (c : Cn) (gl' : Gl) (d : Cn) : Prop where
 hn : c.hn = d.hn
 rn : c.rn = d.rn
 hl : ∀ i, i < c.hn -> lenV (c.hv gl i) = lenV (d.hv gl' i)
 rl : ∀ i, i < c.rn -> lenV (c.rv gl i) = lenV (d.rv gl' i)
 rc : ∀ i k, i < c.hn -> k < lenV (c.hv gl i) -> rcG gl (c.hv gl i) k = rcG gl' (d.hv gl' i) k
 rf : ∀ i k, i < c.rn -> k < lenV (c.rv gl i) -> rfG gl (c.rv gl i) k = rfG gl' (d.rv gl' i) k
 ra : ∀ i, i < c.rn -> raG gl c.r i = raG gl' d.r i
theorem alike_of {gl gl' : Gl} {c d : Cn} (h1 : hartsT gl c = hartsT gl' d) (h2 : rowsT gl c = rowsT gl' d) : Alike gl c gl' d := by
 unfold hartsT at h1
 unfold rowsT at h2
 rw [range_eq] at h1 h2
 obtain ⟨a1, a2⟩ := h1
 obtain ⟨b1, b2⟩ := h2
 have a3 : ∀ i, i < c.hn -> lenV (c.hv gl i) = lenV (d.hv gl' i) /\ ∀ k, k < lenV (c.hv gl i) -> rcG gl (c.hv gl i) k = rcG gl' (d.hv gl' i) k := fun i hi => by
   have := a2 i hi
   unfold recsT at this
   exact range_eq.mp this
 have b3 : ∀ i, i < c.rn -> lenV (c.rv gl i) = lenV (d.rv gl' i) /\ ∀ k, k < lenV (c.rv gl i) -> rfG gl (c.rv gl i) k = rfG gl' (d.rv gl' i) k := fun i hi => by
   have := congrArg Prod.snd (b2 i hi)
   have this : stosT gl (c.rv gl i) = stosT gl' (d.rv gl' i) := this
   unfold stosT at this
   exact range_eq.mp this
 exact ⟨a1, b1, fun i hi => (a3 i hi).1, fun i hi => (b3 i hi).1, fun i k hi hk => (a3 i hi).2 k hk, fun i k hi hk => (b3 i hi).2 k hk, fun i hi => congrArg Prod.fst (b2 i hi)⟩
theorem hrL_part {gl gl' : Gl} {v u : Value} : ∀ n, (∀ k, k < n -> rcG gl v k = rcG gl' u k) -> hrL gl v n = hrL gl' u n
 | 0, _ => rfl
 | n + 1, h => by
   show hrL gl v n ++ recL (rcG gl v n) = hrL gl' u n ++ recL (rcG gl' u n)
   rw [hrL_part n fun k hk => h k (by omega), h n (Nat.lt_succ_self n)]
theorem rrL_part {gl gl' : Gl} {v u : Value} : ∀ n, (∀ k, k < n -> rfG gl v k = rfG gl' u k) -> rrL gl v n = rrL gl' u n
 | 0, _ => rfl
 | n + 1, h => by
   show rrL gl v n ++ [(rfG gl v n).h, (rfG gl v n).a] = rrL gl' u n ++ [(rfG gl' u n).h, (rfG gl' u n).a]
   rw [rrL_part n fun k hk => h k (by omega), h n (Nat.lt_succ_self n)]
theorem Alike.hs {gl gl' : Gl} {c d : Cn} (h : Alike gl c gl' d) : ∀ n, n <= c.hn -> hsL gl c n = hsL gl' d n
 | 0, _ => rfl
 | n + 1, hn => by
   show hsL gl c n ++ ([(lenV (c.hv gl n) : Int)] ++ hrL gl (c.hv gl n) (lenV (c.hv gl n))) = hsL gl' d n ++ ([(lenV (d.hv gl' n) : Int)] ++ hrL gl' (d.hv gl' n) (lenV (d.hv gl' n)))
   rw [h.hs n (by omega), <- h.hl n (by omega), hrL_part _ fun k hk => h.rc n k (by omega) hk]
theorem Alike.rs {gl gl' : Gl} {c d : Cn} (h : Alike gl c gl' d) : ∀ n, n <= c.rn -> rsL gl c n = rsL gl' d n
 | 0, _ => rfl
 | n + 1, hn => by
   show rsL gl c n ++ ([raG gl c.r n, (lenV (c.rv gl n) : Int)] ++ rrL gl (c.rv gl n) (lenV (c.rv gl n))) = rsL gl' d n ++ ([raG gl' d.r n, (lenV (d.rv gl' n) : Int)] ++ rrL gl' (d.rv gl' n) (lenV (d.rv gl' n)))
   rw [h.rs n (by omega), <- h.rl n (by omega), h.ra n (by omega), rrL_part _ fun k hk => h.rf n k (by omega) hk]
theorem Alike.sm {gl gl' : Gl} {c d : Cn} (h : Alike gl c gl' d) (hc : CnSm gl c) : CnSm gl' d := by
 obtain ⟨h1, h2, h3, h4⟩ := hc
 exact ⟨h.hn ▸ h1, h.rn ▸ h2, fun i hi => by rw [<- h.hl i (by rw [h.hn]; exact hi)]; exact h3 i (by rw [h.hn]; exact hi), fun i hi => by rw [<- h.rl i (by rw [h.rn]; exact hi)]; exact h4 i (by rw [h.rn]; exact hi)⟩
end Go.Proofs.Ytmaffamhjmlonaa
