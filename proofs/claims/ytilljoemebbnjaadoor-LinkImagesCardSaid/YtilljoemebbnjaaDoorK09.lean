/- Does09, Act09, Loads09, Walk09. -/
import Derived.Test.YtilljoemebbnjaaDoorK03
import Derived.Test.YtilljoemebbnjaaDoorK05
import Derived.Test.YtilljoemebbnjaaDoorRef03
import Derived.Test.YtilljoemebbnjaaDoorK07
import Derived.Test.YtilljoemebbnjaaDoorRefLd09
import Derived.Test.YtilljoemebbnjaaDoorRows
set_option linter.unusedVariables false
set_option linter.unusedSimpArgs false
namespace Go.Proofs.YtilljoemebbnjaaDoor
open Go.RowKit Sim S2
def evC (op b : Int) : Bool := decide (op = 22 \/ op = 31 \/ (op = 28 /\ 0 <= b /\ b <= 63))
def elL (L : List In) (j : Nat) : In := (L[j]?).getD zIn
def okI (i : In) : Prop := (0 <= i.a /\ i.a < (32 : Nat)) /\ (0 <= i.rd /\ i.rd < (32 : Nat)) /\ ((i.op == 1) = true -> -9223372036854775808 <= 4096 * i.imm /\ 4096 * i.imm <= 9223372036854775807) /\ ((i.op == 1) = false -> pre (evC i.op i.imm) = true)
end Go.Proofs.YtilljoemebbnjaaDoor
namespace Go.Proofs.YtilljoemebbnjaaDoor
open Go.RowKit Sim S2
def goodI (rd : Int) (i : In) : Prop := i.rd = rd /\ okI i /\ mayB i = true /\ ((i.op == 1) = true \/ 22 <= i.op /\ i.op <= 31)
theorem may_lui (rd imm : Int) (hr : 0 <= rd /\ rd <= 31) (hi : -524288 <= imm /\ imm < 524288) : goodI rd (inst 1 rd 0 imm) := by
 refine ⟨rfl, ⟨⟨by show (0 : Int) <= 0; decide, by show (0 : Int) < 32; decide⟩, ⟨hr.1, by show rd < 32; omega⟩, fun _ => by show _ <= 4096 * imm /\ 4096 * imm <= _; omega, fun h => by cases h⟩, ?_, .inl rfl⟩
 have hf : fitZ imm 20 = true := (fit_iff imm 20 (by decide) (by decide)).mpr (by simpa using hi)
 have e1 : formZ 1 = 1 := by decide +kernel
 have e2 : okB 1 = true := by decide +kernel
 unfold mayB inst
 simp only [e1, e2]
 have e3 : rdF 1 = true := by decide +kernel
 have e4 : aF 1 = false := by decide +kernel
 have e5 : bF 1 = false := by decide +kernel
 have e6 : oF 1 = false := by decide +kernel
 rw [e3, e4, e5, e6]
 unfold regB immB
 simp [hr.1, hr.2, hf]
theorem may_i (op rd a imm : Int) (hop : op = 22 \/ op = 31) (hr : 0 <= rd /\ rd <= 31) (ha : 0 <= a /\ a <= 31) (hi : -2048 <= imm /\ imm < 2048) : goodI rd (inst op rd a imm) := by
 have hf : fitZ imm 12 = true := (fit12 imm).mpr hi
 have e3 : rdF 3 = true := by decide +kernel
 have e4 : aF 3 = true := by decide +kernel
 have e5 : bF 3 = false := by decide +kernel
 have e6 : oF 3 = false := by decide +kernel
 have ef : formZ op = 3 := by rcases hop with rfl | rfl <;> decide +kernel
 have eo : okB op = true := by rcases hop with rfl | rfl <;> decide +kernel
 have h1 : (op == 1) = false := by rcases hop with rfl | rfl <;> rfl
 refine ⟨rfl, ⟨⟨ha.1, by show a < 32; omega⟩, ⟨hr.1, by show rd < 32; omega⟩, fun h => (by rw [show (inst op rd a imm).op = op from rfl, h1] at h; cases h), fun _ => ob_dec (by show op = 22 \/ op = 31 \/ _; omega)⟩, ?_, .inr (by show 22 <= op /\ op <= 31; omega)⟩
 unfold mayB inst
 simp only [ef, eo]
 rw [e3, e4, e5, e6]
 unfold regB immB
 simp [hr.1, hr.2, ha.1, ha.2, hf]
theorem may_sl (rd imm : Int) (hr : 0 <= rd /\ rd <= 31) (hi : 0 <= imm /\ imm <= 63) : goodI rd (inst 28 rd rd imm) := by
 have e3 : rdF 7 = true := by decide +kernel
 have e4 : aF 7 = true := by decide +kernel
 have e5 : bF 7 = false := by decide +kernel
 have e6 : oF 7 = false := by decide +kernel
 have ef : formZ 28 = 7 := by decide +kernel
 have eo : okB 28 = true := by decide +kernel
 refine ⟨rfl, ⟨⟨hr.1, by show rd < 32; omega⟩, ⟨hr.1, by show rd < 32; omega⟩, fun h => (by cases h), fun _ => ob_dec (.inr (.inr ⟨rfl, hi⟩))⟩, ?_, .inr (by show 22 <= (28 : Int) /\ (28 : Int) <= 31; decide)⟩
 unfold mayB inst
 simp only [ef, eo]
 rw [e3, e4, e5, e6]
 unfold regB immB btwB
 simp [hr.1, hr.2, hi.1, hi.2]
theorem low12_rng (n : Int) : -2048 <= lowZ n 12 /\ lowZ n 12 < 2048 := by rw [low12]; omega
theorem low20_rng (n : Int) : -524288 <= lowZ n 20 /\ lowZ n 20 < 524288 := by rw [low20]; omega
theorem plus_good (op rd n : Int) (hop : op = 22 \/ op = 31) (hr : 0 <= rd /\ rd <= 31) : ∀ i ∈ plusL op rd (lowZ n 12), goodI rd i := fun i hi => by
 unfold plusL at hi
 cases h0 : lowZ n 12 == 0
 . rw [h0] at hi
   obtain rfl := List.mem_singleton.mp hi
   exact may_i op rd rd _ hop hr hr (low12_rng n)
 . rw [h0] at hi; cases hi
theorem base_good (rd n : Int) (hr : 0 <= rd /\ rd <= 31) : ∀ i ∈ baseL rd n, goodI rd i := fun i hi => by
 unfold baseL at hi
 cases h12 : fitZ n 12
 . rw [h12] at hi
   rcases List.mem_cons.mp hi with rfl | hi
   . exact may_lui rd _ hr (low20_rng _)
   . exact plus_good 31 rd n (.inr rfl) hr i hi
 . rw [h12] at hi
   obtain rfl := List.mem_singleton.mp hi
   exact may_i 22 rd 0 n (.inl rfl) hr ⟨by decide, by decide⟩ ((fit12 n).mp h12)
theorem ld_good : ∀ (d : Nat) (rd n : Int), 0 <= rd /\ rd <= 31 -> lvB d n = true -> ∀ i ∈ ldL d rd n, goodI rd i
 | 0, rd, n, hr, _ => base_good rd n hr
 | d + 1, rd, n, hr, hl => fun i hi => by
   cases h32 : fitZ n 32
   . have hI := lvB_isI hl
     obtain ⟨k, o, hk, hodd, ho, htz, hod, hne, hki, _⟩ := split9 hI h32
     have h12 : fitZ n 12 = false := by
       cases h12 : fitZ n 12
       . rfl
       . rw [(fit32 n).mpr (by have := (fit12 n).mp h12; omega)] at h32; cases h32
     have e : ldL (d + 1) rd n = ldL d rd (oddH n) ++ (inst 28 rd rd (arZ .add .i64 12 (tzH n)) :: plusL 22 rd (lowZ n 12)) := by
       show (bif fitZ n 12 || fitZ n 32 then _ else _) = _
       rw [h12, h32]; rfl
     rw [e] at hi
     rcases List.mem_append.mp hi with hi | hi
     . exact ld_good d rd (oddH n) hr (lvl_down hI h32 d hl).1 i hi
     . rcases List.mem_cons.mp hi with rfl | hi
       . refine may_sl rd _ hr ?_
         rw [ar_add, htz, wrap_self (by unfold isI; omega)]; omega
       . exact plus_good 22 rd n (.inl rfl) hr i hi
   . rw [ldL_base h32] at hi
     exact base_good rd n hr i hi
end Go.Proofs.YtilljoemebbnjaaDoor
namespace Go.Proofs.YtilljoemebbnjaaDoor
open Go.RowKit Sim S2
noncomputable def LD (rd n : Int) : List In := ldL 3 rd n
end Go.Proofs.YtilljoemebbnjaaDoor
namespace Go.Proofs.YtilljoemebbnjaaDoor
open Go.RowKit Sim S2
noncomputable def lCkP (n : Nat) (f : Nat -> It) : LTab := lrow 27 fun args => match args with
 | [.inr e] => some (false, [.inl (.tuple #[.int .i64 (unitR n f).1, .int .i64 (unitR n f).2])], pre (propB (isItE e n f /\ ∀ j, j < n -> wfIt (f j))))
 | _ => none
noncomputable def lCkR (n : Nat) (f : Nat -> It) : LTab := lrow 20 fun args => match args with
 | [.inr e] => some (false, [.inl (.tuple #[.int .i64 (unitR n f).1, .int .i64 (unitR n f).2])], pre (propB (isItE e n f)))
 | _ => none
theorem lCkP_ok {gl : Gl} (n : Nat) (f : Nat -> It) : LTabOk Tryd.prog gl (lCkP n f) := .row fun args tup res h w vals hG ha => by
 split at h
 . rename_i e
   simp only [qS, qP] at h
   obtain ⟨rfl, rfl, hp⟩ := h
   obtain ⟨h1, h2⟩ := propB_ok.mp hp
   match vals, ha with
   | [u], ha => exact unitCheck_ret n f h1.2.2.2 h2 w [u] ⟨InB.it ha.1 h1, trivial⟩
   | [], ha => exact ha.elim
   | _ :: _ :: _, ha => exact ha.2.elim
 . cases h
theorem lCkR_ok {gl : Gl} (n : Nat) (f : Nat -> It) : LTabOk Tryd.prog gl (lCkR n f) := .row fun args tup res h w vals hG ha => by
 split at h
 . rename_i e
   simp only [qS, qP] at h
   obtain ⟨rfl, rfl, hp⟩ := h
   have h1 := propB_ok.mp hp
   match vals, ha with
   | [u], ha => exact refUnit_ret n f h1.2.2.2 w [u] ⟨InB.it ha.1 h1, trivial⟩
   | [], ha => exact ha.elim
   | _ :: _ :: _, ha => exact ha.2.elim
 . cases h
end Go.Proofs.YtilljoemebbnjaaDoor
