/- Layer 13: candidates as values that are only read: what the heap's blocks say of them. -/
import Derived.Test.YtmaffamhjmlonaaK02
import Derived.Test.YtmaffamhjmlonaaGlT
import Derived.Test.YtmaffamhjmlonaaFst
import Derived.Test.YtmaffamhjmlonaaRows
set_option linter.unusedVariables false
set_option linter.unusedSimpArgs false
namespace Go.Proofs.Ytmaffamhjmlonaa
open Go.RowKit Sim S2
structure Rc where
 pc : Int
 val : Int
 sh : Int
 sa : Int
 wt : Bool
 fl : Bool
structure Rf where
 h : Int
 a : Int
def rcC (r : Rc) : List Value := [.int .i64 r.pc, .int .i64 r.val, .int .i64 r.sh, .int .i64 r.sa, .bool r.wt, .bool r.fl]
def rfC (r : Rf) : List Value := [.int .i64 r.h, .int .i64 r.a]
def decRc : List Value -> Rc
 | [.int _ a, .int _ b, .int _ c, .int _ d, .bool e, .bool f] => ⟨a, b, c, d, e, f⟩
 | _ => ⟨0, 0, 0, 0, false, false⟩
def decRf : List Value -> Rf
 | [.int _ a, .int _ b] => ⟨a, b⟩
 | _ => ⟨0, 0⟩
def cellsG (gl : Gl) (v : Value) (S j : Nat) : List Value := match v with
 | .slice (some ⟨b, off, none⟩) _ _ => match gl b with
   | some cs => (cs.drop (off + j * S)).take S
   | none => []
 | _ => []
def lenV : Value -> Nat
 | .slice _ n _ => n
 | _ => 0
def adrV : Value -> Option Addr
 | .slice a _ _ => a
 | _ => none
def capV : Value -> Nat
 | .slice _ _ c => c
 | _ => 0
def nthV (l : List Value) (o : Nat) : Value := (l[o]?).getD (.slice none 0 0)
theorem rcG_ex : ∃ f : Gl -> Value -> Nat -> Rc, ∀ gl v j, f gl v j = decRc (cellsG gl v 6 j) := ⟨_, fun _ _ _ => rfl⟩
noncomputable def rcG : Gl -> Value -> Nat -> Rc := Classical.choose rcG_ex
theorem rcG_eq (gl : Gl) (v : Value) (j : Nat) : rcG gl v j = decRc (cellsG gl v 6 j) := Classical.choose_spec rcG_ex gl v j
theorem rfG_ex : ∃ f : Gl -> Value -> Nat -> Rf, ∀ gl v j, f gl v j = decRf (cellsG gl v 2 j) := ⟨_, fun _ _ _ => rfl⟩
noncomputable def rfG : Gl -> Value -> Nat -> Rf := Classical.choose rfG_ex
theorem rfG_eq (gl : Gl) (v : Value) (j : Nat) : rfG gl v j = decRf (cellsG gl v 2 j) := Classical.choose_spec rfG_ex gl v j
theorem raG_ex : ∃ f : Gl -> Value -> Nat -> Int, ∀ gl v j, f gl v j = intOf (cellsG gl v 1 (2 * j)) := ⟨_, fun _ _ _ => rfl⟩
noncomputable def raG : Gl -> Value -> Nat -> Int := Classical.choose raG_ex
theorem raG_eq (gl : Gl) (v : Value) (j : Nat) : raG gl v j = intOf (cellsG gl v 1 (2 * j)) := Classical.choose_spec raG_ex gl v j
theorem slA_ex : ∃ f : Gl -> Value -> Nat -> Nat -> Nat -> Option Addr, ∀ gl v S o j, f gl v S o j = adrV (nthV (cellsG gl v S j) o) := ⟨_, fun _ _ _ _ _ => rfl⟩
noncomputable def slA : Gl -> Value -> Nat -> Nat -> Nat -> Option Addr := Classical.choose slA_ex
theorem slN_ex : ∃ f : Gl -> Value -> Nat -> Nat -> Nat -> Nat, ∀ gl v S o j, f gl v S o j = lenV (nthV (cellsG gl v S j) o) := ⟨_, fun _ _ _ _ _ => rfl⟩
noncomputable def slN : Gl -> Value -> Nat -> Nat -> Nat -> Nat := Classical.choose slN_ex
theorem slC_ex : ∃ f : Gl -> Value -> Nat -> Nat -> Nat -> Nat, ∀ gl v S o j, f gl v S o j = capV (nthV (cellsG gl v S j) o) := ⟨_, fun _ _ _ _ _ => rfl⟩
noncomputable def slC : Gl -> Value -> Nat -> Nat -> Nat -> Nat := Classical.choose slC_ex
noncomputable def slG (gl : Gl) (v : Value) (S o j : Nat) : Value := .slice (slA gl v S o j) (slN gl v S o j) (slC gl v S o j)
theorem slG_eq (gl : Gl) (v : Value) (S o j : Nat) {a : Option Addr} {n c : Nat} (h : nthV (cellsG gl v S j) o = .slice a n c) : slG gl v S o j = .slice a n c := by
 unfold slG slA slN slC
 rw [Classical.choose_spec slA_ex, Classical.choose_spec slN_ex, Classical.choose_spec slC_ex, h]; rfl
noncomputable def hsE (gl : Gl) (v : Value) : LE := ⟨40, 1, lenV v, fun j => [slG gl v 1 0 j], false, false, true⟩
noncomputable def rwE (gl : Gl) (v : Value) : LE := ⟨43, 2, lenV v, fun j => [.int .i64 (raG gl v j), slG gl v 2 1 j], false, false, true⟩
noncomputable def rcE (gl : Gl) (v : Value) : LE := ⟨48, 6, lenV v, fun j => rcC (rcG gl v j), false, false, true⟩
noncomputable def rfE (gl : Gl) (v : Value) : LE := ⟨46, 2, lenV v, fun j => rfC (rfG gl v j), false, false, true⟩
noncomputable def rowsC (gl : Gl) (t : TypeId) : Option (Value -> LE) :=
 bif Nat.beq t 22 then some (hsE gl) else bif Nat.beq t 23 then some (rwE gl) else bif Nat.beq t 40 then some (rcE gl) else bif Nat.beq t 41 then some (rfE gl) else none
structure Cn where
 ha : Option Addr
 hn : Nat
 hc : Nat
 ra : Option Addr
 rn : Nat
 rc : Nat
def Cn.h (c : Cn) : Value := .slice c.ha c.hn c.hc
def Cn.r (c : Cn) : Value := .slice c.ra c.rn c.rc
def cnV (c : Cn) : Value := .agg #[.slice c.ha c.hn c.hc, .slice c.ra c.rn c.rc]
noncomputable def Cn.hv (gl : Gl) (c : Cn) (i : Nat) : Value := slG gl c.h 1 0 i
noncomputable def Cn.rv (gl : Gl) (c : Cn) (i : Nat) : Value := slG gl c.r 2 1 i
structure CnOk (gl : Gl) (c : Cn) : Prop where
 hs : rowG gl c.h (hsE gl c.h)
 rw : rowG gl c.r (rwE gl c.r)
 rc : ∀ i, i < c.hn -> rowG gl (c.hv gl i) (rcE gl (c.hv gl i))
 rf : ∀ i, i < c.rn -> rowG gl (c.rv gl i) (rfE gl (c.rv gl i))
noncomputable def enD (gl : Gl) (tab : Tab) (pt : PTab) (lt : LTab) : S2.Env := { envk Try.prog gl true tab pt lt with rowT := rowsC gl }
theorem enD_ok {gl : Gl} {tab : Tab} {pt : PTab} {lt : LTab} (h1 : TabOk Try.prog gl tab) (h2 : PTabOk Try.prog gl pt) (h3 : LTabOk Try.prog gl lt) : CallOk (enD gl tab pt lt) := envk_ok (nw := true) h1 h2 h3
end Go.Proofs.Ytmaffamhjmlonaa
