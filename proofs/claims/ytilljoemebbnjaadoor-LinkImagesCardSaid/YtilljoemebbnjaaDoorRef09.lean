/- Items of a unit (layer 9): their cells and lists; the answers by definition. -/
import Derived.Test.YtilljoemebbnjaaDoorK05
import Derived.Test.YtilljoemebbnjaaDoorRef03
import Derived.Test.YtilljoemebbnjaaDoorK06
set_option linter.unusedVariables false
set_option linter.unusedSimpArgs false
namespace Go.Proofs.YtilljoemebbnjaaDoor
open Go.RowKit Sim S2
structure It where
 kind : Int
 ins : In
 n : Int
 note : Int
def itC (i : It) : List Value := [.int .i64 i.kind, .int .i64 i.ins.op, .int .i64 i.ins.rd, .int .i64 i.ins.a, .int .i64 i.ins.b, .int .i64 i.ins.imm, .bool i.ins.aq, .bool i.ins.rl, .int .i64 i.n, .int .i64 i.note]
def itV (i : It) : Value := .agg #[.int .i64 i.kind, .int .i64 i.ins.op, .int .i64 i.ins.rd, .int .i64 i.ins.a, .int .i64 i.ins.b, .int .i64 i.ins.imm, .bool i.ins.aq, .bool i.ins.rl, .int .i64 i.n, .int .i64 i.note]
def itE (n : Nat) (f : Nat -> It) : LE := ⟨44, 10, n, fun j => itC (f j), false, false, true⟩
def itO : List Bool := [true, true, true, true, true, true, true, true, true, true]
def zeroIn (x : In) : Bool := x.op == 0 && (x.rd == 0 && (x.a == 0 && (x.b == 0 && (x.imm == 0 && (x.aq == false && (x.rl == false && true))))))
def zeroRd (x : In) : Bool := x.op == 0 && (x.rd == x.rd && (x.a == 0 && (x.b == 0 && (x.imm == 0 && (x.aq == false && (x.rl == false && true))))))
def rightB (i : It) : Bool :=
 bif i.kind == 0 then mayB i.ins && (i.n == 0 && decide (i.note >= 0))
 else bif i.kind == 1 then zeroIn i.ins && (decide (i.n >= 0) && decide (i.note >= 0))
 else bif i.kind == 2 then zeroIn i.ins && (decide (i.n >= 0) && decide (i.note >= 0))
 else bif i.kind == 3 then (formZ i.ins.op == 4) && (mayB i.ins && (i.ins.imm == 0 && (decide (i.n >= 0) && decide (i.note >= 0))))
 else bif i.kind == 4 then decide (i.ins.rd >= 0) && (decide (i.ins.rd <= 31) && (zeroRd i.ins && decide (i.note >= 0)))
 else false
noncomputable def env9r : S2.Env := envq Tryd.prog (fun _ => none) (orT tRefMay tRefForm) noP noL
theorem env9r_ok : CallOk env9r := envq_ok (tRefMay_ok.or tRefForm_ok) (.none _ _) (.none _ _)
theorem rr_none (i : It) : S2.simF env9r 1000 10 [] [false, false, false, false, false] 31 [itO] [.inl (itV i)] = some (false, [.inl (.bool false)], [((i.kind == 4), false), ((i.kind == 3), false), ((i.kind == 2), false), ((i.kind == 1), false), ((i.kind == 0), false)], []) := by kernel_rfl
theorem rr_4a (i : It) : S2.simF env9r 1000 10 [] [false, false, false, false, true, false] 31 [itO] [.inl (itV i)] = some (false, [.inl (.bool false)], [(decide (i.ins.rd >= 0), false), ((i.kind == 4), true), ((i.kind == 3), false), ((i.kind == 2), false), ((i.kind == 1), false), ((i.kind == 0), false)], []) := by kernel_rfl
theorem rr_4b (i : It) : S2.simF env9r 1000 10 [] [false, false, false, false, true, true, false] 31 [itO] [.inl (itV i)] = some (false, [.inl (.bool false)], [(decide (i.ins.rd <= 31), false), (decide (i.ins.rd >= 0), true), ((i.kind == 4), true), ((i.kind == 3), false), ((i.kind == 2), false), ((i.kind == 1), false), ((i.kind == 0), false)], []) := by kernel_rfl
theorem rr_4c (i : It) : S2.simF env9r 1000 10 [] [false, false, false, false, true, true, true, false] 31 [itO] [.inl (itV i)] = some (false, [.inl (.bool false)], [(zeroRd i.ins, false), (decide (i.ins.rd <= 31), true), (decide (i.ins.rd >= 0), true), ((i.kind == 4), true), ((i.kind == 3), false), ((i.kind == 2), false), ((i.kind == 1), false), ((i.kind == 0), false)], []) := by kernel_rfl
theorem rr_4z (i : It) : S2.simF env9r 1000 10 [] [false, false, false, false, true, true, true, true] 31 [itO] [.inl (itV i)] = some (false, [.inl (.bool (decide (i.note >= 0)))], [(zeroRd i.ins, true), (decide (i.ins.rd <= 31), true), (decide (i.ins.rd >= 0), true), ((i.kind == 4), true), ((i.kind == 3), false), ((i.kind == 2), false), ((i.kind == 1), false), ((i.kind == 0), false)], []) := by kernel_rfl
theorem rr_3a (i : It) : S2.simF env9r 1000 10 [] [false, false, false, true, false] 31 [itO] [.inl (itV i)] = some (false, [.inl (.bool false)], [((formZ i.ins.op == 4), false), ((i.kind == 3), true), ((i.kind == 2), false), ((i.kind == 1), false), ((i.kind == 0), false)], []) := by kernel_rfl
theorem rr_3b (i : It) : S2.simF env9r 1000 10 [] [false, false, false, true, true, false] 31 [itO] [.inl (itV i)] = some (false, [.inl (.bool false)], [(mayB i.ins, false), ((formZ i.ins.op == 4), true), ((i.kind == 3), true), ((i.kind == 2), false), ((i.kind == 1), false), ((i.kind == 0), false)], []) := by kernel_rfl
theorem rr_3c (i : It) : S2.simF env9r 1000 10 [] [false, false, false, true, true, true, false] 31 [itO] [.inl (itV i)] = some (false, [.inl (.bool false)], [((i.ins.imm == 0), false), (mayB i.ins, true), ((formZ i.ins.op == 4), true), ((i.kind == 3), true), ((i.kind == 2), false), ((i.kind == 1), false), ((i.kind == 0), false)], []) := by kernel_rfl
theorem rr_3d (i : It) : S2.simF env9r 1000 10 [] [false, false, false, true, true, true, true, false] 31 [itO] [.inl (itV i)] = some (false, [.inl (.bool false)], [(decide (i.n >= 0), false), ((i.ins.imm == 0), true), (mayB i.ins, true), ((formZ i.ins.op == 4), true), ((i.kind == 3), true), ((i.kind == 2), false), ((i.kind == 1), false), ((i.kind == 0), false)], []) := by kernel_rfl
theorem rr_3z (i : It) : S2.simF env9r 1000 10 [] [false, false, false, true, true, true, true, true] 31 [itO] [.inl (itV i)] = some (false, [.inl (.bool (decide (i.note >= 0)))], [(decide (i.n >= 0), true), ((i.ins.imm == 0), true), (mayB i.ins, true), ((formZ i.ins.op == 4), true), ((i.kind == 3), true), ((i.kind == 2), false), ((i.kind == 1), false), ((i.kind == 0), false)], []) := by kernel_rfl
theorem rr_2a (i : It) : S2.simF env9r 1000 10 [] [false, false, true, false] 31 [itO] [.inl (itV i)] = some (false, [.inl (.bool false)], [(zeroIn i.ins, false), ((i.kind == 2), true), ((i.kind == 1), false), ((i.kind == 0), false)], []) := by kernel_rfl
theorem rr_2b (i : It) : S2.simF env9r 1000 10 [] [false, false, true, true, false] 31 [itO] [.inl (itV i)] = some (false, [.inl (.bool false)], [(decide (i.n >= 0), false), (zeroIn i.ins, true), ((i.kind == 2), true), ((i.kind == 1), false), ((i.kind == 0), false)], []) := by kernel_rfl
theorem rr_2z (i : It) : S2.simF env9r 1000 10 [] [false, false, true, true, true] 31 [itO] [.inl (itV i)] = some (false, [.inl (.bool (decide (i.note >= 0)))], [(decide (i.n >= 0), true), (zeroIn i.ins, true), ((i.kind == 2), true), ((i.kind == 1), false), ((i.kind == 0), false)], []) := by kernel_rfl
theorem rr_1a (i : It) : S2.simF env9r 1000 10 [] [false, true, false] 31 [itO] [.inl (itV i)] = some (false, [.inl (.bool false)], [(zeroIn i.ins, false), ((i.kind == 1), true), ((i.kind == 0), false)], []) := by kernel_rfl
theorem rr_1b (i : It) : S2.simF env9r 1000 10 [] [false, true, true, false] 31 [itO] [.inl (itV i)] = some (false, [.inl (.bool false)], [(decide (i.n >= 0), false), (zeroIn i.ins, true), ((i.kind == 1), true), ((i.kind == 0), false)], []) := by kernel_rfl
theorem rr_1z (i : It) : S2.simF env9r 1000 10 [] [false, true, true, true] 31 [itO] [.inl (itV i)] = some (false, [.inl (.bool (decide (i.note >= 0)))], [(decide (i.n >= 0), true), (zeroIn i.ins, true), ((i.kind == 1), true), ((i.kind == 0), false)], []) := by kernel_rfl
theorem rr_0a (i : It) : S2.simF env9r 1000 10 [] [true, false] 31 [itO] [.inl (itV i)] = some (false, [.inl (.bool false)], [(mayB i.ins, false), ((i.kind == 0), true)], []) := by kernel_rfl
theorem rr_0b (i : It) : S2.simF env9r 1000 10 [] [true, true, false] 31 [itO] [.inl (itV i)] = some (false, [.inl (.bool false)], [((i.n == 0), false), (mayB i.ins, true), ((i.kind == 0), true)], []) := by kernel_rfl
theorem rr_0z (i : It) : S2.simF env9r 1000 10 [] [true, true, true] 31 [itO] [.inl (itV i)] = some (false, [.inl (.bool (decide (i.note >= 0)))], [((i.n == 0), true), (mayB i.ins, true), ((i.kind == 0), true)], []) := by kernel_rfl
theorem refRight_ret (i : It) (w : World) : Ret Tryd.prog 31 #[itV i] (.bool (rightB i)) w := by
 cases h0 : (i.kind == 0)
 case' false =>
   cases h1 : (i.kind == 1)
   case' false =>
     cases h2 : (i.kind == 2)
     case' false =>
       cases h3 : (i.kind == 3)
       case' false =>
         cases h4 : (i.kind == 4)
         case' false =>
           exact (ret7 env9r_ok _ _ (rr_none i) (qA h4 <| qA h3 <| qA h2 <| qA h1 <| qA h0 qZ) Tryd.func31 w [itV i] (GlobOk.none w) ⟨rfl, trivial⟩).of_eq (by unfold rightB; rw [h0, h1, h2, h3, h4]; rfl)
         case' true =>
           cases t0 : decide (i.ins.rd >= 0)
           case' false =>
             exact (ret7 env9r_ok _ _ (rr_4a i) (qA t0 <| qA h4 <| qA h3 <| qA h2 <| qA h1 <| qA h0 qZ) Tryd.func31 w [itV i] (GlobOk.none w) ⟨rfl, trivial⟩).of_eq (by unfold rightB; rw [h0, h1, h2, h3, h4, t0]; rfl)
           case' true =>
             cases t1 : decide (i.ins.rd <= 31)
             case' false =>
               exact (ret7 env9r_ok _ _ (rr_4b i) (qA t1 <| qA t0 <| qA h4 <| qA h3 <| qA h2 <| qA h1 <| qA h0 qZ) Tryd.func31 w [itV i] (GlobOk.none w) ⟨rfl, trivial⟩).of_eq (by unfold rightB; rw [h0, h1, h2, h3, h4, t0, t1]; rfl)
             case' true =>
               cases t2 : zeroRd i.ins
               case' false =>
                 exact (ret7 env9r_ok _ _ (rr_4c i) (qA t2 <| qA t1 <| qA t0 <| qA h4 <| qA h3 <| qA h2 <| qA h1 <| qA h0 qZ) Tryd.func31 w [itV i] (GlobOk.none w) ⟨rfl, trivial⟩).of_eq (by unfold rightB; rw [h0, h1, h2, h3, h4, t0, t1, t2]; rfl)
               case' true =>
                 exact (ret7 env9r_ok _ _ (rr_4z i) (qA t2 <| qA t1 <| qA t0 <| qA h4 <| qA h3 <| qA h2 <| qA h1 <| qA h0 qZ) Tryd.func31 w [itV i] (GlobOk.none w) ⟨rfl, trivial⟩).of_eq (by unfold rightB; rw [h0, h1, h2, h3, h4, t0, t1, t2]; rfl)
       case' true =>
         cases t0 : (formZ i.ins.op == 4)
         case' false =>
           exact (ret7 env9r_ok _ _ (rr_3a i) (qA t0 <| qA h3 <| qA h2 <| qA h1 <| qA h0 qZ) Tryd.func31 w [itV i] (GlobOk.none w) ⟨rfl, trivial⟩).of_eq (by unfold rightB; rw [h0, h1, h2, h3, t0]; rfl)
         case' true =>
           cases t1 : mayB i.ins
           case' false =>
             exact (ret7 env9r_ok _ _ (rr_3b i) (qA t1 <| qA t0 <| qA h3 <| qA h2 <| qA h1 <| qA h0 qZ) Tryd.func31 w [itV i] (GlobOk.none w) ⟨rfl, trivial⟩).of_eq (by unfold rightB; rw [h0, h1, h2, h3, t0, t1]; rfl)
           case' true =>
             cases t2 : (i.ins.imm == 0)
             case' false =>
               exact (ret7 env9r_ok _ _ (rr_3c i) (qA t2 <| qA t1 <| qA t0 <| qA h3 <| qA h2 <| qA h1 <| qA h0 qZ) Tryd.func31 w [itV i] (GlobOk.none w) ⟨rfl, trivial⟩).of_eq (by unfold rightB; rw [h0, h1, h2, h3, t0, t1, t2]; rfl)
             case' true =>
               cases t3 : decide (i.n >= 0)
               case' false =>
                 exact (ret7 env9r_ok _ _ (rr_3d i) (qA t3 <| qA t2 <| qA t1 <| qA t0 <| qA h3 <| qA h2 <| qA h1 <| qA h0 qZ) Tryd.func31 w [itV i] (GlobOk.none w) ⟨rfl, trivial⟩).of_eq (by unfold rightB; rw [h0, h1, h2, h3, t0, t1, t2, t3]; rfl)
               case' true =>
                 exact (ret7 env9r_ok _ _ (rr_3z i) (qA t3 <| qA t2 <| qA t1 <| qA t0 <| qA h3 <| qA h2 <| qA h1 <| qA h0 qZ) Tryd.func31 w [itV i] (GlobOk.none w) ⟨rfl, trivial⟩).of_eq (by unfold rightB; rw [h0, h1, h2, h3, t0, t1, t2, t3]; rfl)
     case' true =>
       cases t0 : zeroIn i.ins
       case' false =>
         exact (ret7 env9r_ok _ _ (rr_2a i) (qA t0 <| qA h2 <| qA h1 <| qA h0 qZ) Tryd.func31 w [itV i] (GlobOk.none w) ⟨rfl, trivial⟩).of_eq (by unfold rightB; rw [h0, h1, h2, t0]; rfl)
       case' true =>
         cases t1 : decide (i.n >= 0)
         case' false =>
           exact (ret7 env9r_ok _ _ (rr_2b i) (qA t1 <| qA t0 <| qA h2 <| qA h1 <| qA h0 qZ) Tryd.func31 w [itV i] (GlobOk.none w) ⟨rfl, trivial⟩).of_eq (by unfold rightB; rw [h0, h1, h2, t0, t1]; rfl)
         case' true =>
           exact (ret7 env9r_ok _ _ (rr_2z i) (qA t1 <| qA t0 <| qA h2 <| qA h1 <| qA h0 qZ) Tryd.func31 w [itV i] (GlobOk.none w) ⟨rfl, trivial⟩).of_eq (by unfold rightB; rw [h0, h1, h2, t0, t1]; rfl)
   case' true =>
     cases t0 : zeroIn i.ins
     case' false =>
       exact (ret7 env9r_ok _ _ (rr_1a i) (qA t0 <| qA h1 <| qA h0 qZ) Tryd.func31 w [itV i] (GlobOk.none w) ⟨rfl, trivial⟩).of_eq (by unfold rightB; rw [h0, h1, t0]; rfl)
     case' true =>
       cases t1 : decide (i.n >= 0)
       case' false =>
         exact (ret7 env9r_ok _ _ (rr_1b i) (qA t1 <| qA t0 <| qA h1 <| qA h0 qZ) Tryd.func31 w [itV i] (GlobOk.none w) ⟨rfl, trivial⟩).of_eq (by unfold rightB; rw [h0, h1, t0, t1]; rfl)
       case' true =>
         exact (ret7 env9r_ok _ _ (rr_1z i) (qA t1 <| qA t0 <| qA h1 <| qA h0 qZ) Tryd.func31 w [itV i] (GlobOk.none w) ⟨rfl, trivial⟩).of_eq (by unfold rightB; rw [h0, h1, t0, t1]; rfl)
 case' true =>
   cases t0 : mayB i.ins
   case' false =>
     exact (ret7 env9r_ok _ _ (rr_0a i) (qA t0 <| qA h0 qZ) Tryd.func31 w [itV i] (GlobOk.none w) ⟨rfl, trivial⟩).of_eq (by unfold rightB; rw [h0, t0]; rfl)
   case' true =>
     cases t1 : (i.n == 0)
     case' false =>
       exact (ret7 env9r_ok _ _ (rr_0b i) (qA t1 <| qA t0 <| qA h0 qZ) Tryd.func31 w [itV i] (GlobOk.none w) ⟨rfl, trivial⟩).of_eq (by unfold rightB; rw [h0, t0, t1]; rfl)
     case' true =>
       exact (ret7 env9r_ok _ _ (rr_0z i) (qA t1 <| qA t0 <| qA h0 qZ) Tryd.func31 w [itV i] (GlobOk.none w) ⟨rfl, trivial⟩).of_eq (by unfold rightB; rw [h0, t0, t1]; rfl)
theorem first_yes (f : Nat -> Bool) : ∀ (h : Nat), (List.range h).any f = true -> ∃ k, k < h /\ f k = true /\ ∀ j, j < k -> f j = false
 | 0, hf => by simp at hf
 | h + 1, hf => by
   cases hp : (List.range h).any f
   . rw [List.range_succ, List.any_append, hp] at hf
     simp at hf
     refine ⟨h, by omega, hf, fun j hj => ?_⟩
     rw [List.any_eq_false] at hp
     simpa using hp j (List.mem_range.mpr hj)
   . obtain ⟨k, h1, h2, h3⟩ := first_yes f h hp
     exact ⟨k, by omega, h2, h3⟩
theorem any_no {f : Nat -> Bool} {h : Nat} (hf : (List.range h).any f = false) (j : Nat) (hj : j < h) : f j = false := by
 rw [List.any_eq_false] at hf
 simpa using hf j (List.mem_range.mpr hj)
def labB (f : Nat -> It) (x : Int) (j : Nat) : Bool := (f j).kind == 1 && (f j).n == x
def standsB (f : Nat -> It) (x : Int) (k : Nat) : Bool := (List.range k).any (labB f x)
noncomputable def env9s : S2.Env := envq Tryd.prog (fun _ => none) noT noP noL
theorem env9s_ok : CallOk env9s := envq_ok (.none _ _) (.none _ _) (.none _ _)
def sdS (len : Nat) (f : Nat -> It) (x : Int) (k j : Nat) : S2.St := { tmps := [(0, .c 0), (1, .inl ([true], .int .i64 x)), (2, .inl ([true], .int .i64 k)), (7, .inl ([true], .int .i64 j))], own := ⟨[], [itE len f]⟩, lo := 0, llo := 0, mem := true, orc := [], obl := [] }
def sdR : S2.St := { tmps := [(6, .inl ([], .bool true))], own := ⟨[], []⟩, lo := 0, llo := 0, mem := true, orc := [], obl := [] }
noncomputable def sdC : Code := codeAt (codeOf Tryd.prog 32) (0 :: [0, 1, 0, 1])
def sdP : Pick := { ts := [0, 1, 2, 7], bs := [], ls := [0], opn := [7] }
theorem sd_step (len : Nat) (f : Nat -> It) (x : Int) (k j : Nat) (hl : len <= 1000000000000) (hk : k <= len) (hj : j < k) (hb : labB f x j = false) (w : World) : S2.Sem env9s w 28 sdC (sdS len f x k j) none (sdS len f x k (j + 1)) := by
 unfold labB at hb
 cases h1 : (f j).kind == 1
 . refine sem_iter env9s_ok (GlobOk.none w) (p := { ts := [0, 1, 2, 7], bs := [], ls := [0] }) (fuel := 1000) [true, false]
     [(pre (inI ((j : Int) + 1)), true), ((f (j : Int).toNat).kind == 1, false), (pre (decide ((j : Int).toNat < len)), true), (pre (decide ((j : Int).toNat < len)), true), (pre (idxB (j : Int) len), true), (decide ((j : Int) < k), true)] (by kernel_rfl) (by kernel_rfl) ?_
   rw [qN]
   exact qA (ob_inI (by omega)) <| qA h1 <| qA (ob_lt (by omega)) <| qA (ob_lt (by omega)) <| qA (ob_idx (by omega)) <| qA (ob_yes (by omega)) qZ
 . rw [h1, Bool.true_and] at hb
   refine sem_iter env9s_ok (GlobOk.none w) (p := { ts := [0, 1, 2, 7], bs := [], ls := [0] }) (fuel := 1000) [true, true, false]
     [(pre (inI ((j : Int) + 1)), true), ((f (j : Int).toNat).n == x, false), (pre (decide ((j : Int).toNat < len)), true), (pre (decide ((j : Int).toNat < len)), true), (pre (idxB (j : Int) len), true), ((f (j : Int).toNat).kind == 1, true), (pre (decide ((j : Int).toNat < len)), true), (pre (decide ((j : Int).toNat < len)), true), (pre (idxB (j : Int) len), true), (decide ((j : Int) < k), true)] (by kernel_rfl) (by kernel_rfl) ?_
   rw [qN]
   exact qA (ob_inI (by omega)) <| qA hb <| qA (ob_lt (by omega)) <| qA (ob_lt (by omega)) <| qA (ob_idx (by omega)) <| qA h1 <| qA (ob_lt (by omega)) <| qA (ob_lt (by omega)) <| qA (ob_idx (by omega)) <| qA (ob_yes (by omega)) qZ
theorem sd_end (len : Nat) (f : Nat -> It) (x : Int) (k : Nat) (w : World) : S2.Sem env9s w 28 sdC (sdS len f x k k) (some (some 0)) (sdS len f x k k) :=
 sem_iter env9s_ok (GlobOk.none w) (p := { ts := [0, 1, 2, 7], bs := [], ls := [0] }) (fuel := 1000) [false] [(decide ((k : Int) < k), false)] (by kernel_rfl) (by kernel_rfl) (qA (ob_no (by omega)) qZ)
theorem sd_yes (len : Nat) (f : Nat -> It) (x : Int) (k j : Nat) (hl : len <= 1000000000000) (hk : k <= len) (hj : j < k) (hb : labB f x j = true) (w : World) : S2.Sem env9s w 28 sdC (sdS len f x k j) (some none) sdR := by
 unfold labB at hb
 obtain ⟨h1, h2⟩ := Bool.and_eq_true_iff.mp hb
 refine sem_iter env9s_ok (GlobOk.none w) (p := { ts := [6], bs := [], ls := [] }) (fuel := 1000) [true, true, true]
     [((f (j : Int).toNat).n == x, true), (pre (decide ((j : Int).toNat < len)), true), (pre (decide ((j : Int).toNat < len)), true), (pre (idxB (j : Int) len), true), ((f (j : Int).toNat).kind == 1, true), (pre (decide ((j : Int).toNat < len)), true), (pre (decide ((j : Int).toNat < len)), true), (pre (idxB (j : Int) len), true), (decide ((j : Int) < k), true)] (by kernel_rfl) (by kernel_rfl) ?_
 rw [qN]
 exact qA h2 <| qA (ob_lt (by omega)) <| qA (ob_lt (by omega)) <| qA (ob_idx (by omega)) <| qA h1 <| qA (ob_lt (by omega)) <| qA (ob_lt (by omega)) <| qA (ob_idx (by omega)) <| qA (ob_yes (by omega)) qZ
theorem refStands_ret (len : Nat) (f : Nat -> It) (x : Int) (k : Nat) (hl : len <= 1000000000000) (hk : k <= len) (w : World) (vals : List Value) (ha : ArgsOk w [.inr (itE len f), .inl (.int .i64 x), .inl (.int .i64 k)] vals) : LRet Tryd.prog 32 vals false [.inl (.bool (standsB f x k))] w := by
 have hG := GlobOk.none w
 cases hb : standsB f x k <;> unfold standsB at hb
 . refine fn_ok env9s_ok (fuel := 1000) (d := 30) (plan := [⟨[0, 1, 0, 1], sdP, some (some 0), sdS len f x k k⟩]) (orc := []) (fls := [[], [true], [true]]) (l := []) (tr := [⟨.loop sdC, sdS len f x k 0, some (some 0), sdS len f x k k⟩]) (by kernel_rfl) qZ Tryd.func32 w vals hG ha fun t ht => ?_
   obtain rfl := List.mem_singleton.mp ht
   exact sem_loop (sdS len f x k) k (by simp) (fun j hj => sd_step len f x k j hl hk hj (any_no hb j hj) w) (sd_end len f x k w)
 . obtain ⟨j, hj, hbj, hpre⟩ := first_yes _ _ hb
   refine fn_ok env9s_ok (fuel := 1000) (d := 30) (plan := [⟨[0, 1, 0, 1], sdP, some none, sdR⟩]) (orc := []) (fls := [[], [true], [true]]) (l := []) (tr := [⟨.loop sdC, sdS len f x k 0, some none, sdR⟩]) (by kernel_rfl) qZ Tryd.func32 w vals hG ha fun t ht => ?_
   obtain rfl := List.mem_singleton.mp ht
   exact sem_loop (sdS len f x k) j (by simp) (fun i hi => sd_step len f x k i hl hk (by omega) (hpre i hi) w) (sd_yes len f x k j hl hk hj hbj w)
def decIt : List Value -> Option It
 | [.agg cs] => match cs.toList with
   | [.int .i64 k, .int .i64 a, .int .i64 b, .int .i64 c, .int .i64 d, .int .i64 e, .bool f, .bool g, .int .i64 n, .int .i64 m] => some ⟨k, ⟨a, b, c, d, e, f, g⟩, n, m⟩
   | _ => none
 | _ => none
theorem decIt_eq : ∀ (l : List Value) (i : It), decIt l = some i -> l = [itV i] := by
 intro l i h
 unfold decIt at h
 split at h
 . rename_i cs
   split at h
   . rename_i hc
     cases h
     obtain ⟨ls⟩ := cs
     simp only at hc
     subst hc
     rfl
   . cases h
 . cases h
def tRight : Tab := row 31 decIt fun i => .bool (rightB i)
theorem tRight_ok {gl : Gl} : TabOk Tryd.prog gl tRight := tabV decIt_eq fun x w hG => refRight_ret x w
def isItE (e : LE) (n : Nat) (f : Nat -> It) : Prop := e.size = 10 /\ e.n = n /\ (∀ j, j < n -> e.el j = itC (f j)) /\ n <= 1000000000000
theorem InB.it {B : Nat} {w : World} {e : LE} {v : Value} {n : Nat} {f : Nat -> It} (h : InB B w e v) (he : isItE e n f) : InB B w (itE n f) v := by
 obtain ⟨h1, h2, h3, _⟩ := he
 subst h2
 obtain ⟨_, a, cap, hv, hcap, hc⟩ := h
 refine ⟨⟨by show 0 < 10; decide, fun j hj => ⟨rfl, rfl⟩⟩, a, cap, hv, hcap, fun hp => ?_⟩
 obtain ⟨b, off, ha, hb, hcell⟩ := hc hp
 refine ⟨b, off, ha, hb, fun j hj o c ho => ?_⟩
 have := hcell j hj o c (by rw [h3 j hj]; exact ho)
 rw [h1] at this
 exact this
noncomputable def lStands (n : Nat) (f : Nat -> It) : LTab := lrow 32 fun args => match args with
 | [.inr e, .inl (.int .i64 x), .inl (.int .i64 k)] => some (false, [.inl (.bool (standsB f x k.toNat))], pre (propB (isItE e n f /\ 0 <= k /\ k <= n)))
 | _ => none
theorem lStands_ok {gl : Nat -> Option (List Value)} (n : Nat) (f : Nat -> It) : LTabOk Tryd.prog gl (lStands n f) := .row fun args tup res h w vals hG ha => by
 split at h
 . rename_i e x k
   simp only [qS, qP] at h
   obtain ⟨rfl, rfl, hp⟩ := h
   obtain ⟨h1, h2, h3⟩ := propB_ok.mp hp
   obtain ⟨k, rfl⟩ := Int.eq_ofNat_of_zero_le h2
   rw [qN]
   cases vals with
   | nil => exact ha.elim
   | cons u r => exact refStands_ret n f x k h1.2.2.2 (by omega) w (u :: r) ⟨InB.it ha.1 h1, ha.2⟩
 . cases h
def bad1 (f : Nat -> It) (j : Nat) : Bool := !rightB (f j)
def bad2 (f : Nat -> It) (j : Nat) : Bool := (f j).kind == 1 && standsB f (f j).n j
def bad3 (n : Nat) (f : Nat -> It) (j : Nat) : Bool := ((f j).kind == 2 || (f j).kind == 3) && !standsB f (f j).n n
def fstN (p : Nat -> Bool) (n : Nat) : Option Nat := (List.range n).find? p
theorem fst_some {p : Nat -> Bool} {n j : Nat} (h : fstN p n = some j) : j < n /\ p j = true /\ ∀ i, i < j -> p i = false := by
 unfold fstN at h
 rw [List.find?_range_eq_some] at h
 obtain ⟨h1, h2, h3⟩ := h
 exact ⟨List.mem_range.mp h2, h1, fun i hi => by simpa using h3 i hi⟩
theorem fst_none {p : Nat -> Bool} {n : Nat} (h : fstN p n = none) (j : Nat) (hj : j < n) : p j = false := by
 unfold fstN at h
 rw [List.find?_eq_none] at h
 simpa using h j (List.mem_range.mpr hj)
def unitR (n : Nat) (f : Nat -> It) : Int × Int := match fstN (bad1 f) n with
 | some j => (j, 1)
 | none => match fstN (bad2 f) n with
   | some j => (j, 5)
   | none => match fstN (bad3 n f) n with
     | some j => (j, 4)
     | none => (0, 0)
noncomputable def env9c (n : Nat) (f : Nat -> It) : S2.Env := envq Tryd.prog (fun _ => none) tRight noP (lStands n f)
theorem env9c_ok (n : Nat) (f : Nat -> It) : CallOk (env9c n f) := envq_ok tRight_ok (.none _ _) (lStands_ok n f)
def ckS (m n : Nat) (f : Nat -> It) (j : Nat) : S2.St := { tmps := [(0, .c 0), (m, .inl ([true], .int .i64 j))], own := ⟨[], [itE n f]⟩, lo := 0, llo := 0, mem := true, orc := [], obl := [] }
def ckR (j : Nat) (e : Int) : S2.St := { tmps := [(2, .inl ([true], .int .i64 j)), (3, .inl ([], .int .i64 e))], own := ⟨[], []⟩, lo := 0, llo := 0, mem := true, orc := [], obl := [] }
noncomputable def ckC (p : List Nat) : Code := codeAt (codeOf Tryd.prog 20) (0 :: p)
def ckP1 : List Nat := [0, 1, 0, 1]
def ckP2 : List Nat := [0, 1, 0, 1, 1]
def ckP3 : List Nat := [0, 1, 0, 1, 1, 1]
def ckQ (m : Nat) : Pick := { ts := [0, m], bs := [], ls := [0], opn := [m] }
theorem isItE_self (n : Nat) (f : Nat -> It) (hn : n <= 1000000000000) : isItE (itE n f) n f := ⟨rfl, rfl, fun _ _ => rfl, hn⟩
theorem ck1_step (n : Nat) (f : Nat -> It) (hn : n <= 1000000000000) (j : Nat) (hj : j < n) (hb : bad1 f j = false) (w : World) : S2.Sem (env9c n f) w 76 (ckC ckP1) (ckS 4 n f j) none (ckS 4 n f (j + 1)) := by
 unfold bad1 at hb
 refine sem_iter (env9c_ok n f) (GlobOk.none w) (p := { ts := [0, 4], bs := [], ls := [0] }) (fuel := 1000) [true, false] [(pre (inI ((j : Int) + 1)), true), (!rightB (f (j : Int).toNat), false), (pre (decide ((j : Int).toNat < n)), true), (pre (idxB (j : Int) n), true), (decide ((j : Int) < n), true)] (by kernel_rfl) (by kernel_rfl) ?_
 rw [qN]
 exact qA (ob_inI (by omega)) <| qA hb <| qA (ob_lt hj) <| qA (ob_idx (by omega)) <| qA (ob_yes (by omega)) qZ
theorem ck1_bad (n : Nat) (f : Nat -> It) (hn : n <= 1000000000000) (j : Nat) (hj : j < n) (hb : bad1 f j = true) (w : World) : S2.Sem (env9c n f) w 76 (ckC ckP1) (ckS 4 n f j) (some none) (ckR j 1) := by
 unfold bad1 at hb
 refine sem_iter (env9c_ok n f) (GlobOk.none w) (p := { ts := [2, 3], bs := [], ls := [] }) (fuel := 1000) [true, true] [(!rightB (f (j : Int).toNat), true), (pre (decide ((j : Int).toNat < n)), true), (pre (idxB (j : Int) n), true), (decide ((j : Int) < n), true)] (by kernel_rfl) (by kernel_rfl) ?_
 rw [qN]
 exact qA hb <| qA (ob_lt hj) <| qA (ob_idx (by omega)) <| qA (ob_yes (by omega)) qZ
theorem ck2_step (n : Nat) (f : Nat -> It) (hn : n <= 1000000000000) (j : Nat) (hj : j < n) (hb : bad2 f j = false) (w : World) : S2.Sem (env9c n f) w 76 (ckC ckP2) (ckS 5 n f j) none (ckS 5 n f (j + 1)) := by
 unfold bad2 at hb
 cases h1 : (f j).kind == 1
 case' false =>
   refine sem_iter (env9c_ok n f) (GlobOk.none w) (p := { ts := [0, 5], bs := [], ls := [0] }) (fuel := 1000) [true, false] [(pre (inI ((j : Int) + 1)), true), ((f (j : Int).toNat).kind == 1, false), (pre (decide ((j : Int).toNat < n)), true), (pre (decide ((j : Int).toNat < n)), true), (pre (idxB (j : Int) n), true), (decide ((j : Int) < n), true)] (by kernel_rfl) (by kernel_rfl) ?_
   rw [qN]
   exact qA (ob_inI (by omega)) <| qA h1 <| qA (ob_lt hj) <| qA (ob_lt hj) <| qA (ob_idx (by omega)) <| qA (ob_yes (by omega)) qZ
 case' true =>
   rw [h1, Bool.true_and] at hb
   refine sem_iter (env9c_ok n f) (GlobOk.none w) (p := { ts := [0, 5], bs := [], ls := [0] }) (fuel := 1000) [true, true, false] [(pre (inI ((j : Int) + 1)), true), (standsB f (f (j : Int).toNat).n (j : Int).toNat, false), (pre (propB (isItE (itE n f) n f /\ 0 <= (j : Int) /\ (j : Int) <= (n : Int))), true), (pre (decide ((j : Int).toNat < n)), true), (pre (decide ((j : Int).toNat < n)), true), (pre (idxB (j : Int) n), true), ((f (j : Int).toNat).kind == 1, true), (pre (decide ((j : Int).toNat < n)), true), (pre (decide ((j : Int).toNat < n)), true), (pre (idxB (j : Int) n), true), (decide ((j : Int) < n), true)] (by kernel_rfl) (by kernel_rfl) ?_
   rw [qN]
   exact qA (ob_inI (by omega)) <| qA hb <| qA (propB_ok.mpr ⟨isItE_self n f hn, by omega, by omega⟩) <| qA (ob_lt hj) <| qA (ob_lt hj) <| qA (ob_idx (by omega)) <| qA h1 <| qA (ob_lt hj) <| qA (ob_lt hj) <| qA (ob_idx (by omega)) <| qA (ob_yes (by omega)) qZ
theorem ck2_bad (n : Nat) (f : Nat -> It) (hn : n <= 1000000000000) (j : Nat) (hj : j < n) (hb : bad2 f j = true) (w : World) : S2.Sem (env9c n f) w 76 (ckC ckP2) (ckS 5 n f j) (some none) (ckR j 5) := by
 unfold bad2 at hb
 obtain ⟨h1, h2⟩ := Bool.and_eq_true_iff.mp hb
 refine sem_iter (env9c_ok n f) (GlobOk.none w) (p := { ts := [2, 3], bs := [], ls := [] }) (fuel := 1000) [true, true, true] [(standsB f (f (j : Int).toNat).n (j : Int).toNat, true), (pre (propB (isItE (itE n f) n f /\ 0 <= (j : Int) /\ (j : Int) <= (n : Int))), true), (pre (decide ((j : Int).toNat < n)), true), (pre (decide ((j : Int).toNat < n)), true), (pre (idxB (j : Int) n), true), ((f (j : Int).toNat).kind == 1, true), (pre (decide ((j : Int).toNat < n)), true), (pre (decide ((j : Int).toNat < n)), true), (pre (idxB (j : Int) n), true), (decide ((j : Int) < n), true)] (by kernel_rfl) (by kernel_rfl) ?_
 rw [qN]
 exact qA h2 <| qA (propB_ok.mpr ⟨isItE_self n f hn, by omega, by omega⟩) <| qA (ob_lt hj) <| qA (ob_lt hj) <| qA (ob_idx (by omega)) <| qA h1 <| qA (ob_lt hj) <| qA (ob_lt hj) <| qA (ob_idx (by omega)) <| qA (ob_yes (by omega)) qZ
theorem ck3_step (n : Nat) (f : Nat -> It) (hn : n <= 1000000000000) (j : Nat) (hj : j < n) (hb : bad3 n f j = false) (w : World) : S2.Sem (env9c n f) w 76 (ckC ckP3) (ckS 6 n f j) none (ckS 6 n f (j + 1)) := by
 unfold bad3 at hb
 cases h2 : (f j).kind == 2
 case' false =>
   rw [h2, Bool.false_or] at hb
   cases h3 : (f j).kind == 3
   case' false =>
     refine sem_iter (env9c_ok n f) (GlobOk.none w) (p := { ts := [0, 6], bs := [], ls := [0] }) (fuel := 1000) [true, false, false] [(pre (inI ((j : Int) + 1)), true), ((f (j : Int).toNat).kind == 3, false), (pre (decide ((j : Int).toNat < n)), true), (pre (decide ((j : Int).toNat < n)), true), (pre (idxB (j : Int) n), true), ((f (j : Int).toNat).kind == 2, false), (pre (decide ((j : Int).toNat < n)), true), (pre (decide ((j : Int).toNat < n)), true), (pre (idxB (j : Int) n), true), (decide ((j : Int) < n), true)] (by kernel_rfl) (by kernel_rfl) ?_
     rw [qN]
     exact qA (ob_inI (by omega)) <| qA h3 <| qA (ob_lt hj) <| qA (ob_lt hj) <| qA (ob_idx (by omega)) <| qA h2 <| qA (ob_lt hj) <| qA (ob_lt hj) <| qA (ob_idx (by omega)) <| qA (ob_yes (by omega)) qZ
   case' true =>
     rw [h3, Bool.true_and] at hb
     refine sem_iter (env9c_ok n f) (GlobOk.none w) (p := { ts := [0, 6], bs := [], ls := [0] }) (fuel := 1000) [true, false, true, false] [(pre (inI ((j : Int) + 1)), true), (!standsB f (f (j : Int).toNat).n (n : Int).toNat, false), (pre (propB (isItE (itE n f) n f /\ 0 <= ((n : Nat) : Int) /\ ((n : Nat) : Int) <= (n : Int))), true), (pre (decide ((j : Int).toNat < n)), true), (pre (decide ((j : Int).toNat < n)), true), (pre (idxB (j : Int) n), true), ((f (j : Int).toNat).kind == 3, true), (pre (decide ((j : Int).toNat < n)), true), (pre (decide ((j : Int).toNat < n)), true), (pre (idxB (j : Int) n), true), ((f (j : Int).toNat).kind == 2, false), (pre (decide ((j : Int).toNat < n)), true), (pre (decide ((j : Int).toNat < n)), true), (pre (idxB (j : Int) n), true), (decide ((j : Int) < n), true)] (by kernel_rfl) (by kernel_rfl) ?_
     rw [qN]
     exact qA (ob_inI (by omega)) <| qA hb <| qA (propB_ok.mpr ⟨isItE_self n f hn, by omega, by omega⟩) <| qA (ob_lt hj) <| qA (ob_lt hj) <| qA (ob_idx (by omega)) <| qA h3 <| qA (ob_lt hj) <| qA (ob_lt hj) <| qA (ob_idx (by omega)) <| qA h2 <| qA (ob_lt hj) <| qA (ob_lt hj) <| qA (ob_idx (by omega)) <| qA (ob_yes (by omega)) qZ
 case' true =>
   rw [h2, Bool.true_or, Bool.true_and] at hb
   refine sem_iter (env9c_ok n f) (GlobOk.none w) (p := { ts := [0, 6], bs := [], ls := [0] }) (fuel := 1000) [true, true, false] [(pre (inI ((j : Int) + 1)), true), (!standsB f (f (j : Int).toNat).n (n : Int).toNat, false), (pre (propB (isItE (itE n f) n f /\ 0 <= ((n : Nat) : Int) /\ ((n : Nat) : Int) <= (n : Int))), true), (pre (decide ((j : Int).toNat < n)), true), (pre (decide ((j : Int).toNat < n)), true), (pre (idxB (j : Int) n), true), ((f (j : Int).toNat).kind == 2, true), (pre (decide ((j : Int).toNat < n)), true), (pre (decide ((j : Int).toNat < n)), true), (pre (idxB (j : Int) n), true), (decide ((j : Int) < n), true)] (by kernel_rfl) (by kernel_rfl) ?_
   rw [qN]
   exact qA (ob_inI (by omega)) <| qA hb <| qA (propB_ok.mpr ⟨isItE_self n f hn, by omega, by omega⟩) <| qA (ob_lt hj) <| qA (ob_lt hj) <| qA (ob_idx (by omega)) <| qA h2 <| qA (ob_lt hj) <| qA (ob_lt hj) <| qA (ob_idx (by omega)) <| qA (ob_yes (by omega)) qZ
theorem ck3_bad (n : Nat) (f : Nat -> It) (hn : n <= 1000000000000) (j : Nat) (hj : j < n) (hb : bad3 n f j = true) (w : World) : S2.Sem (env9c n f) w 76 (ckC ckP3) (ckS 6 n f j) (some none) (ckR j 4) := by
 unfold bad3 at hb
 cases h2 : (f j).kind == 2
 case' false =>
   rw [h2, Bool.false_or] at hb
   cases h3 : (f j).kind == 3
   case' false =>
     rw [h3] at hb; cases hb
   case' true =>
     rw [h3, Bool.true_and] at hb
     refine sem_iter (env9c_ok n f) (GlobOk.none w) (p := { ts := [2, 3], bs := [], ls := [] }) (fuel := 1000) [true, false, true, true] [(!standsB f (f (j : Int).toNat).n (n : Int).toNat, true), (pre (propB (isItE (itE n f) n f /\ 0 <= ((n : Nat) : Int) /\ ((n : Nat) : Int) <= (n : Int))), true), (pre (decide ((j : Int).toNat < n)), true), (pre (decide ((j : Int).toNat < n)), true), (pre (idxB (j : Int) n), true), ((f (j : Int).toNat).kind == 3, true), (pre (decide ((j : Int).toNat < n)), true), (pre (decide ((j : Int).toNat < n)), true), (pre (idxB (j : Int) n), true), ((f (j : Int).toNat).kind == 2, false), (pre (decide ((j : Int).toNat < n)), true), (pre (decide ((j : Int).toNat < n)), true), (pre (idxB (j : Int) n), true), (decide ((j : Int) < n), true)] (by kernel_rfl) (by kernel_rfl) ?_
     rw [qN]
     exact qA hb <| qA (propB_ok.mpr ⟨isItE_self n f hn, by omega, by omega⟩) <| qA (ob_lt hj) <| qA (ob_lt hj) <| qA (ob_idx (by omega)) <| qA h3 <| qA (ob_lt hj) <| qA (ob_lt hj) <| qA (ob_idx (by omega)) <| qA h2 <| qA (ob_lt hj) <| qA (ob_lt hj) <| qA (ob_idx (by omega)) <| qA (ob_yes (by omega)) qZ
 case' true =>
   rw [h2, Bool.true_or, Bool.true_and] at hb
   refine sem_iter (env9c_ok n f) (GlobOk.none w) (p := { ts := [2, 3], bs := [], ls := [] }) (fuel := 1000) [true, true, true] [(!standsB f (f (j : Int).toNat).n (n : Int).toNat, true), (pre (propB (isItE (itE n f) n f /\ 0 <= ((n : Nat) : Int) /\ ((n : Nat) : Int) <= (n : Int))), true), (pre (decide ((j : Int).toNat < n)), true), (pre (decide ((j : Int).toNat < n)), true), (pre (idxB (j : Int) n), true), ((f (j : Int).toNat).kind == 2, true), (pre (decide ((j : Int).toNat < n)), true), (pre (decide ((j : Int).toNat < n)), true), (pre (idxB (j : Int) n), true), (decide ((j : Int) < n), true)] (by kernel_rfl) (by kernel_rfl) ?_
   rw [qN]
   exact qA hb <| qA (propB_ok.mpr ⟨isItE_self n f hn, by omega, by omega⟩) <| qA (ob_lt hj) <| qA (ob_lt hj) <| qA (ob_idx (by omega)) <| qA h2 <| qA (ob_lt hj) <| qA (ob_lt hj) <| qA (ob_idx (by omega)) <| qA (ob_yes (by omega)) qZ
theorem ck1_end (n : Nat) (f : Nat -> It) (w : World) : S2.Sem (env9c n f) w 76 (ckC ckP1) (ckS 4 n f n) (some (some 0)) (ckS 4 n f n) :=
 sem_iter (env9c_ok n f) (GlobOk.none w) (p := { ts := [0, 4], bs := [], ls := [0] }) (fuel := 1000) [false] [(decide ((n : Int) < n), false)] (by kernel_rfl) (by kernel_rfl) (qA (ob_no (by omega)) qZ)
theorem ck2_end (n : Nat) (f : Nat -> It) (w : World) : S2.Sem (env9c n f) w 76 (ckC ckP2) (ckS 5 n f n) (some (some 2)) (ckS 5 n f n) :=
 sem_iter (env9c_ok n f) (GlobOk.none w) (p := { ts := [0, 5], bs := [], ls := [0] }) (fuel := 1000) [false] [(decide ((n : Int) < n), false)] (by kernel_rfl) (by kernel_rfl) (qA (ob_no (by omega)) qZ)
theorem ck3_end (n : Nat) (f : Nat -> It) (w : World) : S2.Sem (env9c n f) w 76 (ckC ckP3) (ckS 6 n f n) (some (some 4)) (ckS 6 n f n) :=
 sem_iter (env9c_ok n f) (GlobOk.none w) (p := { ts := [0, 6], bs := [], ls := [0] }) (fuel := 1000) [false] [(decide ((n : Int) < n), false)] (by kernel_rfl) (by kernel_rfl) (qA (ob_no (by omega)) qZ)
theorem refUnit_ret (n : Nat) (f : Nat -> It) (hn : n <= 1000000000000) (w : World) (vals : List Value) (ha : ArgsOk w [.inr (itE n f)] vals) : LRet Tryd.prog 20 vals false [.inl (.tuple #[.int .i64 (unitR n f).1, .int .i64 (unitR n f).2])] w := by
 have hG := GlobOk.none w
 unfold unitR
 cases e1 : fstN (bad1 f) n with
 | some j =>
   obtain ⟨hj, hbj, hpre⟩ := fst_some e1
   refine fn_ok (env9c_ok n f) (fuel := 1000) (d := 30) (plan := [⟨ckP1, ckQ 4, some none, ckR j 1⟩]) (orc := []) (fls := [[]]) (l := []) (tr := [⟨.loop (ckC ckP1), ckS 4 n f 0, some none, ckR j 1⟩]) (by kernel_rfl) qZ Tryd.func20 w vals hG ha fun t ht => ?_
   obtain rfl := List.mem_singleton.mp ht
   exact sem_loop (ckS 4 n f) j (by simp) (fun i hi => ck1_step n f hn i (by omega) (hpre i hi) w) (ck1_bad n f hn j hj hbj w)
 | none =>
   cases e2 : fstN (bad2 f) n with
   | some j =>
     obtain ⟨hj, hbj, hpre⟩ := fst_some e2
     refine fn_ok (env9c_ok n f) (fuel := 1000) (d := 30) (plan := [⟨ckP1, ckQ 4, some (some 0), ckS 4 n f n⟩, ⟨ckP2, ckQ 5, some none, ckR j 5⟩]) (orc := []) (fls := [[]]) (l := []) (tr := [⟨.loop (ckC ckP1), ckS 4 n f 0, some (some 0), ckS 4 n f n⟩, ⟨.loop (ckC ckP2), ckS 5 n f 0, some none, ckR j 5⟩]) (by kernel_rfl) qZ Tryd.func20 w vals hG ha fun t ht => ?_
     rcases List.mem_cons.mp ht with rfl | ht
     . exact sem_loop (ckS 4 n f) n (by simp) (fun i hi => ck1_step n f hn i hi (fst_none e1 i hi) w) (ck1_end n f w)
     obtain rfl := List.mem_singleton.mp ht
     exact sem_loop (ckS 5 n f) j (by simp) (fun i hi => ck2_step n f hn i (by omega) (hpre i hi) w) (ck2_bad n f hn j hj hbj w)
   | none =>
     cases e3 : fstN (bad3 n f) n with
     | some j =>
       obtain ⟨hj, hbj, hpre⟩ := fst_some e3
       refine fn_ok (env9c_ok n f) (fuel := 1000) (d := 30) (plan := [⟨ckP1, ckQ 4, some (some 0), ckS 4 n f n⟩, ⟨ckP2, ckQ 5, some (some 2), ckS 5 n f n⟩, ⟨ckP3, ckQ 6, some none, ckR j 4⟩]) (orc := []) (fls := [[]]) (l := []) (tr := [⟨.loop (ckC ckP1), ckS 4 n f 0, some (some 0), ckS 4 n f n⟩, ⟨.loop (ckC ckP2), ckS 5 n f 0, some (some 2), ckS 5 n f n⟩, ⟨.loop (ckC ckP3), ckS 6 n f 0, some none, ckR j 4⟩]) (by kernel_rfl) qZ Tryd.func20 w vals hG ha fun t ht => ?_
       rcases List.mem_cons.mp ht with rfl | ht
       . exact sem_loop (ckS 4 n f) n (by simp) (fun i hi => ck1_step n f hn i hi (fst_none e1 i hi) w) (ck1_end n f w)
       rcases List.mem_cons.mp ht with rfl | ht
       . exact sem_loop (ckS 5 n f) n (by simp) (fun i hi => ck2_step n f hn i hi (fst_none e2 i hi) w) (ck2_end n f w)
       obtain rfl := List.mem_singleton.mp ht
       exact sem_loop (ckS 6 n f) j (by simp) (fun i hi => ck3_step n f hn i (by omega) (hpre i hi) w) (ck3_bad n f hn j hj hbj w)
     | none =>
       refine fn_ok (env9c_ok n f) (fuel := 1000) (d := 30) (plan := [⟨ckP1, ckQ 4, some (some 0), ckS 4 n f n⟩, ⟨ckP2, ckQ 5, some (some 2), ckS 5 n f n⟩, ⟨ckP3, ckQ 6, some (some 4), ckS 6 n f n⟩]) (orc := []) (fls := [[]]) (l := []) (tr := [⟨.loop (ckC ckP1), ckS 4 n f 0, some (some 0), ckS 4 n f n⟩, ⟨.loop (ckC ckP2), ckS 5 n f 0, some (some 2), ckS 5 n f n⟩, ⟨.loop (ckC ckP3), ckS 6 n f 0, some (some 4), ckS 6 n f n⟩]) (by kernel_rfl) qZ Tryd.func20 w vals hG ha fun t ht => ?_
       rcases List.mem_cons.mp ht with rfl | ht
       . exact sem_loop (ckS 4 n f) n (by simp) (fun i hi => ck1_step n f hn i hi (fst_none e1 i hi) w) (ck1_end n f w)
       rcases List.mem_cons.mp ht with rfl | ht
       . exact sem_loop (ckS 5 n f) n (by simp) (fun i hi => ck2_step n f hn i hi (fst_none e2 i hi) w) (ck2_end n f w)
       obtain rfl := List.mem_singleton.mp ht
       exact sem_loop (ckS 6 n f) n (by simp) (fun i hi => ck3_step n f hn i hi (fst_none e3 i hi) w) (ck3_end n f w)
end Go.Proofs.YtilljoemebbnjaaDoor
