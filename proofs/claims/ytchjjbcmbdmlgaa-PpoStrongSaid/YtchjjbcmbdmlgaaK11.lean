/- Las16, Lin16, RelA14. -/
import Derived.Test.YtchjjbcmbdmlgaaK03
import Derived.Test.YtchjjbcmbdmlgaaPlb16
import Derived.OrdersIn
import Derived.RangeFuncCalls
set_option linter.unusedVariables false
set_option linter.unusedSimpArgs false
namespace Go.Proofs.Ytchjjbcmbdmlgaa
open Go Go.RowKit
def wpL (P : Program) (ops : Array Oper) (Q : Exit → Act → World → Prop) (S : World → Prop) (l : Nat) : Nat → Array Bool → Act → World → Prop
  | 0, listed, a, w => Region.ready .any ops listed = [] ∧ Q .normal a w
  | n + 1, listed, a, w => (Region.ready .any ops listed = [] → Q .normal a w) ∧ ∀ i ∈ Region.ready .any ops listed, wpOp P ops Q i (fun a' w' => (i = l ∨ S w') ∧ wpL P ops Q S l n (listed.setIfInBounds i true) a' w') a w
section
variable {P : Program} {ops : Array Oper} {Q : Exit → Act → World → Prop} {S : World → Prop} {l : Nat}
theorem wpL_any : ∀ (n : Nat) (listed : Array Bool) (a : Act) (w : World), wpL P ops Q S l n listed a w → wpAny P .any ops Q n listed a w
  | 0, _, _, _, h => h
  | n + 1, _, _, _, h => ⟨h.1, fun i hi => wpOp_mono (fun _ _ h' => wpL_any n _ _ _ h'.2) (h.2 i hi)⟩
def reachB (ops : Array Oper) : Nat → Nat → Nat → Bool
  | 0, l, i => l == i
  | n + 1, l, i => l == i || (match ops[l]? with
    | some o => o.after.any fun e => Region.binds .any e && reachB ops n e.on i
    | none => false)
def waitsB (ops : Array Oper) (l i : Nat) : Bool := match ops[l]? with
  | some o => o.after.any fun e => Region.binds .any e && reachB ops 24 e.on i
  | none => false
def Cl (ops : Array Oper) (listed : Array Bool) : Prop := ∀ j o, ops[j]? = some o → listed.getD j false = true → ∀ e ∈ o.after, Region.binds .any e = true → listed.getD e.on false = true
theorem getD_set {listed : Array Bool} {i k : Nat} (h : listed.getD k false = true) : (listed.setIfInBounds i true).getD k false = true := by
  rw [Array.getD_eq_getD_getElem?] at h ⊢
  rw [Array.getElem?_setIfInBounds]
  split
  · rename_i e
    subst e
    split
    · rfl
    · rename_i hs
      rw [Array.getElem?_eq_none (by omega)] at h
      cases h
  · exact h
theorem Cl.set {listed : Array Bool} (h : Cl ops listed) {i : Nat} (hi : i ∈ Region.ready .any ops listed) : Cl ops (listed.setIfInBounds i true) := fun j o ho hj e he hb => by
  obtain ⟨_, oi, hoi, hall⟩ := mem_ready.1 hi
  refine getD_set ?_
  by_cases hji : j = i
  · subst hji
    rw [hoi] at ho
    cases ho
    have := hall e he hb
    first | exact this | simpa using this
  · refine h j o ho ?_ e he hb
    rw [Array.getD_eq_getD_getElem?] at hj ⊢
    rwa [Array.getElem?_setIfInBounds_ne (fun e => hji e.symm)] at hj
theorem Cl.reach {listed : Array Bool} (h : Cl ops listed) {i : Nat} : ∀ (n l : Nat), listed.getD l false = true → reachB ops n l i = true → listed.getD i false = true
  | 0, l, hl, hr => by
    have : l = i := by simpa [reachB] using hr
    subst this; exact hl
  | n + 1, l, hl, hr => by
    unfold reachB at hr
    rw [Bool.or_eq_true] at hr
    rcases hr with hr | hr
    · have : l = i := by simpa using hr
      subst this; exact hl
    · split at hr
      · rename_i o ho
        obtain ⟨e, he, hb⟩ := Array.any_eq_true'.1 hr
        simp only [Bool.and_eq_true] at hb
        exact h.reach n e.on (h l o ho hl e he hb.1) hb.2
      · cases hr
theorem waits_not {i : Nat} {listed : Array Bool} (hc : Cl ops listed) (hw : waitsB ops l i = true) (hi : i ∈ Region.ready .any ops listed) : l ∉ Region.ready .any ops listed := fun hl => by
  obtain ⟨_, o, ho, hall⟩ := mem_ready.1 hl
  unfold waitsB at hw
  rw [ho] at hw
  obtain ⟨e, he, hb⟩ := Array.any_eq_true'.1 hw
  simp only [Bool.and_eq_true] at hb
  have h1 : listed.getD e.on false = true := by
    have := hall e he hb.1
    first | exact this | simpa using this
  have h2 := hc.reach 24 e.on h1 hb.2
  have h0 := (mem_ready.1 hi).1
  rcases Nat.lt_or_ge i listed.size with h' | h'
  · simp [h'] at h0 h2; rw [h0] at h2; cases h2
  · simp [Array.getElem?_eq_none h'] at h2
theorem wpL_first {i : Nat} {oi : Oper} {v : Value} (hi : ops[i]? = some oi) (hsel : ∀ (j : Nat) (o : Oper) cs b, ops[j]? = some o → o.op ≠ .select cs b) (hQ : ∀ c a w, Q (.panic c) (a.put oi.dst v) w → Q (.panic c) a w) (hw : waitsB ops l i = true) :
    ∀ (n : Nat) (listed : Array Bool) (a : Act) (w : World), Cl ops listed → (∀ j oj, ops[j]? = some oj → j ≠ i → listed.getD j true = false → (∀ e ∈ oj.after, Region.binds .any e = true → e.on ≠ i) → oi.apart ops oj = true) →
      i ∈ Region.ready .any ops listed → YieldsIf P ops S oi v a → S w → wpL P ops Q S l n (listed.setIfInBounds i true) (a.put oi.dst v) w → wpL P ops Q S l (n + 1) listed a w := fun n => by
  induction n with
  | zero =>
    refine fun listed a w _ _ hr hy hS H => ⟨fun h => (by rw [h] at hr; cases hr), fun j hj => ?_⟩
    rcases Nat.decEq j i with e | e
    · exact absurd (H.1 ▸ ready_mono hj e) (by simp)
    · subst e; exact hy.wpOp hi hS ⟨.inr hS, H⟩
  | succ n ih =>
    refine fun listed a w hc hfr hr hy hS H => ⟨fun h => (by rw [h] at hr; cases hr), fun j hj => ?_⟩
    rcases Nat.decEq j i with e | e
    · have hjl : j ≠ l := fun hx => waits_not hc hw hr (hx ▸ hj)
      obtain ⟨hu, oj, hoj, hall⟩ := mem_ready.1 hj
      have hnot : ∀ e ∈ oj.after, Region.binds .any e = true → e.on ≠ i := fun x hx hb hc => by
        have h1 := hall x hx hb
        have h0 := (mem_ready.1 hr).1
        rw [hc] at h1
        rcases Nat.lt_or_ge i listed.size with h' | h'
        · simp [h'] at h0 h1; rw [h0] at h1; cases h1
        · simp [Array.getElem?_eq_none h'] at h1
      refine wpOp_mono (fun a' w' h3 => ?_) (wpOp_putIf hoj (hfr j oj hoj e hu hnot) (fun cs b => hsel i oi cs b hi) (fun cs b => hsel j oj cs b hoj) hQ hy (H.2 j (ready_mono hj e)))
      have hS' := h3.2.1.resolve_left hjl
      refine ⟨.inr hS', ih (listed.setIfInBounds j true) a' w' (hc.set hj) (fun k ok hk hki hun hno => hfr k ok hk hki ?_ hno) (ready_mono hr (Ne.symm e)) h3.1 hS' ?_⟩
      · by_cases hjk : j = k
        · subst hjk; exact hu
        · rw [getD_set_ne true hjk] at hun; exact hun
      · rw [Array.setIfInBounds_comm _ _ e]; exact h3.2.2
    · subst e; exact hy.wpOp hi hS ⟨.inr hS, H⟩
def waitsL (ops : Array Oper) (l : Nat) (is : List Nat) : Bool := is.all (waitsB ops l)
theorem last_takes (hsel : Region.noSelect ops = true) (hQ : ∀ c (a : Act) d v w, Q (.panic c) (a.put d v) w → Q (.panic c) a w) {w : World} (hS : S w) {fuel : Nat} : ∀ (is : List Nat) (listed : Array Bool) (a : Act), Cl ops listed → waitsL ops l is = true →
    takesB .any ops is listed = true → Takes P ops S (fun a' => wpL P ops Q S l fuel (listedBy is listed) a' w) is a → wpL P ops Q S l (is.length + fuel) listed a w
  | [], listed, a, _, _, _, h => by rw [List.length_nil, Nat.zero_add]; exact h
  | i :: r, listed, a, hC, hW, hB, ⟨o, v, ho, hy, h⟩ => by
    simp only [takesB, Bool.and_eq_true] at hB
    simp only [waitsL, List.all_cons, Bool.and_eq_true] at hW
    rw [List.length_cons, show r.length + 1 + fuel = (r.length + fuel) + 1 by omega]
    exact wpL_first ho (Region.noSelect_spec hsel) (fun c a w h => hQ c a _ _ w h) hW.1 _ listed a w hC (Region.free_spec ho hB.1.1) (by simpa using hB.1.2) hy hS (last_takes hsel hQ hS r _ _ (hC.set (by simpa using hB.1.2)) hW.2 hB.2 h)
theorem region_last {id : Nat} {a : Act} {w : World} (S : World → Prop) (l : Nat) (is : List Nat) (n : Nat) (hn : is.length + n = ops.size) (hm : P.follows .mixedOrders = true) (hsel : Region.noSelect ops = true) (hW : waitsL ops l is = true) (hB : takesB .any ops is (Array.replicate ops.size false) = true)
    (hQ : ∀ c (a : Act) d v w, Q (.panic c) (a.put d v) w → Q (.panic c) a w) (hS : S w.drew) (h : Takes P ops S (fun a' => wpL P ops Q S l n (listedBy is (Array.replicate ops.size false)) a' w.drew) is a) : (Code.region id ops true).wp P Q a w := by
  have hC : Cl ops (Array.replicate ops.size false) := fun j o ho hj => by
    rw [Array.getD_eq_getD_getElem?, Array.getElem?_replicate] at hj
    split at hj <;> simp at hj
  have h1 := last_takes (fuel := n) hsel hQ hS is _ _ hC hW hB h
  rw [hn] at h1
  exact wp_region_any hm (wpL_any _ _ _ _ h1)
theorem last_call {n i : Nat} {listed : Array Bool} {a : Act} {w : World} (o : Oper) (hr : Region.ready .any ops listed = [i]) (ho : ops[i]? = some o) (hw : Region.wanted o (yielded ops a.tmps) = true) {f : FuncId} {args : Array Value} (hv : (execOp a.eval o).run P w = .ok (.enter f args) w)
    (h : Calls P f args w fun e w' => ∃ v, e = .returned v ∧ (i = l ∨ S w') ∧ wpL P ops Q S l n (listed.setIfInBounds i true) (a.put o.dst v) w') : wpL P ops Q S l (n + 1) listed a w :=
  ⟨(fun h0 => by (rw [hr] at h0; cases h0)), fun j hj => by
    rw [hr] at hj
    have hj : j = i := by simpa using hj
    subst hj
    refine wpOp_step ho fun K hK => ?_
    rw [if_pos hw]
    unfold Oper.wp
    rw [hv, Oper.upon_enter]
    refine Calls.mono h fun e w' ⟨v, he, hS, h⟩ => ?_
    subst he
    exact hK _ _ ⟨hS, h⟩⟩
def clB (ops : Array Oper) (listed : Array Bool) : Bool := (List.range ops.size).all fun j => !listed.getD j false || (match ops[j]? with
  | some o => o.after.all fun e => !Region.binds .any e || listed.getD e.on false
  | none => true)
theorem cl_of {listed : Array Bool} (h : clB ops listed = true) : Cl ops listed := fun j o ho hj e he hb => by
  have hlt : j < ops.size := (Array.getElem?_eq_some_iff.1 ho).1
  have h1 := List.all_eq_true.mp h j (List.mem_range.mpr hlt)
  rw [hj, ho] at h1
  have h2 := Array.all_eq_true'.1 (show (o.after.all fun e => !Region.binds .any e || listed.getD e.on false) = true from h1) e he
  rw [hb] at h2
  exact h2
theorem last_more (hsel : Region.noSelect ops = true) (hQ : ∀ c (a : Act) d v w, Q (.panic c) (a.put d v) w → Q (.panic c) a w) {w : World} (hS : S w) {fuel : Nat} (is : List Nat) {listed : Array Bool} {a : Act} (hC : clB ops listed = true) (hW : waitsL ops l is = true)
    (hB : takesB .any ops is listed = true) (h : Takes P ops S (fun a' => wpL P ops Q S l fuel (listedBy is listed) a' w) is a) : wpL P ops Q S l (is.length + fuel) listed a w := last_takes hsel hQ hS is listed a (cl_of hC) hW hB h
theorem last_done {listed : Array Bool} {a : Act} {w : World} (hr : Region.ready .any ops listed = []) (h : Q .normal a w) : wpL P ops Q S l 0 listed a w := ⟨hr, h⟩
end
end Go.Proofs.Ytchjjbcmbdmlgaa
namespace Go.Proofs.Ytchjjbcmbdmlgaa
open Go Go.RowKit
def wpLI (m : Nat) (P : Program) (ops : Array Oper) (Q : Exit → Act → World → Prop) (S : World → Prop) (l : Nat) : Nat → Array Bool → Act → World → Prop
  | 0, listed, a, w => Region.ready .any ops listed = [] ∧ Q .normal a w
  | n + 1, listed, a, w => (Region.ready .any ops listed = [] → Q .normal a w) ∧ ∀ i ∈ Region.ready .any ops listed, wpOpIn Fence.wide m P ops Q i (fun a' w' => (i = l ∨ S w') ∧ wpLI m P ops Q S l n (listed.setIfInBounds i true) a' w') a w
section
variable {m : Nat} {P : Program} {ops : Array Oper} {Q : Exit → Act → World → Prop} {S : World → Prop} {l : Nat}
theorem wpLI_any : ∀ (n : Nat) (listed : Array Bool) (a : Act) (w : World), wpLI m P ops Q S l n listed a w → wpAnyIn Fence.wide m P .any ops Q n listed a w
  | 0, _, _, _, h => h
  | n + 1, _, _, _, h => ⟨h.1, fun i hi => wpOpIn_mono (fun _ _ h' => wpLI_any n _ _ _ h'.2) (h.2 i hi)⟩
theorem yieldsI {i : Nat} {o : Oper} {v : Value} {a : Act} (hi : ops[i]? = some o) (hy : YieldsIf P ops S o v a) {K : Act → World → Prop} {w : World} (hS : S w) (h : K (a.put o.dst v) w) : wpOpIn Fence.wide m P ops Q i K a w := by
  unfold Go.wpOpIn
  simp only [hi]
  rcases hy with ⟨hw, hv⟩ | ⟨hw, rfl⟩
  · simp only [hw, if_true, Oper.wpIn]
    rw [show Fence.wide.round = none from rfl, Oper.semAt_none, hv w hS]
    exact ⟨fun f _ => trivial, h⟩
  · simp only [hw, Bool.false_eq_true, if_false]; exact ⟨fun f _ => trivial, h⟩
theorem wpOpI_put {j : Nat} {oi oj : Oper} {v : Value} (hj : ops[j]? = some oj) (hap : oi.apart ops oj = true) (hsi : ∀ cs b, oi.op ≠ .select cs b) (hsj : ∀ cs b, oj.op ≠ .select cs b)
    (hQ : ∀ c a w, Q (.panic c) (a.put oi.dst v) w → Q (.panic c) a w) {K : Act → World → Prop} {a : Act} {w : World} (hy : YieldsIf P ops S oi v a) (h : wpOpIn Fence.wide m P ops Q j K (a.put oi.dst v) w) :
    wpOpIn Fence.wide m P ops Q j (fun a' w' => YieldsIf P ops S oi v a' ∧ K (a'.put oi.dst v) w') a w := by
  obtain ⟨h1, h2, h3⟩ := Oper.apart_spec hap
  have hro : Fence.wide.round = none := rfl
  have keep : ∀ (a : Act), YieldsIf P ops S oi v a → ∀ u, YieldsIf P ops S oi v (a.put oj.dst u) := fun a hy u => hy.of_same (execOp_put oi hsi a oj.dst u h3) (wanted_put oi a oj.dst u h3)
  have keepD : ∀ d, YieldsIf P ops S oi v { a with defers := d :: a.defers } := fun d => hy.of_same rfl rfl
  unfold wpOpIn at *
  simp only [hj] at *
  rw [wanted_put oj a oi.dst v h1, about_put oj w a oi.dst v h1] at h
  split
  · rename_i hw
    simp only [hw, if_true] at h
    unfold Oper.wpIn at *
    rw [about_put oj w a oi.dst v h1] at h
    refine ⟨h.1, ?_⟩
    have h := h.2
    rw [hro, Oper.semAt_none, execOp_put oj hsj a oi.dst v h1] at h
    rw [hro, Oper.semAt_none]
    generalize (execOp a.eval oj).run P w = r at *
    cases r with
    | ok x w' =>
      cases x <;> simp only [Oper.uponIn] at h ⊢
      case value u => exact ⟨keep a hy u, by rw [← Act.put_comm a v u h2]; exact h⟩
      case skip => exact ⟨keep a hy _, by rw [← Act.put_comm a v undef h2]; exact h⟩
      case defer d =>
        refine ⟨keep _ (keepD d) _, ?_⟩
        rw [← Act.put_comm _ v undef h2, ← Act.put_defers]
        exact h
      case enter f args =>
        refine ⟨h.1, CallsIn.mono h.2 fun e w'' he => ?_⟩
        cases e with
        | returned u => exact ⟨keep a hy u, by rw [← Act.put_comm a v u h2]; exact he⟩
        | panicked c => exact hQ _ _ _ he
        | outgrown => exact he
      case row row args => exact ⟨h.1, RowsIn.mono h.2 fun u w'' he => ⟨keep a hy u, by rw [← Act.put_comm a v u h2]; exact he⟩⟩
      case round l f tmps assign body =>
        refine ⟨h.1, RoundIn.mono h.2 fun e w'' he => ?_⟩
        cases e with
        | returned u => exact ⟨keep a hy u, by rw [← Act.put_comm a v u h2]; exact he⟩
        | panicked c => exact hQ _ _ _ he
        | outgrown => exact he
    | halt x w' =>
      cases x <;> simp only [Oper.uponIn] at h ⊢
      case panic u => exact hQ _ _ _ h
  · rename_i hw
    simp only [hw] at h
    exact ⟨h.1, keep a hy _, by rw [← Act.put_comm a v undef h2]; exact h.2⟩
theorem wpLI_first {i : Nat} {oi : Oper} {v : Value} (hi : ops[i]? = some oi) (hsel : ∀ (j : Nat) (o : Oper) cs b, ops[j]? = some o → o.op ≠ .select cs b) (hQ : ∀ c a w, Q (.panic c) (a.put oi.dst v) w → Q (.panic c) a w) (hw : waitsB ops l i = true) :
    ∀ (n : Nat) (listed : Array Bool) (a : Act) (w : World), Cl ops listed → (∀ j oj, ops[j]? = some oj → j ≠ i → listed.getD j true = false → (∀ e ∈ oj.after, Region.binds .any e = true → e.on ≠ i) → oi.apart ops oj = true) →
      i ∈ Region.ready .any ops listed → YieldsIf P ops S oi v a → S w → wpLI m P ops Q S l n (listed.setIfInBounds i true) (a.put oi.dst v) w → wpLI m P ops Q S l (n + 1) listed a w := fun n => by
  induction n with
  | zero =>
    refine fun listed a w _ _ hr hy hS H => ⟨fun h => (by rw [h] at hr; cases hr), fun j hj => ?_⟩
    rcases Nat.decEq j i with e | e
    · exact absurd (H.1 ▸ ready_mono hj e) (by simp)
    · subst e; exact yieldsI hi hy hS ⟨.inr hS, H⟩
  | succ n ih =>
    refine fun listed a w hc hfr hr hy hS H => ⟨fun h => (by rw [h] at hr; cases hr), fun j hj => ?_⟩
    rcases Nat.decEq j i with e | e
    · have hjl : j ≠ l := fun hx => waits_not hc hw hr (hx ▸ hj)
      obtain ⟨hu, oj, hoj, hall⟩ := mem_ready.1 hj
      have hnot : ∀ e ∈ oj.after, Region.binds .any e = true → e.on ≠ i := fun x hx hb hc => by
        have h1 := hall x hx hb
        have h0 := (mem_ready.1 hr).1
        rw [hc] at h1
        rcases Nat.lt_or_ge i listed.size with h' | h'
        · simp [h'] at h0 h1; rw [h0] at h1; cases h1
        · simp [Array.getElem?_eq_none h'] at h1
      refine wpOpIn_mono (fun a' w' h3 => ?_) (wpOpI_put hoj (hfr j oj hoj e hu hnot) (fun cs b => hsel i oi cs b hi) (fun cs b => hsel j oj cs b hoj) hQ hy (H.2 j (ready_mono hj e)))
      have hS' := h3.2.1.resolve_left hjl
      refine ⟨.inr hS', ih (listed.setIfInBounds j true) a' w' (hc.set hj) (fun k ok hk hki hun hno => hfr k ok hk hki ?_ hno) (ready_mono hr (Ne.symm e)) h3.1 hS' ?_⟩
      · by_cases hjk : j = k
        · subst hjk; exact hu
        · rw [getD_set_ne true hjk] at hun; exact hun
      · rw [Array.setIfInBounds_comm _ _ e]; exact h3.2.2
    · subst e; exact yieldsI hi hy hS ⟨.inr hS, H⟩
theorem lastI_takes (hsel : Region.noSelect ops = true) (hQ : ∀ c (a : Act) d v w, Q (.panic c) (a.put d v) w → Q (.panic c) a w) {w : World} (hS : S w) {fuel : Nat} : ∀ (is : List Nat) (listed : Array Bool) (a : Act), Cl ops listed → waitsL ops l is = true →
    takesB .any ops is listed = true → Takes P ops S (fun a' => wpLI m P ops Q S l fuel (listedBy is listed) a' w) is a → wpLI m P ops Q S l (is.length + fuel) listed a w
  | [], listed, a, _, _, _, h => by rw [List.length_nil, Nat.zero_add]; exact h
  | i :: r, listed, a, hC, hW, hB, ⟨o, v, ho, hy, h⟩ => by
    simp only [takesB, Bool.and_eq_true] at hB
    simp only [waitsL, List.all_cons, Bool.and_eq_true] at hW
    rw [List.length_cons, show r.length + 1 + fuel = (r.length + fuel) + 1 by omega]
    exact wpLI_first ho (Region.noSelect_spec hsel) (fun c a w h => hQ c a _ _ w h) hW.1 _ listed a w hC (Region.free_spec ho hB.1.1) (by simpa using hB.1.2) hy hS (lastI_takes hsel hQ hS r _ _ (hC.set (by simpa using hB.1.2)) hW.2 hB.2 h)
theorem regionI_last {id : Nat} {a : Act} {w : World} (S : World → Prop) (l : Nat) (is : List Nat) (n : Nat) (hn : is.length + n = ops.size) (hm : P.follows .mixedOrders = true) (hsel : Region.noSelect ops = true) (hW : waitsL ops l is = true) (hB : takesB .any ops is (Array.replicate ops.size false) = true)
    (hQ : ∀ c (a : Act) d v w, Q (.panic c) (a.put d v) w → Q (.panic c) a w) (hS : S w.drew) (h : Takes P ops S (fun a' => wpLI m P ops Q S l n (listedBy is (Array.replicate ops.size false)) a' w.drew) is a) : (Code.region id ops true).wpIn Fence.wide m P Q a w := by
  have hC : Cl ops (Array.replicate ops.size false) := fun j o ho hj => by
    rw [Array.getD_eq_getD_getElem?, Array.getElem?_replicate] at hj
    split at hj <;> simp at hj
  have h1 := lastI_takes (m := m) (fuel := n) hsel hQ hS is _ _ hC hW hB h
  rw [hn] at h1
  exact wpIn_region_any hm (wpLI_any _ _ _ _ h1)
def QN (Q : Exit → Act → World → Prop) : Exit → Act → World → Prop := fun e a w => e = .normal ∧ Q e a w
theorem regionI_calm {id : Nat} {a : Act} {w : World} (S : World → Prop) (l : Nat) (is : List Nat) (n : Nat) (hn : is.length + n = ops.size) (hm : P.follows .mixedOrders = true) (hsel : Region.noSelect ops = true) (hW : waitsL ops l is = true) (hB : takesB .any ops is (Array.replicate ops.size false) = true)
    (hS : S w.drew) (h : Takes P ops S (fun a' => wpLI m P ops (QN Q) S l n (listedBy is (Array.replicate ops.size false)) a' w.drew) is a) : (Code.region id ops true).wpIn Fence.wide m P Q a w :=
  wpIn_mono (regionI_last (Q := QN Q) S l is n hn hm hsel hW hB (fun c a d v w h => by cases h.1) hS h) fun e a w h => h.2
theorem lastI_wp {n i : Nat} {listed : Array Bool} {a : Act} {w : World} (o : Oper) (hr : Region.ready .any ops listed = [i]) (ho : ops[i]? = some o) (hw : Region.wanted o (yielded ops a.tmps) = true)
    (h : ∀ K' : Act → World → Prop, (∀ a' w', ((i = l ∨ S w') ∧ wpLI m P ops Q S l n (listed.setIfInBounds i true) a' w') → K' a' w') → o.wpIn Fence.wide m P a w K' Q) : wpLI m P ops Q S l (n + 1) listed a w :=
  ⟨(fun h0 => by (rw [hr] at h0; cases h0)), fun j hj => by
    rw [hr] at hj
    have hj : j = i := by simpa using hj
    subst hj
    refine wpOpIn_step ho fun K' hK => ?_
    rw [if_pos hw]
    exact h K' hK⟩
theorem lastI_op {n i : Nat} {listed : Array Bool} {a : Act} {w w' : World} (o : Oper) {v : Value} (hr : Region.ready .any ops listed = [i]) (ho : ops[i]? = some o) (hw : Region.wanted o (yielded ops a.tmps) = true) (hv : (execOp a.eval o).run P w = .ok (.value v) w') (hS : i = l ∨ S w')
    (h : wpLI m P ops Q S l n (listed.setIfInBounds i true) (a.put o.dst v) w') : wpLI m P ops Q S l (n + 1) listed a w := lastI_wp o hr ho hw fun K' hK => by
  unfold Oper.wpIn
  rw [show Fence.wide.round = none from rfl, Oper.semAt_none, hv]
  exact ⟨fun f _ => trivial, hK _ _ ⟨hS, h⟩⟩
theorem lastI_done {listed : Array Bool} {a : Act} {w : World} (hr : Region.ready .any ops listed = []) (h : Q .normal a w) : wpLI m P ops (QN Q) S l 0 listed a w := ⟨hr, rfl, h⟩
end
end Go.Proofs.Ytchjjbcmbdmlgaa
namespace Go.Proofs.Ytchjjbcmbdmlgaa
open Go Go.RowKit
def noP : Nat → Nat → Bool := fun _ _ => false
def RelV (w : World) (v : Value) (n : Nat) (m : Nat → Nat → Bool) : Prop :=
  (v = .pointer none ∧ n = 0 ∧ m = noP) ∨ ∃ b0 b1, v = .pointer (some ⟨b0, 0, none⟩) ∧ RelC w b0 b1 n m
section
variable {w w' : World} {b0 b1 n : Nat} {m : Nat → Nat → Bool}
theorem RelC.v (h : RelC w b0 b1 n m) : RelV w (.pointer (some ⟨b0, 0, none⟩)) n m := .inr ⟨b0, b1, rfl, h⟩
theorem RelC.rcell (h : RelC w b0 b1 n m) : w.cell? ⟨b0, 8, none⟩ = some (.slice (some ⟨b1, 0, none⟩) n n) := by
  have := h.hd.cell (i := 8) (by omega)
  rw [this]; rfl
theorem RelC.row (h : RelC w b0 b1 n m) {a : Nat} (ha : a < n) : SetIn (rowsV m) (a * 8) (m a) := fun i hi => by
  unfold rowsV
  rw [show (a * 8 + i) / 8 = a by omega, show (a * 8 + i) % 8 = i by omega]
theorem RelC.fr {T : List Nat} (h : RelC w b0 b1 n m) (hf : Fr T w w') (h0 : b0 ∉ T) (h1 : b1 ∉ T) : RelC w' b0 b1 n m := ⟨h.hd.fr hf h0, h.rows.fr hf h1, h.ne, h.n512, h.inn⟩
theorem RelC.below (h : RelC w b0 b1 n m) (hf : Below w.heap.size w w') : RelC w' b0 b1 n m := h.fr (Fr.of_below (T := []) hf) (by simp) (by simp)
end
theorem rows_set {m : Nat → Nat → Bool} {a : Nat} {g : Nat → Bool} : setF (rowsV m) (a * 8) g = rowsV (updF m a g) := by
  funext k
  unfold setF rowsV
  by_cases h : a * 8 ≤ k ∧ k < a * 8 + 8
  · rw [if_pos h, show k / 8 = a by omega, updF_same, show k % 8 = k - a * 8 by omega]
  · rw [if_neg h, updF_other _ _ (by omega)]
theorem len_ret {w : World} {v : Value} {n : Nat} {m : Nat → Nat → Bool} (h : RelV w v n m) : Calls Try.prog 13 #[v] w fun e w' => e = .returned (.int .i64 n) ∧ w' = w := by
  rcases h with ⟨rfl, rfl, _⟩ | ⟨b0, b1, rfl, h⟩
  · go_enter Try.func13, Try.ntmps13
    go_wp2
    go_ret
    exact ⟨rfl, rfl⟩
  · have hc := h.rcell
    clear h
    go_enter Try.func13, Try.ntmps13
    go_wp2
    go_ret
    exact ⟨rfl, rfl⟩
def inE (n : Nat) (e : Int) : Bool := decide (0 ≤ e) && decide (e < n)
theorem inE_iff {n : Nat} {e : Int} : inE n e = true ↔ 0 ≤ e ∧ e < n := by simp [inE]
theorem isEl_ret {w : World} {v : Value} {n : Nat} {m : Nat → Nat → Bool} (h : RelV w v n m) (e : Int) : Calls Try.prog 32 #[v, .int .i64 e] w fun en w' => en = .returned (.bool (inE n e)) ∧ w' = w := by
  have HC := hid (len_ret h)
  clear h
  unfold inE
  by_cases h0 : 0 ≤ e
  · rw [decide_eq_true h0, Bool.true_and]
    go_enter Try.func32, Try.ntmps32
    go_wp2_with (go_at_call 13; refine HC.out.mono ?_; rintro e' w2 ⟨rfl, rfl⟩)
    go_ret
    exact ⟨rfl, rfl⟩
  · rw [decide_eq_false h0, Bool.false_and]
    go_enter Try.func32, Try.ntmps32
    go_wp2
    go_ret
    exact ⟨rfl, rfl⟩
def addP (m : Nat → Nat → Bool) (a b : Nat) : Nat → Nat → Bool := updF m a (fun x => x == b || m a x)
theorem RelC.put {w w' : World} {b0 b1 n a : Nat} {m : Nat → Nat → Bool} {g : Nat → Bool} (h : RelC w b0 b1 n m) (ha : a < n) (hg : ∀ b, g b = true → b < n) (hr : Hb w' b1 71 (n * 8) (setF (rowsV m) (a * 8) g)) (hf : Fr [b1] w w') : RelC w' b0 b1 n (updF m a g) := by
  refine ⟨h.hd.fr hf (by simpa using h.ne), by rw [← rows_set]; exact hr, h.ne, h.n512, fun x y hxy => ?_⟩
  by_cases hx : x = a
  · subst hx; rw [updF_same] at hxy; exact ⟨ha, hg y hxy⟩
  · rw [updF_other _ _ hx] at hxy; exact h.inn x y hxy
theorem addYes_ret {w : World} {b0 b1 n a b : Nat} {m : Nat → Nat → Bool} (h : RelC w b0 b1 n m) (ha : a < n) (hb : b < n) : Calls Try.prog 29 #[.pointer (some ⟨b0, 0, none⟩), .int .i64 a, .int .i64 b] w fun en w' => en = .returned (.bool true) ∧ RelC w' b0 b1 n (addP m a b) ∧ Fr [b1] w w' := by
  have e1 : inE n (a : Int) = true := inE_iff.2 ⟨by omega, by omega⟩
  have e2 : inE n (b : Int) = true := inE_iff.2 ⟨by omega, by omega⟩
  have HC := hid (isEl_ret h.v (a : Int))
  have HC2 := hid (isEl_ret h.v (b : Int))
  rw [e1] at HC
  rw [e2] at HC2
  have h5 := h.n512
  have HA := hid (sadd h.rows (h.row ha) (e := b) (by omega) (by omega))
  have hc := h.rcell
  have Hh := hid h
  clear h e1 e2
  go_enter Try.func29, Try.ntmps29
  go_wp2_with (first | (go_at_call 32; refine HC.out.mono ?_; clear HC; rintro e' w2 ⟨rfl, rfl⟩) | (go_at_call 32; refine HC2.out.mono ?_; clear HC2; rintro e' w2 ⟨rfl, rfl⟩) | (go_at_call 46; refine HA.out.mono ?_; rintro e' w2 ⟨rfl, hr, hf⟩; refine Hid.out ?_))
  refine hid ?_
  go_wp2
  go_ret
  refine ⟨rfl, Hh.out.put ha (fun x hx => ?_) hr hf, hf⟩
  rcases Bool.or_eq_true_iff.1 hx with h1 | h1
  · have : x = b := by simpa using h1
    omega
  · exact (Hh.out.inn _ _ h1).2
def hasZ (n : Nat) (m : Nat → Nat → Bool) (a b : Int) : Bool := inE n a && inE n b && m a.toNat b.toNat
theorem has_ret {w : World} {v : Value} {n : Nat} {m : Nat → Nat → Bool} (h : RelV w v n m) (a b : Int) : Calls Try.prog 16 #[v, .int .i64 a, .int .i64 b] w fun en w' => en = .returned (.bool (hasZ n m a b)) ∧ w' = w := by
  have HC := hid (isEl_ret h a)
  have HC2 := hid (isEl_ret h b)
  unfold hasZ
  cases ha : inE n a
  · rw [ha] at HC
    clear HC2 h
    go_enter Try.func16, Try.ntmps16
    go_wp2_with (go_at_call 32; refine HC.out.mono ?_; clear HC; rintro e' w2 ⟨rfl, rfl⟩)
    go_ret
    exact ⟨rfl, rfl⟩
  · rw [ha] at HC
    cases hb : inE n b
    · rw [hb] at HC2
      clear h
      go_enter Try.func16, Try.ntmps16
      go_wp2_with (first | (go_at_call 32; refine HC.out.mono ?_; clear HC; rintro e' w2 ⟨rfl, rfl⟩) | (go_at_call 32; refine HC2.out.mono ?_; clear HC2; rintro e' w2 ⟨rfl, rfl⟩))
      go_ret
      exact ⟨rfl, rfl⟩
    · rw [hb] at HC2
      obtain ⟨a0, a1⟩ := inE_iff.1 ha
      obtain ⟨b0', b1'⟩ := inE_iff.1 hb
      obtain ⟨a, rfl⟩ := Int.eq_ofNat_of_zero_le a0
      obtain ⟨b, rfl⟩ := Int.eq_ofNat_of_zero_le b0'
      rcases h with ⟨rfl, rfl, _⟩ | ⟨b0, b1, rfl, h⟩
      · omega
      · have h5 := h.n512
        have HA := hid (shas h.rows (h.row (a := a) (by omega)) (e := b) (by omega) (by omega))
        have hc := h.rcell
        clear h ha hb
        go_enter Try.func16, Try.ntmps16
        go_wp2_with (first | (go_at_call 32; refine HC.out.mono ?_; clear HC; rintro e' w2 ⟨rfl, rfl⟩) | (go_at_call 32; refine HC2.out.mono ?_; clear HC2; rintro e' w2 ⟨rfl, rfl⟩) | (go_at_call 33; refine HA.out.mono ?_; rintro e' w2 ⟨rfl, rfl⟩))
        go_ret
        exact ⟨rfl, rfl⟩
end Go.Proofs.Ytchjjbcmbdmlgaa
