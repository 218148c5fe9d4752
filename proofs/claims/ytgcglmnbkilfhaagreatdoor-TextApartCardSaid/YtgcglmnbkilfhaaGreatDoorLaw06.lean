/- The laws of layer 6, out of contracts of the text package (tText, pParse: shown elsewhere). -/
import Derived.Test.YtgcglmnbkilfhaaGreatDoorRef06T
namespace Go.Proofs.YtgcglmnbkilfhaaGreatDoor
open Go.RowKit Sim S2
set_option linter.unusedVariables false
set_option linter.unusedSimpArgs false

/-- What a text is parsed as. -/
def noIn : In := ⟨0, 0, 0, 0, 0, false, false⟩
theorem parse_ex : ∃ g : ByteArray → In × Int, ∀ s, (∀ i, mayB i = true → textL i = toL s → g s = (i, 0)) ∧ ((∀ i, mayB i = true → textL i ≠ toL s) → g s = (noIn, 1)) := by
  classical
  refine ⟨fun s => if h : ∃ i, mayB i = true ∧ textL i = toL s then (Classical.choose h, 0) else (noIn, 1), fun s => ⟨fun i h1 h2 => ?_, fun hn => ?_⟩⟩
  · have hx : ∃ i, mayB i = true ∧ textL i = toL s := ⟨i, h1, h2⟩
    have hc := Classical.choose_spec hx
    simp only [dif_pos hx]
    rw [text_inj hc.1 h1 (hc.2.trans h2.symm)]
  · have hx : ¬ ∃ i, mayB i = true ∧ textL i = toL s := fun h => by obtain ⟨i, h1, h2⟩ := h; exact hn i h1 h2
    simp only [dif_neg hx]
noncomputable def parse6 : ByteArray → In × Int := Classical.choose parse_ex
theorem parse6_yes {s : ByteArray} {i : In} (h : mayB i = true) (e : textL i = toL s) : parse6 s = (i, 0) := (Classical.choose_spec parse_ex s).1 i h e
theorem parse6_no {s : ByteArray} (h : ∀ i, mayB i = true → textL i ≠ toL s) : parse6 s = (noIn, 1) := (Classical.choose_spec parse_ex s).2 h
noncomputable def parI (s : ByteArray) : In := (parse6 s).1
noncomputable def parE (s : ByteArray) : Int := (parse6 s).2
theorem text_pos (i : In) : (textL i).length ≠ 0 ∨ mayB i = false := by
  cases hm : mayB i
  · exact .inr rfl
  left
  intro h
  have := List.length_eq_zero_iff.mp h
  rcases op_cases i.op with ⟨n, h1, h2, e⟩ | h'
  · have hp : ∀ n : Fin 88, n.val = 0 ∨ (toL (opS n.val)).length ≠ 0 := by decide +kernel
    rcases hp ⟨n, h2⟩ with h0 | h0
    · simp at h0; omega
    · apply h0
      unfold textL headL at this
      rw [e, nameZ_nat] at this
      cases hf : formZ (n : Int) == 0 <;> rw [hf] at this <;> simp at this <;> simp [this]
  · have := may_ok hm
    rw [okB_out h'] at this; cases this
noncomputable def size200 (s : ByteArray) : Bool := decide (s.size ≤ 200)
theorem cond_len {b : Bool} {x y : List UInt8} {n : Nat} (h1 : x.length ≤ n) (h2 : y.length ≤ n) : (bif b then x else y).length ≤ n := by cases b; exact h2; exact h1
theorem sideL_le (n : Int) : (sideL n).length ≤ 4 := by
  unfold sideL
  cases n / 8 % 2 == 1 <;> cases n / 4 % 2 == 1 <;> cases n / 2 % 2 == 1 <;> cases n % 2 == 1 <;> simp
theorem opsL_le {i : In} (h : mayB i = true) : (opsL i).length ≤ 60 := by
  have F := may_fld h
  have n1 := reg_len F.rd0 F.rd1
  have n2 := reg_len F.a0 F.a1
  have n3 := reg_len F.b0 F.b1
  have n4 := digL_len i.imm
  have n5 := sideL_le (i.imm / 16)
  have n6 := sideL_le (i.imm % 16)
  unfold opsL
  refine cond_len ?_ <| cond_len ?_ <| cond_len ?_ <| cond_len ?_ <| cond_len ?_ <| cond_len ?_ <| cond_len ?_ <| cond_len ?_ ?_ <;> (simp only [List.length_append, List.length_cons, List.length_nil]; omega)
theorem textZ_size (i : In) : pre (size200 (textZ i)) = true := by
  unfold pre size200
  refine decide_eq_true ?_
  rw [toL_size, textZ_eq]
  cases hm : mayB i
  · simp
  · have n0 := name_len (may_ok hm)
    have n1 := opsL_le hm
    have n2 : (sfxL i.aq i.rl).length ≤ 5 := by cases i.aq <;> cases i.rl <;> decide
    simp only [cond_true]
    unfold textL headL
    refine cond_len ?_ ?_ <;> (simp only [List.length_append, List.length_cons]; omega)
theorem parse_text {i : In} (h : mayB i = true) : parse6 (textZ i) = (i, 0) := parse6_yes h (by rw [textZ_eq, h]; rfl)
theorem parse_empty {s : ByteArray} (h : toL s = []) : parse6 s = (noIn, 1) := parse6_no fun k hk e => by
  rcases text_pos k with h0 | h0
  · rw [e, h] at h0; exact h0 rfl
  · rw [hk] at h0; cases h0
theorem textZ_none {i : In} (h : mayB i = false) : toL (textZ i) = [] := by rw [textZ_eq, h]; rfl
noncomputable def tText : Tab := row 7 decIn fun i => .string (textZ i)
noncomputable def decParse : List Value → Option (Value × Bool)
  | [.string s] => some (.tuple #[inV (parI s), .int .i64 (parE s)], pre (size200 s))
  | _ => none
noncomputable def pParse : PTab := prowD 9 decParse
noncomputable def tRefText : Tab := row 8 decIn fun i => .string (textZ i)
theorem tRefText_ok {gl : Gl} : TabOk Tryz.prog gl tRefText := tabV decIn_eq fun x w hG => refText_ret x w
def sdI : In := ⟨21, 0, 2, 8, 16, false, false⟩
def sdS : ByteArray := ⟨#[115, 100, 32, 120, 56, 44, 32, 49, 54, 40, 120, 50, 41]⟩
def isSd (i : In) : Bool := i.op == 21 && i.rd == 0 && i.a == 2 && i.b == 8 && i.imm == 16 && !i.aq && !i.rl
theorem isSd_eq {i : In} (h : isSd i = true) : i = sdI := by
  obtain ⟨op, rd, a, b, imm, aq, rl⟩ := i
  simp [isSd] at h
  obtain ⟨⟨⟨⟨⟨⟨rfl, rfl⟩, rfl⟩, rfl⟩, rfl⟩, rfl⟩, rfl⟩ := h
  rfl
theorem sd_may : mayB sdI = true := by decide +kernel
theorem sd_text : textL sdI = toL sdS := by decide +kernel
theorem sd_textZ : textZ sdI = sdS := toL_inj (by rw [textZ_eq, sd_may]; exact sd_text)
def decSdI (args : List Value) : Option Unit := match decIn args with
  | some i => bif isSd i then some () else none
  | none => none
def decSdS : List Value → Option Unit
  | [.string s] => bif s.data.toList == sdS.data.toList then some () else none
  | _ => none
def tAwText : Tab := row 7 decSdI fun _ => .string sdS
def tAwParse : Tab := row 9 decSdS fun _ => .tuple #[inV sdI, .int .i64 0]
noncomputable def envAw (gl : Gl) : S2.Env := envq Tryz.prog gl (orT tAwText tAwParse) noP noL
--@s2 aw "(gl : Gl)" "simF (envAw gl) 1000 10 [] $O 11 [] []" y:
theorem aw_y (gl : Gl) : simF (envAw gl) 1000 10 [] [] 11 [] [] = some (false, [Sum.inl (Value.bool true)], [], []) := by kernel_rfl
--@s2end
theorem tAw_ok {gl : Gl} (hT : TabOk Tryz.prog gl tText) (hP : PTabOk Tryz.prog gl pParse) : TabOk Tryz.prog gl (orT tAwText tAwParse) := by
  refine TabOk.or ?_ ?_
  · refine .row fun args a hd w hG => ?_
    unfold decSdI at hd
    split at hd
    · rename_i i hi
      cases hb : isSd i
      · rw [hb] at hd; cases hd
      · obtain rfl := isSd_eq hb
        have := hT 7 args (.string (textZ sdI)) (by unfold tText Sim.row; rw [show Nat.beq 7 7 = true from rfl, hi]; rfl) w hG
        rw [sd_textZ] at this
        exact this
    · cases hd
  · refine .row fun args a hd w hG => ?_
    unfold decSdS at hd
    split at hd
    · rename_i s hs
      cases hb : s.data.toList == sdS.data.toList
      · rw [hb] at hd; cases hd
      · have e : toL s = toL sdS := eq_of_beq hb
        have hp : parse6 s = (sdI, 0) := parse6_yes sd_may (by rw [e]; exact sd_text)
        have := hP 9 args.toList (.tuple #[inV sdI, .int .i64 0]) (by
          rw [hs]
          unfold pParse Sim.prowD
          rw [show Nat.beq 9 9 = true from rfl]
          simp only [cond_true, decParse, parI, parE, hp, pre]
          rw [show size200 s = true from by rw [toL_inj e]; rfl]) w hG
        exact this
    · cases hd
theorem awake06_ret {gl : Gl} (hT : TabOk Tryz.prog gl tText) (hP : PTabOk Tryz.prog gl pParse) (w : World) (hG : GlobOk gl w) : Ret Tryz.prog 11 #[] (.bool true) w :=
  ret6 (envq_ok (tAw_ok hT hP) (.none _ _) (.none _ _)) [] _ (aw_y gl) all_nil Tryz.func11 w [] hG trivial
def tAwake06 : Tab := row 11 dec0 fun _ => .bool true
theorem tAwake06_ok {gl : Gl} (hT : TabOk Tryz.prog gl tText) (hP : PTabOk Tryz.prog gl pParse) : TabOk Tryz.prog gl tAwake06 := tab0 fun w hG => awake06_ret hT hP w hG
noncomputable def envTa (gl : Gl) : S2.Env := envq Tryz.prog gl (orT tRefMay <| orT tText tAwake06) noP noL
theorem envTa_ok {gl : Gl} (hT : TabOk Tryz.prog gl tText) (hP : PTabOk Tryz.prog gl pParse) : CallOk (envTa gl) := envq_ok (tRefMay_ok.or (hT.or (tAwake06_ok hT hP))) (.none _ _) (.none _ _)
--@s2 ta "(gl : Gl) (i k : In)" "simF (envTa gl) 1000 10 [] $O 5 [[true, true, true, true, true, true, true], [true, true, true, true, true, true, true]] [.inl (inV i), .inl (inV k)]" a:tt b:ftt y:fft
theorem ta_a (gl : Gl) (i k : In) : simF (envTa gl) 1000 10 [] [true, true] 5 [[true, true, true, true, true, true, true], [true, true, true, true, true, true, true]] [.inl (inV i), .inl (inV k)] = some (false, [Sum.inl (Value.bool true)], [(!mayB i, true)], []) := by kernel_rfl
theorem ta_b (gl : Gl) (i k : In) : simF (envTa gl) 1000 10 [] [false, true, true] 5 [[true, true, true, true, true, true, true], [true, true, true, true, true, true, true]] [.inl (inV i), .inl (inV k)] = some (false, [Sum.inl (Value.bool true)], [(!mayB k, true), (!mayB i, false)], []) := by kernel_rfl
theorem ta_y (gl : Gl) (i k : In) : simF (envTa gl) 1000 10 [] [false, false, true] 5 [[true, true, true, true, true, true, true], [true, true, true, true, true, true, true]] [.inl (inV i), .inl (inV k)] = some (false, [Sum.inl (Value.bool true)], [(((textZ i).toList == (textZ k).toList) == (i.op == k.op && (i.rd == k.rd && (i.a == k.a && (i.b == k.b && (i.imm == k.imm && (i.aq == k.aq && (i.rl == k.rl && true))))))), true), (!mayB k, false), (!mayB i, false)], []) := by kernel_rfl
--@s2end
theorem eqIn_iff (i k : In) : (i.op == k.op && (i.rd == k.rd && (i.a == k.a && (i.b == k.b && (i.imm == k.imm && (i.aq == k.aq && (i.rl == k.rl && true))))))) = true ↔ i = k := by
  constructor
  · intro h
    simp only [Bool.and_eq_true, beq_iff_eq] at h
    exact In.ext' h.1 h.2.1 h.2.2.1 h.2.2.2.1 h.2.2.2.2.1 h.2.2.2.2.2.1 h.2.2.2.2.2.2.1
  · rintro rfl; simp
theorem textZ_inj {i k : In} (hi : mayB i = true) (hk : mayB k = true) (h : textZ i = textZ k) : i = k := by
  have e : toL (textZ i) = toL (textZ k) := by rw [h]
  rw [textZ_eq, textZ_eq, hi, hk] at e
  exact text_inj hi hk e
theorem textApart_law {gl : Gl} (hT : TabOk Tryz.prog gl tText) (hP : PTabOk Tryz.prog gl pParse) (i k : In) (w : World) (hG : GlobOk gl w) : Ret Tryz.prog 5 #[inV i, inV k] (.bool true) w := by
  cases hi : mayB i
  · exact ret6 (envTa_ok hT hP) _ _ (ta_a gl i k) (all_cons (by rw [hi]; rfl) all_nil) Tryz.func5 w [inV i, inV k] hG ⟨rfl, rfl, trivial⟩
  cases hk : mayB k
  · exact ret6 (envTa_ok hT hP) _ _ (ta_b gl i k) (all_cons (by rw [hk]; rfl) <| all_cons (by rw [hi]; rfl) all_nil) Tryz.func5 w [inV i, inV k] hG ⟨rfl, rfl, trivial⟩
  refine ret6 (envTa_ok hT hP) _ _ (ta_y gl i k) (all_cons ?_ <| all_cons (by rw [hk]; rfl) <| all_cons (by rw [hi]; rfl) all_nil) Tryz.func5 w [inV i, inV k] hG ⟨rfl, rfl, trivial⟩
  by_cases he : i = k
  · rw [(eqIn_iff i k).mpr he, he]; simp
  · have h1 : ((textZ i).toList == (textZ k).toList) = false := by
      refine Bool.eq_false_iff.mpr fun h => he (textZ_inj hi hk (bytes_ext (eq_of_beq h)))
    have h2 := Bool.eq_false_iff.mpr fun h => he ((eqIn_iff i k).mp h)
    rw [h1, h2]; rfl
noncomputable def envTw (gl : Gl) : S2.Env := envq Tryz.prog gl (orT tRefMay <| orT tText <| orT tRefText tAwake06) pParse noL
theorem envTw_ok {gl : Gl} (hT : TabOk Tryz.prog gl tText) (hP : PTabOk Tryz.prog gl pParse) : CallOk (envTw gl) := envq_ok (tRefMay_ok.or (hT.or (tRefText_ok.or (tAwake06_ok hT hP)))) hP (.none _ _)
--@s2 tw "(gl : Gl) (i : In)" "simF (envTw gl) 1000 10 [] $O 3 [[true, true, true, true, true, true, true]] [.inl (inV i)]" a:ftttt b:fftttt
theorem tw_a (gl : Gl) (i : In) : simF (envTw gl) 1000 10 [] [false, true, true, true, true] 3 [[true, true, true, true, true, true, true]] [.inl (inV i)] = some (false, [Sum.inl (Value.bool true)], [(parE (textZ i) == 1, true), ((parI (textZ i)).op == 0 && ((parI (textZ i)).rd == 0 && ((parI (textZ i)).a == 0 && ((parI (textZ i)).b == 0 && ((parI (textZ i)).imm == 0 && ((parI (textZ i)).aq == false && ((parI (textZ i)).rl == false && true)))))), true), (!mayB i, true), (pre (size200 (textZ i)), true), (!(textZ i).toList == (textZ i).toList, false)], []) := by kernel_rfl
theorem tw_b (gl : Gl) (i : In) : simF (envTw gl) 1000 10 [] [false, false, true, true, true, true] 3 [[true, true, true, true, true, true, true]] [.inl (inV i)] = some (false, [Sum.inl (Value.bool true)], [(parE (textZ i) == 0, true), ((parI (textZ i)).op == i.op && ((parI (textZ i)).rd == i.rd && ((parI (textZ i)).a == i.a && ((parI (textZ i)).b == i.b && ((parI (textZ i)).imm == i.imm && ((parI (textZ i)).aq == i.aq && ((parI (textZ i)).rl == i.rl && true)))))), true), (!mayB i, false), (pre (size200 (textZ i)), true), (!(textZ i).toList == (textZ i).toList, false)], []) := by kernel_rfl
--@s2end
theorem textWrites_law {gl : Gl} (hT : TabOk Tryz.prog gl tText) (hP : PTabOk Tryz.prog gl pParse) (i : In) (w : World) (hG : GlobOk gl w) : Ret Tryz.prog 3 #[inV i] (.bool true) w := by
  cases hi : mayB i
  · refine ret6 (envTw_ok hT hP) _ _ (tw_a gl i) (all_cons ?_ <| all_cons ?_ <| all_cons (by rw [hi]; rfl) <| all_cons (textZ_size i) <| all_cons (by simp) all_nil) Tryz.func3 w [inV i] hG ⟨rfl, trivial⟩
    · unfold parE; rw [parse_empty (textZ_none hi)]; rfl
    · unfold parI; rw [parse_empty (textZ_none hi)]; rfl
  · refine ret6 (envTw_ok hT hP) _ _ (tw_b gl i) (all_cons ?_ <| all_cons ?_ <| all_cons (by rw [hi]; rfl) <| all_cons (textZ_size i) <| all_cons (by simp) all_nil) Tryz.func3 w [inV i] hG ⟨rfl, trivial⟩
    · unfold parE; rw [parse_text hi]; rfl
    · unfold parI; rw [parse_text hi]; exact (eqIn_iff i i).mpr rfl
noncomputable def envTp (gl : Gl) : S2.Env := envq Tryz.prog gl (orT tRefText tAwake06) pParse noL
theorem envTp_ok {gl : Gl} (hT : TabOk Tryz.prog gl tText) (hP : PTabOk Tryz.prog gl pParse) : CallOk (envTp gl) := envq_ok (tRefText_ok.or (tAwake06_ok hT hP)) hP (.none _ _)
--@s2 tp "(gl : Gl) (s : ByteArray)" "simF (envTp gl) 1000 10 [] $O 4 [[true]] [.inl (.string s)]" a:tttt b:fttttt c:ffttttt
theorem tp_a (gl : Gl) (s : ByteArray) : simF (envTp gl) 1000 10 [] [true, true, true, true] 4 [[true]] [.inl (.string s)] = some (false, [Sum.inl (Value.bool true)], [(decide ((s.size : Int) > 200), true)], []) := by kernel_rfl
theorem tp_b (gl : Gl) (s : ByteArray) : simF (envTp gl) 1000 10 [] [false, true, true, true, true, true] 4 [[true]] [.inl (.string s)] = some (false, [Sum.inl (Value.bool true)], [((parI s).op == 0 && ((parI s).rd == 0 && ((parI s).a == 0 && ((parI s).b == 0 && ((parI s).imm == 0 && ((parI s).aq == false && ((parI s).rl == false && true)))))), true), (parE s == 1, true), (parE s != 0, true), (pre (size200 s), true), (decide ((s.size : Int) > 200), false)], []) := by kernel_rfl
theorem tp_c (gl : Gl) (s : ByteArray) : simF (envTp gl) 1000 10 [] [false, false, true, true, true, true, true] 4 [[true]] [.inl (.string s)] = some (false, [Sum.inl (Value.bool true)], [((textZ (parI s)).toList == s.toList, true), (!s.toList == (⟨#[]⟩ : ByteArray).toList, true), (parE s != 0, false), (pre (size200 s), true), (decide ((s.size : Int) > 200), false)], []) := by kernel_rfl
--@s2end
theorem textParses_law {gl : Gl} (hT : TabOk Tryz.prog gl tText) (hP : PTabOk Tryz.prog gl pParse) (s : ByteArray) (w : World) (hG : GlobOk gl w) : Ret Tryz.prog 4 #[.string s] (.bool true) w := by
  by_cases hs : s.size > 200
  · exact ret6 (envTp_ok hT hP) _ _ (tp_a gl s) (all_cons (decide_eq_true (by omega)) all_nil) Tryz.func4 w [.string s] hG ⟨rfl, trivial⟩
  have h200 : pre (size200 s) = true := by unfold pre size200; exact decide_eq_true (by omega)
  have hle : decide ((s.size : Int) > 200) = false := decide_eq_false (by omega)
  by_cases h : ∃ i, mayB i = true ∧ textL i = toL s
  · obtain ⟨i, hi, e⟩ := h
    have hp := parse6_yes hi e
    refine ret6 (envTp_ok hT hP) _ _ (tp_c gl s) (all_cons ?_ <| all_cons ?_ <| all_cons ?_ <| all_cons h200 <| all_cons hle all_nil) Tryz.func4 w [.string s] hG ⟨rfl, trivial⟩
    · have : textZ (parI s) = s := toL_inj (by unfold parI; rw [hp, textZ_eq, hi]; exact e)
      rw [this]; simp
    · have : (s.toList == ByteArray.toList ⟨#[]⟩) = false := Bool.eq_false_iff.mpr fun hb => by
        have hz : s = ⟨#[]⟩ := bytes_ext (eq_of_beq hb)
        rcases text_pos i with h0 | h0
        · rw [e, hz] at h0; exact h0 rfl
        · rw [hi] at h0; cases h0
      rw [this]; rfl
    · unfold parE; rw [hp]; rfl
  · have hp := parse6_no (s := s) fun i hi e => h ⟨i, hi, e⟩
    refine ret6 (envTp_ok hT hP) _ _ (tp_b gl s) (all_cons ?_ <| all_cons ?_ <| all_cons ?_ <| all_cons h200 <| all_cons hle all_nil) Tryz.func4 w [.string s] hG ⟨rfl, trivial⟩
    · unfold parI; rw [hp]; rfl
    · unfold parE; rw [hp]; rfl
    · unfold parE; rw [hp]; rfl
end Go.Proofs.YtgcglmnbkilfhaaGreatDoor
