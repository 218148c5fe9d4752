/- What strings.Builder's methods do, out of the library's contracts. No word of the program. -/
import Derived.Test.YtgcglmnbkilfhaaGreatDoorShelf
import Derived.Test.YtgcglmnbkilfhaaGreatDoorS2I
namespace Go.Proofs.YtgcglmnbkilfhaaGreatDoor
open Go Go.RowKit Sim S2
set_option linter.unusedVariables false
set_option linter.unusedSimpArgs false

theorem strCells_cat (a b : ByteArray) : Lib.strCells (catZ a b) = Lib.strCells a ++ Lib.strCells b := by rw [catZ_eq, strCells_app]
theorem strCells_one {c : Int} (h0 : 0 ≤ c) (h1 : c < 256) : Lib.strCells (oneB c) = [.int .u8 c] := by
  have : (UInt8.ofNat c.toNat).toNat = c.toNat := by simp [UInt8.toNat_ofNat']; omega
  simp [Lib.strCells, oneB, this]; omega
theorem fitB_len {acc s : ByteArray} (h : fitB acc (some s) = true) : (Lib.strCells acc).length + s.size + 4 ≤ 140737488355328 := by
  rw [Lib.strCells_length]; simpa [fitB] using h
theorem bopR_wstr {acc : ByteArray} {args : List Value} {v : Value} {add : Option ByteArray} (h : bopR .wstr acc args = some (v, add, true)) : ∃ s, args = [.string s] ∧ v = .tuple #[.int .i64 s.size, .nilIface] ∧ add = some s := by
  rcases args with _ | ⟨a, _ | ⟨b, r⟩⟩
  · simp [bopR] at h
  · cases a <;> simp [bopR] at h
    exact ⟨_, rfl, h.1.symm, h.2.symm⟩
  · simp [bopR] at h
theorem bopR_wbyte {acc : ByteArray} {args : List Value} {v : Value} {add : Option ByteArray} (h : bopR .wbyte acc args = some (v, add, true)) : ∃ c, args = [.int .u8 c] ∧ v = .nilIface ∧ add = some (oneB c) ∧ 0 ≤ c ∧ c < 256 := by
  rcases args with _ | ⟨a, _ | ⟨b, r⟩⟩
  · simp [bopR] at h
  · cases a <;> try (simp [bopR] at h; done)
    rename_i k n
    cases k <;> simp [bopR] at h
    exact ⟨_, rfl, h.1.symm, h.2.1.symm, h.2.2⟩
  · simp [bopR] at h
theorem bopR_wrune {acc : ByteArray} {args : List Value} {v : Value} {add : Option ByteArray} (h : bopR .wrune acc args = some (v, add, true)) : ∃ c, args = [.int .i32 c] ∧ v = .tuple #[.int .i64 1, .nilIface] ∧ add = some (oneB c) ∧ 0 ≤ c ∧ c < 128 := by
  rcases args with _ | ⟨a, _ | ⟨b, r⟩⟩
  · simp [bopR] at h
  · cases a <;> try (simp [bopR] at h; done)
    rename_i k n
    cases k <;> simp [bopR] at h
    exact ⟨_, rfl, h.1.symm, h.2.1.symm, h.2.2⟩
  · simp [bopR] at h
theorem bopR_str {acc : ByteArray} {args : List Value} {v : Value} {add : Option ByteArray} (h : bopR .str acc args = some (v, add, true)) : args = [] ∧ v = .string acc ∧ add = none := by
  cases args with
  | nil => simp [bopR] at h; exact ⟨rfl, h.1.symm, h.2.symm⟩
  | cons a r => simp [bopR] at h
theorem bopR_len {acc : ByteArray} {args : List Value} {v : Value} {add : Option ByteArray} (h : bopR .len acc args = some (v, add, true)) : args = [] ∧ v = .int .i64 acc.size ∧ add = none := by
  cases args with
  | nil => simp [bopR] at h; exact ⟨rfl, h.1.symm, h.2.symm⟩
  | cons a r => simp [bopR] at h
theorem rune_one {c : Int} (h0 : 0 ≤ c) (h1 : c < 128) : Lib.runeCells c = [Value.int .u8 c] := by simp [Lib.runeCells, Lib.encodeRuneZ_one h0 (by omega : c ≤ 127)]
theorem bld_ws : BldOk Tryz.prog 39 5 .wstr 14 := fun acc args v add h B b w hB hf hBw => by
  obtain ⟨s, rfl, rfl, rfl⟩ := bopR_wstr h
  have hl := fitB_len hf
  refine (Any.Builder_WriteString_k lays166 ext166 B b _ s w hB (by omega) hBw).mono fun r w' ⟨h1, h2, h3, h4⟩ => ⟨h1, .inr ?_, h3, h4⟩
  show Lib.BuilderAtF _ _ _ _ _ (Lib.strCells (catZ acc s)) w'
  rw [strCells_cat]; exact h2
theorem bld_wb : BldOk Tryz.prog 39 5 .wbyte 18 := fun acc args v add h B b w hB hf hBw => by
  obtain ⟨c, rfl, rfl, rfl, h0, h1⟩ := bopR_wbyte h
  have hl := fitB_len hf
  refine (Any.Builder_WriteByte_k lays167 ext167 B b _ c w hB (by omega) hBw).mono fun r w' ⟨h1', h2, h3, h4⟩ => ⟨h1', .inr ?_, h3, h4⟩
  show Lib.BuilderAtF _ _ _ _ _ (Lib.strCells (catZ acc (oneB c))) w'
  rw [strCells_cat, strCells_one h0 h1]; exact h2
theorem bld_wr : BldOk Tryz.prog 39 5 .wrune 71 := fun acc args v add h B b w hB hf hBw => by
  obtain ⟨c, rfl, rfl, rfl, h0, h1⟩ := bopR_wrune h
  have hl := fitB_len hf
  refine (Any.Builder_WriteRune_k lays168 ext168 B b _ c (by omega) (by omega) w hB (by omega) hBw).mono fun r w' ⟨h1', h2, h3, h4⟩ => ?_
  rw [rune_one h0 h1] at h1' h2
  refine ⟨h1', .inr ?_, h3, h4⟩
  show Lib.BuilderAtF _ _ _ _ _ (Lib.strCells (catZ acc (oneB c))) w'
  rw [strCells_cat, strCells_one h0 (by omega)]; exact h2
theorem bld_st : BldOk Tryz.prog 39 5 .str 20 := fun acc args v add h B b w hB hf hBw => by
  obtain ⟨rfl, rfl, rfl⟩ := bopR_str h
  exact Any.Builder_String_any_k lays169 ext169 B b acc.data.toList w hB hBw
theorem bld_ln : BldOk Tryz.prog 39 5 .len 72 := fun acc args v add h B b w hB hf hBw => by
  obtain ⟨rfl, rfl, rfl⟩ := bopR_len h
  refine (Any.Builder_Len_f lays170 B b _ w hB).mono fun r w' ⟨h1, h2⟩ => ?_
  subst h2
  rw [Lib.strCells_length] at h1
  exact ⟨h1, hB, Below.refl _ _, .refl _ _ _⟩
end Go.Proofs.YtgcglmnbkilfhaaGreatDoor
