/-
  NARROWER THAN 'FOR EVERY INPUT', by the rows' own cells (each row's printed sentence says how): WindowNobody: laid.
  DERIVED. THE GIVEN ROWS OF THIS SEAT. 1 by the template 'for every input the law returns true; each argument reads behind the call as it read before'; 0 by the template 'total and deterministic' (their statements: YtiajbijbhhpllaaDoorTotals.lean).
  GIVEN WITH THE SEED: the statements are not yours to turn. If you find one false, say at which input.
  Laid BY PROGRAM, IN A SANDBOX (cutbox-rows.mjs): the forced cells as the released guide's own fill.sh prints them over the translation 084757611f301551… (all of the seat's roots in one cut). By AI agents, Wed Nov 11 2026. No macro, syntax, notation, axiom, sorry.
-/
import Derived.Test.YtiajbijbhhpllaaDoorChecked
import GoSem.Claim
import GoSem.ClaimJoined
import GoSem.ClaimMapViews
import Derived.JoinedTies
import Derived.KernelRfl
namespace Go.Proofs.YtiajbijbhhpllaaDoor
/- THE CELL 'sum', in the pinned program and in every row, IS THE sha256 OF THE DUMP (.gsa) THAT YtiajbijbhhpllaaDoorProg.lean LOADS. Nothing in Lean hashes anything: it is a label: what it is worth is what the hold of that sum in a sandbox is worth. -/
noncomputable def Tryd.pinned : Pinned := { name := "ytiajbijbhhpllaadoor", sum := "084757611f3015519bf7d9286e5c81d7752250aaf48af157007a32a1acd00c9c", checked := Tryd.checked }
namespace Rows
def none {H : Type} : Left H := { results := [], args := [] }

/- WHAT THE LISTED PACKAGE-LEVEL VARIABLES READ AS WHEN THE CALL BEGINS. Each datum BY PROGRAM (the guide's laid-datum.mjs) off the statement by which the dump's own 'gosem.cut.vars' lays the variable. In a bare row this is a premise. The card (YtiajbijbhhpllaaDoorCards.lean) ties it to the program's text. -/
def laid_spinnaker_enc_words {H : Type} : DataW H := .agg [.lit (.int .u32 0), .lit (.int .u32 55), .lit (.int .u32 23), .lit (.int .u32 111), .lit (.int .u32 103), .lit (.int .u32 99), .lit (.int .u32 4195), .lit (.int .u32 16483), .lit (.int .u32 20579), .lit (.int .u32 24675), .lit (.int .u32 28771), .lit (.int .u32 3), .lit (.int .u32 4099), .lit (.int .u32 8195), .lit (.int .u32 12291), .lit (.int .u32 16387), .lit (.int .u32 20483), .lit (.int .u32 24579), .lit (.int .u32 35), .lit (.int .u32 4131), .lit (.int .u32 8227), .lit (.int .u32 12323), .lit (.int .u32 19), .lit (.int .u32 8211), .lit (.int .u32 12307), .lit (.int .u32 16403), .lit (.int .u32 24595), .lit (.int .u32 28691), .lit (.int .u32 4115), .lit (.int .u32 20499), .lit (.int .u32 1073762323), .lit (.int .u32 27), .lit (.int .u32 4123), .lit (.int .u32 20507), .lit (.int .u32 1073762331), .lit (.int .u32 51), .lit (.int .u32 1073741875), .lit (.int .u32 4147), .lit (.int .u32 8243), .lit (.int .u32 12339), .lit (.int .u32 16435), .lit (.int .u32 20531), .lit (.int .u32 1073762355), .lit (.int .u32 24627), .lit (.int .u32 28723), .lit (.int .u32 59), .lit (.int .u32 1073741883), .lit (.int .u32 4155), .lit (.int .u32 20539), .lit (.int .u32 1073762363), .lit (.int .u32 33554483), .lit (.int .u32 33558579), .lit (.int .u32 33562675), .lit (.int .u32 33566771), .lit (.int .u32 33570867), .lit (.int .u32 33574963), .lit (.int .u32 33579059), .lit (.int .u32 33583155), .lit (.int .u32 33554491), .lit (.int .u32 33570875), .lit (.int .u32 33574971), .lit (.int .u32 33579067), .lit (.int .u32 33583163), .lit (.int .u32 15), .lit (.int .u32 115), .lit (.int .u32 1048691), .lit (.int .u32 268443695), .lit (.int .u32 402661423), .lit (.int .u32 134225967), .lit (.int .u32 8239), .lit (.int .u32 536879151), .lit (.int .u32 1610620975), .lit (.int .u32 1073750063), .lit (.int .u32 2147491887), .lit (.int .u32 2684362799), .lit (.int .u32 3221233711), .lit (.int .u32 3758104623)]
def laid_spinnaker_enc_fields {H : Type} : DataW H := .agg [.agg [.lit (.int .i64 7), .lit (.int .i64 5), .lit (.int .i64 0)], .agg [.lit (.int .i64 15), .lit (.int .i64 5), .lit (.int .i64 0)], .agg [.lit (.int .i64 20), .lit (.int .i64 5), .lit (.int .i64 0)], .agg [.lit (.int .i64 26), .lit (.int .i64 1), .lit (.int .i64 0)], .agg [.lit (.int .i64 25), .lit (.int .i64 1), .lit (.int .i64 0)], .agg [.lit (.int .i64 12), .lit (.int .i64 20), .lit (.int .i64 0)], .agg [.lit (.int .i64 31), .lit (.int .i64 1), .lit (.int .i64 20)], .agg [.lit (.int .i64 12), .lit (.int .i64 8), .lit (.int .i64 12)], .agg [.lit (.int .i64 20), .lit (.int .i64 1), .lit (.int .i64 11)], .agg [.lit (.int .i64 21), .lit (.int .i64 10), .lit (.int .i64 1)], .agg [.lit (.int .i64 20), .lit (.int .i64 12), .lit (.int .i64 0)], .agg [.lit (.int .i64 31), .lit (.int .i64 1), .lit (.int .i64 12)], .agg [.lit (.int .i64 7), .lit (.int .i64 1), .lit (.int .i64 11)], .agg [.lit (.int .i64 25), .lit (.int .i64 6), .lit (.int .i64 5)], .agg [.lit (.int .i64 8), .lit (.int .i64 4), .lit (.int .i64 1)], .agg [.lit (.int .i64 25), .lit (.int .i64 7), .lit (.int .i64 5)], .agg [.lit (.int .i64 7), .lit (.int .i64 5), .lit (.int .i64 0)], .agg [.lit (.int .i64 20), .lit (.int .i64 6), .lit (.int .i64 0)], .agg [.lit (.int .i64 20), .lit (.int .i64 5), .lit (.int .i64 0)], .agg [.lit (.int .i64 20), .lit (.int .i64 8), .lit (.int .i64 0)]]
def laid_spinnaker_dec_branches {H : Type} : DataW H := .agg [.lit (.int .i64 5), .lit (.int .i64 6), .lit (.int .i64 0), .lit (.int .i64 0), .lit (.int .i64 7), .lit (.int .i64 8), .lit (.int .i64 9), .lit (.int .i64 10)]
def laid_spinnaker_dec_loads {H : Type} : DataW H := .agg [.lit (.int .i64 11), .lit (.int .i64 12), .lit (.int .i64 13), .lit (.int .i64 14), .lit (.int .i64 15), .lit (.int .i64 16), .lit (.int .i64 17), .lit (.int .i64 0)]
def laid_spinnaker_dec_stores {H : Type} : DataW H := .agg [.lit (.int .i64 18), .lit (.int .i64 19), .lit (.int .i64 20), .lit (.int .i64 21), .lit (.int .i64 0), .lit (.int .i64 0), .lit (.int .i64 0), .lit (.int .i64 0)]
def laid_spinnaker_dec_immediates {H : Type} : DataW H := .agg [.lit (.int .i64 22), .lit (.int .i64 28), .lit (.int .i64 23), .lit (.int .i64 24), .lit (.int .i64 25), .lit (.int .i64 29), .lit (.int .i64 26), .lit (.int .i64 27)]
def laid_spinnaker_dec_sums {H : Type} : DataW H := .agg [.lit (.int .i64 35), .lit (.int .i64 37), .lit (.int .i64 38), .lit (.int .i64 39), .lit (.int .i64 40), .lit (.int .i64 41), .lit (.int .i64 43), .lit (.int .i64 44)]
def laid_spinnaker_dec_others {H : Type} : DataW H := .agg [.lit (.int .i64 36), .lit (.int .i64 0), .lit (.int .i64 0), .lit (.int .i64 0), .lit (.int .i64 0), .lit (.int .i64 42), .lit (.int .i64 0), .lit (.int .i64 0)]
def laid_spinnaker_dec_products {H : Type} : DataW H := .agg [.lit (.int .i64 50), .lit (.int .i64 51), .lit (.int .i64 52), .lit (.int .i64 53), .lit (.int .i64 54), .lit (.int .i64 55), .lit (.int .i64 56), .lit (.int .i64 57)]
def laid_spinnaker_dec_immediatesW {H : Type} : DataW H := .agg [.lit (.int .i64 31), .lit (.int .i64 32), .lit (.int .i64 0), .lit (.int .i64 0), .lit (.int .i64 0), .lit (.int .i64 33), .lit (.int .i64 0), .lit (.int .i64 0)]
def laid_spinnaker_dec_sumsW {H : Type} : DataW H := .agg [.lit (.int .i64 45), .lit (.int .i64 47), .lit (.int .i64 0), .lit (.int .i64 0), .lit (.int .i64 0), .lit (.int .i64 48), .lit (.int .i64 0), .lit (.int .i64 0)]
def laid_spinnaker_dec_othersW {H : Type} : DataW H := .agg [.lit (.int .i64 46), .lit (.int .i64 0), .lit (.int .i64 0), .lit (.int .i64 0), .lit (.int .i64 0), .lit (.int .i64 49), .lit (.int .i64 0), .lit (.int .i64 0)]
def laid_spinnaker_dec_productsW {H : Type} : DataW H := .agg [.lit (.int .i64 58), .lit (.int .i64 0), .lit (.int .i64 0), .lit (.int .i64 0), .lit (.int .i64 59), .lit (.int .i64 60), .lit (.int .i64 61), .lit (.int .i64 62)]

/-- 'spinnakerlaw19.WindowNobody': WHATEVER THE INPUT: true; the input reads as it did. -/
def windowNobodySpec : ChangeSpec := { name := "windowNobody", fn := fun _ => fun
  | [d1, d2, d3] => { results := [.lit (.bool true)], args := [d1, d2, d3] }
  | _ => none }
def windowNobodyRow : OpenClaim := { program := "ytiajbijbhhpllaadoor", sum := "084757611f3015519bf7d9286e5c81d7752250aaf48af157007a32a1acd00c9c", func := "spinnaker/spinnakerlaw19.WindowNobody", spec := "windowNobody", unfollowed := true, recurses := true, named := ["spinnaker/dec.loads", "spinnaker/dec.immediates", "spinnaker/dec.immediatesW", "spinnaker/dec.stores", "spinnaker/dec.sums", "spinnaker/dec.products", "spinnaker/dec.others", "spinnaker/dec.sumsW", "spinnaker/dec.productsW", "spinnaker/dec.othersW", "spinnaker/dec.branches", "spinnaker/enc.fields", "spinnaker/enc.words"], apart := false, laid := [("spinnaker/enc.words", laid_spinnaker_enc_words), ("spinnaker/enc.fields", laid_spinnaker_enc_fields), ("spinnaker/dec.branches", laid_spinnaker_dec_branches), ("spinnaker/dec.loads", laid_spinnaker_dec_loads), ("spinnaker/dec.stores", laid_spinnaker_dec_stores), ("spinnaker/dec.immediates", laid_spinnaker_dec_immediates), ("spinnaker/dec.sums", laid_spinnaker_dec_sums), ("spinnaker/dec.others", laid_spinnaker_dec_others), ("spinnaker/dec.products", laid_spinnaker_dec_products), ("spinnaker/dec.immediatesW", laid_spinnaker_dec_immediatesW), ("spinnaker/dec.sumsW", laid_spinnaker_dec_sumsW), ("spinnaker/dec.othersW", laid_spinnaker_dec_othersW), ("spinnaker/dec.productsW", laid_spinnaker_dec_productsW)] }
def WindowNobodySaid : Prop := windowNobodyRow.holds Tryd.pinned (OpenSpec.ofChange windowNobodySpec)

/-- ITS FALSE NEIGHBOUR: 'it returns false'. Refute it at one input. -/
def windowNobodyWrong : ChangeSpec := { name := "windowNobody", fn := fun _ => fun
  | [d1, d2, d3] => { results := [.lit (.bool false)], args := [d1, d2, d3] }
  | _ => none }
def WindowNobodyWrongFalsely : Prop := windowNobodyRow.holds Tryd.pinned (OpenSpec.ofChange windowNobodyWrong)

/- THE SECOND FORM. 'bulk': how many values and letters a reading holds, each counted each time it is reached (what is shared counts as often as it is met; a slice's spare places count too). A statement '..UptoSaid' is the law's where the arguments, and the package variables that the reading takes, are together of bulk at most 1048576: NARROWER than '..Said'. Prove '..Said' where nothing that the law and all that it calls make is longer than what came in: it says more and counts as full. Else prove '..UptoSaid'. A law counts once. -/
mutual
def uptoBulk {H : Type} : DataW H → Nat
  | .lit (.string bytes) => bytes.length + 1
  | .lit _ => 1
  | .nil => 1
  | .ptr d => uptoBulk d + 1
  | .slice elems spare => uptoBulkAll elems + uptoBulkAll spare + 1
  | .agg parts => uptoBulkAll parts + 1
  | .iface _ d => uptoBulk d + 1
  | .map entries => uptoBulkEntries entries + 1
  | .held _ => 1
def uptoBulkAll {H : Type} : List (DataW H) → Nat
  | [] => 0
  | d :: r => uptoBulk d + uptoBulkAll r
def uptoBulkEntries {H : Type} : List (Lit × DataW H) → Nat
  | [] => 0
  | x :: r => uptoBulkEntry x + uptoBulkEntries r
def uptoBulkEntry {H : Type} : Lit × DataW H → Nat
  | (.string bytes, d) => bytes.length + uptoBulk d + 1
  | (_, d) => uptoBulk d + 1
 end
def uptoSmall : (H : Type) → List (DataW H) → Bool := fun _ ds => decide (uptoBulkAll ds ≤ 1048576)
def OpenSpec.upto (s : _root_.Go.ChangeSpec) : _root_.Go.OpenSpec := { _root_.Go.OpenSpec.ofChange s with cond := some uptoSmall }

/-- 'spinnakerlaw19.WindowNobody', WHERE WHAT IT READS IS OF BULK AT MOST 1048576: true; the input reads as it did. -/
def windowNobodyUptoRow : OpenClaim := { program := "ytiajbijbhhpllaadoor", sum := "084757611f3015519bf7d9286e5c81d7752250aaf48af157007a32a1acd00c9c", func := "spinnaker/spinnakerlaw19.WindowNobody", spec := "windowNobody", unfollowed := true, recurses := true, named := ["spinnaker/dec.loads", "spinnaker/dec.immediates", "spinnaker/dec.immediatesW", "spinnaker/dec.stores", "spinnaker/dec.sums", "spinnaker/dec.products", "spinnaker/dec.others", "spinnaker/dec.sumsW", "spinnaker/dec.productsW", "spinnaker/dec.othersW", "spinnaker/dec.branches", "spinnaker/enc.fields", "spinnaker/enc.words"], apart := false, laid := [("spinnaker/enc.words", laid_spinnaker_enc_words), ("spinnaker/enc.fields", laid_spinnaker_enc_fields), ("spinnaker/dec.branches", laid_spinnaker_dec_branches), ("spinnaker/dec.loads", laid_spinnaker_dec_loads), ("spinnaker/dec.stores", laid_spinnaker_dec_stores), ("spinnaker/dec.immediates", laid_spinnaker_dec_immediates), ("spinnaker/dec.sums", laid_spinnaker_dec_sums), ("spinnaker/dec.others", laid_spinnaker_dec_others), ("spinnaker/dec.products", laid_spinnaker_dec_products), ("spinnaker/dec.immediatesW", laid_spinnaker_dec_immediatesW), ("spinnaker/dec.sumsW", laid_spinnaker_dec_sumsW), ("spinnaker/dec.othersW", laid_spinnaker_dec_othersW), ("spinnaker/dec.productsW", laid_spinnaker_dec_productsW)], narrowed := true }
def WindowNobodyUptoSaid : Prop := windowNobodyUptoRow.holds Tryd.pinned (OpenSpec.upto windowNobodySpec)

end Rows
end Go.Proofs.YtiajbijbhhpllaaDoor
