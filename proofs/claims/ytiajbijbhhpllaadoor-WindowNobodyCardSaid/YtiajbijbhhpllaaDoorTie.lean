/-
  DERIVED. GIVEN WITH THE SEED: THE PROGRAM's TIES (one call each: nine closed facts by the kernel) AND EACH ROW's TIE, after the 31st guide's Derived/Test/Toyas{Tie, Card}.lean. No idea stands in it: it is a product of the set-up. Laid BY PROGRAM, IN A SANDBOX (cutbox-door.mjs). By AI agents, Wed Nov 11 2026. No macro, syntax, notation, axiom, sorry.
-/
import Derived.Test.YtiajbijbhhpllaaDoorRows
import Derived.LaidByTextLater
import Derived.SevenTiedAt
import Derived.LaidSub
import Derived.LaidOnce
namespace Go.Proofs.YtiajbijbhhpllaaDoor
open Go
set_option maxRecDepth 100000
theorem seatTie1 : Tryd.prog.laidByTextLater [("spinnaker/enc.words", Rows.laid_spinnaker_enc_words), ("spinnaker/enc.fields", Rows.laid_spinnaker_enc_fields), ("spinnaker/dec.branches", Rows.laid_spinnaker_dec_branches), ("spinnaker/dec.loads", Rows.laid_spinnaker_dec_loads), ("spinnaker/dec.stores", Rows.laid_spinnaker_dec_stores), ("spinnaker/dec.immediates", Rows.laid_spinnaker_dec_immediates), ("spinnaker/dec.sums", Rows.laid_spinnaker_dec_sums), ("spinnaker/dec.others", Rows.laid_spinnaker_dec_others), ("spinnaker/dec.products", Rows.laid_spinnaker_dec_products), ("spinnaker/dec.immediatesW", Rows.laid_spinnaker_dec_immediatesW), ("spinnaker/dec.sumsW", Rows.laid_spinnaker_dec_sumsW), ("spinnaker/dec.othersW", Rows.laid_spinnaker_dec_othersW), ("spinnaker/dec.productsW", Rows.laid_spinnaker_dec_productsW)] [.data, .data, .data, .data, .data, .data, .data, .data, .data, .data, .data, .data, .data] true :=
  Program.laidByTextLater_by_one 94 8 78 (by kernel_rfl) (by kernel_rfl) (by kernel_rfl) (by kernel_rfl) (by kernel_rfl) (by kernel_rfl) (fun _ _ => by kernel_rfl)
theorem noOwnUnsafe : Tryd.pinned.checked.prog.headLifts.contains "ownunsafe" = false := by kernel_rfl
theorem tie : Tryd.prog.laidByTextLater [("spinnaker/enc.words", Rows.laid_spinnaker_enc_words), ("spinnaker/enc.fields", Rows.laid_spinnaker_enc_fields), ("spinnaker/dec.branches", Rows.laid_spinnaker_dec_branches), ("spinnaker/dec.loads", Rows.laid_spinnaker_dec_loads), ("spinnaker/dec.stores", Rows.laid_spinnaker_dec_stores), ("spinnaker/dec.immediates", Rows.laid_spinnaker_dec_immediates), ("spinnaker/dec.sums", Rows.laid_spinnaker_dec_sums), ("spinnaker/dec.others", Rows.laid_spinnaker_dec_others), ("spinnaker/dec.products", Rows.laid_spinnaker_dec_products), ("spinnaker/dec.immediatesW", Rows.laid_spinnaker_dec_immediatesW), ("spinnaker/dec.sumsW", Rows.laid_spinnaker_dec_sumsW), ("spinnaker/dec.othersW", Rows.laid_spinnaker_dec_othersW), ("spinnaker/dec.productsW", Rows.laid_spinnaker_dec_productsW)] [.data, .data, .data, .data, .data, .data, .data, .data, .data, .data, .data, .data, .data] true :=
  Program.laidByTextLater.sub seatTie1 ["spinnaker/enc.words", "spinnaker/enc.fields", "spinnaker/dec.branches", "spinnaker/dec.loads", "spinnaker/dec.stores", "spinnaker/dec.immediates", "spinnaker/dec.sums", "spinnaker/dec.others", "spinnaker/dec.products", "spinnaker/dec.immediatesW", "spinnaker/dec.sumsW", "spinnaker/dec.othersW", "spinnaker/dec.productsW"] (by kernel_rfl) (by kernel_rfl)
theorem windowNobody_row_tie : Rows.windowNobodyRow.laidByTextAt .later Tryd.pinned [.data, .data, .data, .data, .data, .data, .data, .data, .data, .data, .data, .data, .data] true :=
  OpenClaim.laidByTextAt_later rfl rfl tie noOwnUnsafe
theorem windowNobodyUpto_row_tie : Rows.windowNobodyUptoRow.laidByTextAt .later Tryd.pinned [.data, .data, .data, .data, .data, .data, .data, .data, .data, .data, .data, .data, .data] true :=
  OpenClaim.laidByTextAt_later rfl rfl tie noOwnUnsafe
end Go.Proofs.YtiajbijbhhpllaaDoor
