/- Wlk16, Wla16, Wls16. -/
import Derived.Test.YtchjjbcmbdmlgaaAwk16
import Derived.Test.YtchjjbcmbdmlgaaK18
import Derived.Test.YtchjjbcmbdmlgaaK19
import Derived.Test.YtchjjbcmbdmlgaaLwb16
import Derived.Test.YtchjjbcmbdmlgaaLws16
set_option linter.unusedVariables false
set_option linter.unusedSimpArgs false
namespace Go.Proofs.Ytchjjbcmbdmlgaa
open Go Go.RowKit
def ImA (W : World) (v : Value) : Prop := ∃ qc nc cc qd nd cd qe ne ce, v = .agg #[.slice qc nc cc, .slice qd nd cd, .slice qe ne ce] ∧ nc ≤ maxLen ∧ nd ≤ maxLen ∧ RdW W W.heap.size .u32 qc nc ∧ RdW W W.heap.size .i64 qe ne
def CdA (W : World) (v : Value) : Prop := ∃ qh nh ch qr nr cr L, v = .agg #[.slice qh nh ch, .slice qr nr cr] ∧ CdW W W.heap.size qh nh qr nr ∧ CdN W W.heap.size qh nh L
theorem ppoRules_walk (rule : Int) (W : World) {v0 v1 : Value} (hi : ImA W v0) (hc : CdA W v1) : Calls Try.prog 3 #[v0, v1, .int .i64 rule] W (Holds W) := by
  obtain ⟨qc, nc, cc, qd, nd, cd, qe, ne, ce, rfl, h1, h2, h3, h4⟩ := hi
  obtain ⟨qh, nh, ch, qr, nr, cr, L, rfl, k1, k2⟩ := hc
  exact ppoRules_of qc qd qe qh qr nc cc nd cd ne ce nh ch nr cr rule W (fun W0 hB => events_p qc qd qe qh qr nc cc nd cd ne ce nh ch nr cr L h1 h2 W h3 h4 k1 k2 W0 hB) (fun w q n cap E hn h => ruleOk_of hn h) awake16
end Go.Proofs.Ytchjjbcmbdmlgaa
namespace Go.Proofs.Ytchjjbcmbdmlgaa
open Go Go.RowKit
theorem ppoAll_walk (W : World) {v0 v1 : Value} (hi : ImA W v0) (hc : CdA W v1) : Calls Try.prog 4 #[v0, v1] W (Holds W) := by
  obtain ⟨qc, nc, cc, qd, nd, cd, qe, ne, ce, rfl, h1, h2, h3, h4⟩ := hi
  obtain ⟨qh, nh, ch, qr, nr, cr, L, rfl, k1, k2⟩ := hc
  exact ppoAll_of qc qd qe qh qr nc cc nd cd ne ce nh ch nr cr W (fun W0 hB => events_p qc qd qe qh qr nc cc nd cd ne ce nh ch nr cr L h1 h2 W h3 h4 k1 k2 W0 hB)
end Go.Proofs.Ytchjjbcmbdmlgaa
namespace Go.Proofs.Ytchjjbcmbdmlgaa
open Go Go.RowKit
theorem ppoStrong_walk (W : World) {v0 v1 : Value} (hi : ImA W v0) (hc : CdA W v1) : Calls Try.prog 5 #[v0, v1] W (Holds W) := by
  obtain ⟨qc, nc, cc, qd, nd, cd, qe, ne, ce, rfl, h1, h2, h3, h4⟩ := hi
  obtain ⟨qh, nh, ch, qr, nr, cr, L, rfl, k1, k2⟩ := hc
  exact ppoStrong_of qc qd qe qh qr nc cc nd cd ne ce nh ch nr cr W (fun W0 hB => events_p qc qd qe qh qr nc cc nd cd ne ce nh ch nr cr L h1 h2 W h3 h4 k1 k2 W0 hB)
end Go.Proofs.Ytchjjbcmbdmlgaa
