/- The walk of the law on rows. -/
import Derived.Test.YtgcgdgbogamlnaaSpanF
import Derived.Test.YtgcgdgbogamlnaaDrawM
import Derived.Test.YtgcgdgbogamlnaaNullB
import Derived.Test.YtgcgdgbogamlnaaBig
namespace Go.Proofs.Ytgcgdgbogamlnaa
open Go.RowKit
def LawYes (W : World) (e : Ending) (w' : World) : Prop := e = .returned (.bool true) ∧ Below W.heap.size W w'
theorem seesM_row {w : World} {a : Option Addr} {len : Nat} {ms : List (List Int)} (h : SeesM w a len ms) {r : Nat} (hr : r < len) : ∃ b off ar cr, a = some ⟨b, off, none⟩ ∧ b < w.heap.size ∧ w.cell? ⟨b, off + r, none⟩ = some (.slice ar (row ms r).length cr) ∧ (row ms r).length ≤ cr ∧ cr ≤ maxLen ∧ Sees .i64 w ar (row ms r).length (row ms r) := h.2 r hr
end Go.Proofs.Ytgcgdgbogamlnaa
