/- How often labels are named, in the document's words. -/
import Derived.Test.YtfnkafnjpldaoaaDoorOcDe
namespace Go.Proofs.YtfnkafnjpldaoaaDoor
open Go.RowKit
set_option linter.unusedVariables false
set_option linter.unusedSimpArgs false
def jmpG : List OC.Op → List Int → List Int
  | [], t => t
  | o :: r, t => jmpG r (if 0 < OC.label o then t.set ((OC.label o).toNat - 1) (t.getD ((OC.label o).toNat - 1) 0 + 1) else t)
theorem jmpG_len : ∀ (l : List OC.Op) (t : List Int), (jmpG l t).length = t.length
  | [], _ => rfl
  | o :: r, t => by rw [jmpG, jmpG_len r]; split <;> simp
end Go.Proofs.YtfnkafnjpldaoaaDoor
