/- Whether areas and entries are as said, in the document's words. -/
import Derived.Test.YtfnkafnjpldaoaaDoorOcPl
import Derived.Test.YtfnkafnjpldaoaaDoorLxQuoR
namespace Go.Proofs.YtfnkafnjpldaoaaDoor
open Go.RowKit
set_option linter.unusedVariables false
set_option linter.unusedSimpArgs false
def datOk (d : OC.Dat) : Bool :=
  if d.isText then decide ((LX.quoteR d.text).2 = 0) && decide (d.words.length = 0) else decide (d.text = []) && decide (0 < d.words.length) && d.words.all OC.wordOk
def areasB (c : OC.Code) : Bool := c.data.all datOk && OC.entB c.procs [] c.globals && decide ((LX.quoteR c.name).2 = 0)
theorem ents_take {l : List OC.Ent} {j : Nat} {g : Int} (hj : j < l.length) (h : ∀ x ∈ l.take j, x.g ≠ g) (h2 : (l.getD j OC.ez).g ≠ g) : ∀ x ∈ l.take (j + 1), x.g ≠ g := by
  intro x hx
  rw [List.take_succ_eq_append_getElem hj, List.mem_append] at hx
  rcases hx with hx | hx
  · exact h x hx
  · simp at hx; subst hx; rwa [getD_at hj] at h2
end Go.Proofs.YtfnkafnjpldaoaaDoor
