/- Single instructions, in the document's words: which label they name, what depth they leave, what they need. -/
import Derived.Test.YtfnkafnjpldaoaaDoorOcRd
import Derived.Outline
import Derived.IntWalk
import Derived.Deep.Light
namespace Go.Proofs.YtfnkafnjpldaoaaDoor
open Go.RowKit
set_option linter.unusedVariables false
set_option linter.unusedSimpArgs false
end Go.Proofs.YtfnkafnjpldaoaaDoor
