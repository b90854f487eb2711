/- The document's answer: what is skipped; a byte or an escape. -/
import Derived.Test.YtpcepfoebkmbgaaDoorLxAt
import Derived.Outline
namespace Go.Proofs.YtpcepfoebkmbgaaDoor
open Go.RowKit
set_option linter.unusedVariables false
end Go.Proofs.YtpcepfoebkmbgaaDoor
