/- The document's answer: all tokens. -/
import Derived.Test.YtpcepfoebkmbgaaDoorLxRefX
import Derived.Test.YtpcepfoebkmbgaaDoorLxTok
namespace Go.Proofs.YtpcepfoebkmbgaaDoor
open Go.RowKit
set_option linter.unusedVariables false
theorem tok_info : (Tryd.prog.info? 32).map (fun i => (i.zero, i.size, i.bytes)) = some (some (.agg #[.int .i64 0, .string ⟨#[]⟩, .int .i64 0, .int .i64 0]), 4, 40) := by kernel_rfl
theorem tcells_snoc (ts : List LX.Tok) (t : LX.Tok) : (ts ++ [t]).flatMap tcells = ts.flatMap tcells ++ tcells t := by simp
end Go.Proofs.YtpcepfoebkmbgaaDoor
