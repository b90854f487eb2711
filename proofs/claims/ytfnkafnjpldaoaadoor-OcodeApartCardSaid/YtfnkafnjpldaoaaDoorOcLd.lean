/- What a card's proof rests on: the table as the row lists it, and a world that holds it. -/
import Derived.Test.YtfnkafnjpldaoaaDoorOcIn
import Derived.Test.YtfnkafnjpldaoaaDoorFrame
import Derived.Test.YtfnkafnjpldaoaaDoorCards
import Derived.Test.YtfnkafnjpldaoaaDoorTie
import Derived.Deep.DeepHandedRow
import Derived.Stop.LaidErr
import Derived.SizedLaws
namespace Go.Proofs.YtfnkafnjpldaoaaDoor
open Go.ChangeShapes Go.WideShapes Go.ChangeAt Go.RowKit
set_option linter.unusedVariables false
def fillC (cs : Array Value) : Obj → Obj
  | .cells _ t frozen => .cells cs t frozen
  | o => o
/-- a world for the witness: the settled one, the table holding what its initialiser lays -/
noncomputable def laidWorld (os : Os) : World :=
  { World.holding Tryd.prog os ⟨#[], #[], []⟩ with heap := (World.holding Tryd.prog os ⟨#[], #[], []⟩).heap.modify instG (fillC #[.string ⟨#[]⟩, .int .i64 0, .int .i64 0, .string ⟨#[110, 117, 109]⟩, .int .i64 1, .int .i64 0, .string ⟨#[108, 111, 99, 97, 108]⟩, .int .i64 2, .int .i64 0, .string ⟨#[112, 117, 116, 108]⟩, .int .i64 2, .int .i64 0, .string ⟨#[97, 100, 100, 114, 108]⟩, .int .i64 2, .int .i64 0, .string ⟨#[103, 108, 111, 98, 97, 108]⟩, .int .i64 3, .int .i64 0, .string ⟨#[112, 117, 116, 103]⟩, .int .i64 3, .int .i64 0, .string ⟨#[97, 100, 100, 114, 103]⟩, .int .i64 3, .int .i64 0, .string ⟨#[115, 116, 97, 116, 105, 99]⟩, .int .i64 4, .int .i64 0, .string ⟨#[112, 117, 116, 115]⟩, .int .i64 4, .int .i64 0, .string ⟨#[97, 100, 100, 114, 115]⟩, .int .i64 4, .int .i64 0, .string ⟨#[112, 114, 111, 99]⟩, .int .i64 5, .int .i64 0, .string ⟨#[108, 111, 97, 100]⟩, .int .i64 0, .int .i64 0, .string ⟨#[115, 116, 111, 114, 101]⟩, .int .i64 0, .int .i64 0, .string ⟨#[103, 101, 116, 98]⟩, .int .i64 0, .int .i64 0, .string ⟨#[112, 117, 116, 98]⟩, .int .i64 0, .int .i64 0, .string ⟨#[98, 105, 110]⟩, .int .i64 7, .int .i64 0, .string ⟨#[117, 110]⟩, .int .i64 8, .int .i64 0, .string ⟨#[115, 116, 97, 99, 107]⟩, .int .i64 2, .int .i64 0, .string ⟨#[108, 97, 98, 101, 108]⟩, .int .i64 6, .int .i64 0, .string ⟨#[106, 117, 109, 112]⟩, .int .i64 6, .int .i64 0, .string ⟨#[116, 114, 117, 101]⟩, .int .i64 6, .int .i64 0, .string ⟨#[102, 97, 108, 115, 101]⟩, .int .i64 6, .int .i64 0, .string ⟨#[99, 97, 108, 108]⟩, .int .i64 2, .int .i64 0, .string ⟨#[101, 110, 116, 101, 114]⟩, .int .i64 5, .int .i64 9, .string ⟨#[114, 101, 116, 117, 114, 110]⟩, .int .i64 0, .int .i64 0, .string ⟨#[98, 97, 99, 107]⟩, .int .i64 0, .int .i64 0, .string ⟨#[114, 101, 115, 117, 108, 116]⟩, .int .i64 6, .int .i64 0, .string ⟨#[116, 97, 107, 101]⟩, .int .i64 2, .int .i64 0, .string ⟨#[115, 119, 105, 116, 99, 104]⟩, .int .i64 6, .int .i64 10, .string ⟨#[99, 97, 115, 101]⟩, .int .i64 1, .int .i64 6]) }
end Go.Proofs.YtfnkafnjpldaoaaDoor
