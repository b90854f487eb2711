/-
  DERIVED. GIVEN WITH THE SEED: THE CARDS: each row of YtfnkafnjpldaoaaDoorRows.lean that lists a variable, with what it lists TIED to the program's text (the seventh form; the later family's looks); each row that meets fmt, with fmt's text TOLD by the authors' own Lean function (tested against real Go, not proved from fmt's source: count such statements apart). THE CARD IS WHAT COUNTS. Prove the row's statement (the work); the ties are given (YtfnkafnjpldaoaaDoorTie.lean); close each card by the builder's one call (the guide's Derived/Test/ToyasCard.lean, 'card_holds'). Laid BY PROGRAM, IN A SANDBOX (cutbox-door.mjs). By AI agents, Wed Nov 11 2026. No macro, syntax, notation, axiom, sorry.
-/
import Derived.Test.YtfnkafnjpldaoaaDoorRows
import GoSem.ClaimSeven
namespace Go.Proofs.YtfnkafnjpldaoaaDoor
namespace Rows

/-- THE TIED CARD OF 'bluebelllaw06.OcodeApart'. -/
def ocodeApartCard : Claim7 := { stood := { row := ocodeApartRow, standIns := [], harness := (true, "14cd33e9e63c09d465c0d9d1cdba82ae0c15974641bd40801053ea7b50856636"), looks := false }, kinds := [], alts := [], laidByText := true, laidKinds := [.data], laidTests := true, laidLooks := .later }
def OcodeApartCardSaid : Prop := Claim7.holds Tryd.pinned (.plain (OpenSpec.ofChange ocodeApartSpec)) ocodeApartCard

/-- THE SECOND FORM's CARD OF 'bluebelllaw06.OcodeApart'. -/
def ocodeApartUptoCard : Claim7 := { stood := { row := ocodeApartUptoRow, standIns := [], harness := (true, "14cd33e9e63c09d465c0d9d1cdba82ae0c15974641bd40801053ea7b50856636"), looks := false }, kinds := [], alts := [], laidByText := true, laidKinds := [.data], laidTests := true, laidLooks := .later }
def OcodeApartUptoCardSaid : Prop := Claim7.holds Tryd.pinned (.plain (OpenSpec.upto ocodeApartSpec)) ocodeApartUptoCard
end Rows
end Go.Proofs.YtfnkafnjpldaoaaDoor
