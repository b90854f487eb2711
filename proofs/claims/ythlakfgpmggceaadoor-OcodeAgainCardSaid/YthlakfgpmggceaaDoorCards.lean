/-
  DERIVED. GIVEN WITH THE SEED: THE CARDS: each row of YthlakfgpmggceaaDoorRows.lean that lists a variable, with what it lists TIED to the program's text (the seventh form; the later family's looks); each row that meets fmt, with fmt's text TOLD by the authors' own Lean function (tested against real Go, not proved from fmt's source: count such statements apart). THE CARD IS WHAT COUNTS. Prove the row's statement (the work); the ties are given (YthlakfgpmggceaaDoorTie.lean); close each card by the builder's one call (the guide's Derived/Test/ToyasCard.lean, 'card_holds'). Laid BY PROGRAM, IN A SANDBOX (cutbox-door.mjs). By AI agents, Wed Nov 11 2026. No macro, syntax, notation, axiom, sorry.
-/
import Derived.Test.YthlakfgpmggceaaDoorRows
import GoSem.ClaimSeven
namespace Go.Proofs.YthlakfgpmggceaaDoor
namespace Rows

/-- THE TIED CARD OF 'bluebelllaw06.OcodeChecks'. -/
def ocodeChecksCard : Claim7 := { stood := { row := ocodeChecksRow, standIns := [], harness := (true, "76edd655c5eb60050e34a607f7ef861f3c4dc0d9bd9b551337927eabfe935f1d"), looks := false }, kinds := [], alts := [], laidByText := true, laidKinds := [.data], laidTests := true, laidLooks := .later }
def OcodeChecksCardSaid : Prop := Claim7.holds Tryd.pinned (.plain (OpenSpec.ofChange ocodeChecksSpec)) ocodeChecksCard

/-- THE TIED CARD OF 'bluebelllaw06.OcodeTexts'. -/
def ocodeTextsCard : Claim7 := { stood := { row := ocodeTextsRow, standIns := [], harness := (true, "76edd655c5eb60050e34a607f7ef861f3c4dc0d9bd9b551337927eabfe935f1d"), looks := false }, kinds := [], alts := [], laidByText := true, laidKinds := [.data, .data, .data, .data, .data], laidTests := true, laidLooks := .later }
def OcodeTextsCardSaid : Prop := Claim7.holds Tryd.pinned (.plain (OpenSpec.ofChange ocodeTextsSpec)) ocodeTextsCard

/-- THE TIED CARD OF 'bluebelllaw06.OcodeDepths'. -/
def ocodeDepthsCard : Claim7 := { stood := { row := ocodeDepthsRow, standIns := [], harness := (true, "76edd655c5eb60050e34a607f7ef861f3c4dc0d9bd9b551337927eabfe935f1d"), looks := false }, kinds := [], alts := [], laidByText := true, laidKinds := [.data], laidTests := true, laidLooks := .later }
def OcodeDepthsCardSaid : Prop := Claim7.holds Tryd.pinned (.plain (OpenSpec.ofChange ocodeDepthsSpec)) ocodeDepthsCard

/-- THE TIED CARD OF 'bluebelllaw06.OcodeNumbers'. -/
def ocodeNumbersCard : Claim7 := { stood := { row := ocodeNumbersRow, standIns := [], harness := (true, "76edd655c5eb60050e34a607f7ef861f3c4dc0d9bd9b551337927eabfe935f1d"), looks := false }, kinds := [], alts := [], laidByText := true, laidKinds := [.data], laidTests := true, laidLooks := .later }
def OcodeNumbersCardSaid : Prop := Claim7.holds Tryd.pinned (.plain (OpenSpec.ofChange ocodeNumbersSpec)) ocodeNumbersCard

/-- THE TIED CARD OF 'bluebelllaw06.OcodeLays'. -/
def ocodeLaysCard : Claim7 := { stood := { row := ocodeLaysRow, standIns := [], harness := (true, "76edd655c5eb60050e34a607f7ef861f3c4dc0d9bd9b551337927eabfe935f1d"), looks := false }, kinds := [], alts := [], laidByText := true, laidKinds := [.data], laidTests := true, laidLooks := .later }
def OcodeLaysCardSaid : Prop := Claim7.holds Tryd.pinned (.plain (OpenSpec.ofChange ocodeLaysSpec)) ocodeLaysCard

/-- THE TIED CARD OF 'bluebelllaw06.OcodeSame'. -/
def ocodeSameCard : Claim7 := { stood := { row := ocodeSameRow, standIns := [], harness := (true, "76edd655c5eb60050e34a607f7ef861f3c4dc0d9bd9b551337927eabfe935f1d"), looks := false }, kinds := [], alts := [], laidByText := true, laidKinds := [.data], laidTests := true, laidLooks := .later }
def OcodeSameCardSaid : Prop := Claim7.holds Tryd.pinned (.plain (OpenSpec.ofChange ocodeSameSpec)) ocodeSameCard

/-- THE TIED CARD OF 'bluebelllaw06.OcodeAgain'. -/
def ocodeAgainCard : Claim7 := { stood := { row := ocodeAgainRow, standIns := [], harness := (true, "76edd655c5eb60050e34a607f7ef861f3c4dc0d9bd9b551337927eabfe935f1d"), looks := false }, kinds := [], alts := [], laidByText := true, laidKinds := [.data], laidTests := true, laidLooks := .later }
def OcodeAgainCardSaid : Prop := Claim7.holds Tryd.pinned (.plain (OpenSpec.ofChange ocodeAgainSpec)) ocodeAgainCard

/-- THE TIED CARD OF 'bluebelllaw06.OcodeApart'. -/
def ocodeApartCard : Claim7 := { stood := { row := ocodeApartRow, standIns := [], harness := (true, "76edd655c5eb60050e34a607f7ef861f3c4dc0d9bd9b551337927eabfe935f1d"), looks := false }, kinds := [], alts := [], laidByText := true, laidKinds := [.data], laidTests := true, laidLooks := .later }
def OcodeApartCardSaid : Prop := Claim7.holds Tryd.pinned (.plain (OpenSpec.ofChange ocodeApartSpec)) ocodeApartCard

/-- THE TIED CARD OF 'bluebelllaw06.OcodeDown'. -/
def ocodeDownCard : Claim7 := { stood := { row := ocodeDownRow, standIns := [], harness := (true, "76edd655c5eb60050e34a607f7ef861f3c4dc0d9bd9b551337927eabfe935f1d"), looks := false }, kinds := [], alts := [], laidByText := true, laidKinds := [.data], laidTests := true, laidLooks := .later }
def OcodeDownCardSaid : Prop := Claim7.holds Tryd.pinned (.plain (OpenSpec.ofChange ocodeDownSpec)) ocodeDownCard

/-- THE TIED CARD OF 'bluebelllaw06.OcodeSums'. -/
def ocodeSumsCard : Claim7 := { stood := { row := ocodeSumsRow, standIns := [], harness := (true, "76edd655c5eb60050e34a607f7ef861f3c4dc0d9bd9b551337927eabfe935f1d"), looks := false }, kinds := [], alts := [], laidByText := true, laidKinds := [.data], laidTests := true, laidLooks := .later }
def OcodeSumsCardSaid : Prop := Claim7.holds Tryd.pinned (.plain (OpenSpec.ofChange ocodeSumsSpec)) ocodeSumsCard

/-- THE SECOND FORM's CARD OF 'bluebelllaw06.OcodeChecks'. -/
def ocodeChecksUptoCard : Claim7 := { stood := { row := ocodeChecksUptoRow, standIns := [], harness := (true, "76edd655c5eb60050e34a607f7ef861f3c4dc0d9bd9b551337927eabfe935f1d"), looks := false }, kinds := [], alts := [], laidByText := true, laidKinds := [.data], laidTests := true, laidLooks := .later }
def OcodeChecksUptoCardSaid : Prop := Claim7.holds Tryd.pinned (.plain (OpenSpec.upto ocodeChecksSpec)) ocodeChecksUptoCard

/-- THE SECOND FORM's CARD OF 'bluebelllaw06.OcodeTexts'. -/
def ocodeTextsUptoCard : Claim7 := { stood := { row := ocodeTextsUptoRow, standIns := [], harness := (true, "76edd655c5eb60050e34a607f7ef861f3c4dc0d9bd9b551337927eabfe935f1d"), looks := false }, kinds := [], alts := [], laidByText := true, laidKinds := [.data, .data, .data, .data, .data], laidTests := true, laidLooks := .later }
def OcodeTextsUptoCardSaid : Prop := Claim7.holds Tryd.pinned (.plain (OpenSpec.upto ocodeTextsSpec)) ocodeTextsUptoCard

/-- THE SECOND FORM's CARD OF 'bluebelllaw06.OcodeDepths'. -/
def ocodeDepthsUptoCard : Claim7 := { stood := { row := ocodeDepthsUptoRow, standIns := [], harness := (true, "76edd655c5eb60050e34a607f7ef861f3c4dc0d9bd9b551337927eabfe935f1d"), looks := false }, kinds := [], alts := [], laidByText := true, laidKinds := [.data], laidTests := true, laidLooks := .later }
def OcodeDepthsUptoCardSaid : Prop := Claim7.holds Tryd.pinned (.plain (OpenSpec.upto ocodeDepthsSpec)) ocodeDepthsUptoCard

/-- THE SECOND FORM's CARD OF 'bluebelllaw06.OcodeNumbers'. -/
def ocodeNumbersUptoCard : Claim7 := { stood := { row := ocodeNumbersUptoRow, standIns := [], harness := (true, "76edd655c5eb60050e34a607f7ef861f3c4dc0d9bd9b551337927eabfe935f1d"), looks := false }, kinds := [], alts := [], laidByText := true, laidKinds := [.data], laidTests := true, laidLooks := .later }
def OcodeNumbersUptoCardSaid : Prop := Claim7.holds Tryd.pinned (.plain (OpenSpec.upto ocodeNumbersSpec)) ocodeNumbersUptoCard

/-- THE SECOND FORM's CARD OF 'bluebelllaw06.OcodeLays'. -/
def ocodeLaysUptoCard : Claim7 := { stood := { row := ocodeLaysUptoRow, standIns := [], harness := (true, "76edd655c5eb60050e34a607f7ef861f3c4dc0d9bd9b551337927eabfe935f1d"), looks := false }, kinds := [], alts := [], laidByText := true, laidKinds := [.data], laidTests := true, laidLooks := .later }
def OcodeLaysUptoCardSaid : Prop := Claim7.holds Tryd.pinned (.plain (OpenSpec.upto ocodeLaysSpec)) ocodeLaysUptoCard

/-- THE SECOND FORM's CARD OF 'bluebelllaw06.OcodeSame'. -/
def ocodeSameUptoCard : Claim7 := { stood := { row := ocodeSameUptoRow, standIns := [], harness := (true, "76edd655c5eb60050e34a607f7ef861f3c4dc0d9bd9b551337927eabfe935f1d"), looks := false }, kinds := [], alts := [], laidByText := true, laidKinds := [.data], laidTests := true, laidLooks := .later }
def OcodeSameUptoCardSaid : Prop := Claim7.holds Tryd.pinned (.plain (OpenSpec.upto ocodeSameSpec)) ocodeSameUptoCard

/-- THE SECOND FORM's CARD OF 'bluebelllaw06.OcodeAgain'. -/
def ocodeAgainUptoCard : Claim7 := { stood := { row := ocodeAgainUptoRow, standIns := [], harness := (true, "76edd655c5eb60050e34a607f7ef861f3c4dc0d9bd9b551337927eabfe935f1d"), looks := false }, kinds := [], alts := [], laidByText := true, laidKinds := [.data], laidTests := true, laidLooks := .later }
def OcodeAgainUptoCardSaid : Prop := Claim7.holds Tryd.pinned (.plain (OpenSpec.upto ocodeAgainSpec)) ocodeAgainUptoCard

/-- THE SECOND FORM's CARD OF 'bluebelllaw06.OcodeApart'. -/
def ocodeApartUptoCard : Claim7 := { stood := { row := ocodeApartUptoRow, standIns := [], harness := (true, "76edd655c5eb60050e34a607f7ef861f3c4dc0d9bd9b551337927eabfe935f1d"), looks := false }, kinds := [], alts := [], laidByText := true, laidKinds := [.data], laidTests := true, laidLooks := .later }
def OcodeApartUptoCardSaid : Prop := Claim7.holds Tryd.pinned (.plain (OpenSpec.upto ocodeApartSpec)) ocodeApartUptoCard

/-- THE SECOND FORM's CARD OF 'bluebelllaw06.OcodeDown'. -/
def ocodeDownUptoCard : Claim7 := { stood := { row := ocodeDownUptoRow, standIns := [], harness := (true, "76edd655c5eb60050e34a607f7ef861f3c4dc0d9bd9b551337927eabfe935f1d"), looks := false }, kinds := [], alts := [], laidByText := true, laidKinds := [.data], laidTests := true, laidLooks := .later }
def OcodeDownUptoCardSaid : Prop := Claim7.holds Tryd.pinned (.plain (OpenSpec.upto ocodeDownSpec)) ocodeDownUptoCard

/-- THE SECOND FORM's CARD OF 'bluebelllaw06.OcodeSums'. -/
def ocodeSumsUptoCard : Claim7 := { stood := { row := ocodeSumsUptoRow, standIns := [], harness := (true, "76edd655c5eb60050e34a607f7ef861f3c4dc0d9bd9b551337927eabfe935f1d"), looks := false }, kinds := [], alts := [], laidByText := true, laidKinds := [.data], laidTests := true, laidLooks := .later }
def OcodeSumsUptoCardSaid : Prop := Claim7.holds Tryd.pinned (.plain (OpenSpec.upto ocodeSumsSpec)) ocodeSumsUptoCard
end Rows
end Go.Proofs.YthlakfgpmggceaaDoor
