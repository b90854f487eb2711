/-
  NARROWER THAN 'FOR EVERY INPUT', by the rows' own cells (each row's printed sentence says how): OcodeChecks: laid · OcodeTexts: laid · OcodeDepths: laid · OcodeNumbers: laid · OcodeLays: laid · OcodeSame: laid · OcodeAgain: laid · OcodeApart: laid · OcodeDown: laid · OcodeSums: laid.
  DERIVED. THE GIVEN ROWS OF THIS SEAT. 10 by the template 'for every input the law returns true; each argument reads behind the call as it read before'; 0 by the template 'total and deterministic' (their statements: YthlakfgpmggceaaDoorTotals.lean).
  GIVEN WITH THE SEED: the statements are not yours to turn. If you find one false, say at which input.
  Laid BY PROGRAM, IN A SANDBOX (cutbox-rows.mjs): the forced cells as the released guide's own fill.sh prints them over the translation 0431979160089660… (all of the seat's roots in one cut). By AI agents, Wed Nov 11 2026. No macro, syntax, notation, axiom, sorry.
-/
import Derived.Test.YthlakfgpmggceaaDoorChecked
import GoSem.Claim
import GoSem.ClaimJoined
import GoSem.ClaimMapViews
import Derived.JoinedTies
import Derived.KernelRfl
namespace Go.Proofs.YthlakfgpmggceaaDoor
/- THE CELL 'sum', in the pinned program and in every row, IS THE sha256 OF THE DUMP (.gsa) THAT YthlakfgpmggceaaDoorProg.lean LOADS. Nothing in Lean hashes anything: it is a label: what it is worth is what the hold of that sum in a sandbox is worth. -/
noncomputable def Tryd.pinned : Pinned := { name := "ythlakfgpmggceaadoor", sum := "04319791600896603a8323f85473e19818138db321d5f154615517f68f69d493", checked := Tryd.checked }
namespace Rows
def none {H : Type} : Left H := { results := [], args := [] }

/- WHAT THE LISTED PACKAGE-LEVEL VARIABLES READ AS WHEN THE CALL BEGINS. Each datum BY PROGRAM (the guide's laid-datum.mjs) off the statement by which the dump's own 'gosem.cut.vars' lays the variable. In a bare row this is a premise. The card (YthlakfgpmggceaaDoorCards.lean) ties it to the program's text. -/
def laid_bluebell_ocode_instructions {H : Type} : DataW H := .agg [.agg [.lit (.string []), .lit (.int .i64 0), .lit (.int .i64 0)], .agg [.lit (.string [110, 117, 109]), .lit (.int .i64 1), .lit (.int .i64 0)], .agg [.lit (.string [108, 111, 99, 97, 108]), .lit (.int .i64 2), .lit (.int .i64 0)], .agg [.lit (.string [112, 117, 116, 108]), .lit (.int .i64 2), .lit (.int .i64 0)], .agg [.lit (.string [97, 100, 100, 114, 108]), .lit (.int .i64 2), .lit (.int .i64 0)], .agg [.lit (.string [103, 108, 111, 98, 97, 108]), .lit (.int .i64 3), .lit (.int .i64 0)], .agg [.lit (.string [112, 117, 116, 103]), .lit (.int .i64 3), .lit (.int .i64 0)], .agg [.lit (.string [97, 100, 100, 114, 103]), .lit (.int .i64 3), .lit (.int .i64 0)], .agg [.lit (.string [115, 116, 97, 116, 105, 99]), .lit (.int .i64 4), .lit (.int .i64 0)], .agg [.lit (.string [112, 117, 116, 115]), .lit (.int .i64 4), .lit (.int .i64 0)], .agg [.lit (.string [97, 100, 100, 114, 115]), .lit (.int .i64 4), .lit (.int .i64 0)], .agg [.lit (.string [112, 114, 111, 99]), .lit (.int .i64 5), .lit (.int .i64 0)], .agg [.lit (.string [108, 111, 97, 100]), .lit (.int .i64 0), .lit (.int .i64 0)], .agg [.lit (.string [115, 116, 111, 114, 101]), .lit (.int .i64 0), .lit (.int .i64 0)], .agg [.lit (.string [103, 101, 116, 98]), .lit (.int .i64 0), .lit (.int .i64 0)], .agg [.lit (.string [112, 117, 116, 98]), .lit (.int .i64 0), .lit (.int .i64 0)], .agg [.lit (.string [98, 105, 110]), .lit (.int .i64 7), .lit (.int .i64 0)], .agg [.lit (.string [117, 110]), .lit (.int .i64 8), .lit (.int .i64 0)], .agg [.lit (.string [115, 116, 97, 99, 107]), .lit (.int .i64 2), .lit (.int .i64 0)], .agg [.lit (.string [108, 97, 98, 101, 108]), .lit (.int .i64 6), .lit (.int .i64 0)], .agg [.lit (.string [106, 117, 109, 112]), .lit (.int .i64 6), .lit (.int .i64 0)], .agg [.lit (.string [116, 114, 117, 101]), .lit (.int .i64 6), .lit (.int .i64 0)], .agg [.lit (.string [102, 97, 108, 115, 101]), .lit (.int .i64 6), .lit (.int .i64 0)], .agg [.lit (.string [99, 97, 108, 108]), .lit (.int .i64 2), .lit (.int .i64 0)], .agg [.lit (.string [101, 110, 116, 101, 114]), .lit (.int .i64 5), .lit (.int .i64 9)], .agg [.lit (.string [114, 101, 116, 117, 114, 110]), .lit (.int .i64 0), .lit (.int .i64 0)], .agg [.lit (.string [98, 97, 99, 107]), .lit (.int .i64 0), .lit (.int .i64 0)], .agg [.lit (.string [114, 101, 115, 117, 108, 116]), .lit (.int .i64 6), .lit (.int .i64 0)], .agg [.lit (.string [116, 97, 107, 101]), .lit (.int .i64 2), .lit (.int .i64 0)], .agg [.lit (.string [115, 119, 105, 116, 99, 104]), .lit (.int .i64 6), .lit (.int .i64 10)], .agg [.lit (.string [99, 97, 115, 101]), .lit (.int .i64 1), .lit (.int .i64 6)]]
def laid_math_bits_deBruijn32tab {H : Type} : DataW H := .agg [.lit (.int .u8 0), .lit (.int .u8 1), .lit (.int .u8 28), .lit (.int .u8 2), .lit (.int .u8 29), .lit (.int .u8 14), .lit (.int .u8 24), .lit (.int .u8 3), .lit (.int .u8 30), .lit (.int .u8 22), .lit (.int .u8 20), .lit (.int .u8 15), .lit (.int .u8 25), .lit (.int .u8 17), .lit (.int .u8 4), .lit (.int .u8 8), .lit (.int .u8 31), .lit (.int .u8 27), .lit (.int .u8 13), .lit (.int .u8 23), .lit (.int .u8 21), .lit (.int .u8 19), .lit (.int .u8 16), .lit (.int .u8 7), .lit (.int .u8 26), .lit (.int .u8 12), .lit (.int .u8 18), .lit (.int .u8 6), .lit (.int .u8 11), .lit (.int .u8 5), .lit (.int .u8 10), .lit (.int .u8 9)]
def laid_math_bits_deBruijn64tab {H : Type} : DataW H := .agg [.lit (.int .u8 0), .lit (.int .u8 1), .lit (.int .u8 56), .lit (.int .u8 2), .lit (.int .u8 57), .lit (.int .u8 49), .lit (.int .u8 28), .lit (.int .u8 3), .lit (.int .u8 61), .lit (.int .u8 58), .lit (.int .u8 42), .lit (.int .u8 50), .lit (.int .u8 38), .lit (.int .u8 29), .lit (.int .u8 17), .lit (.int .u8 4), .lit (.int .u8 62), .lit (.int .u8 47), .lit (.int .u8 59), .lit (.int .u8 36), .lit (.int .u8 45), .lit (.int .u8 43), .lit (.int .u8 51), .lit (.int .u8 22), .lit (.int .u8 53), .lit (.int .u8 39), .lit (.int .u8 33), .lit (.int .u8 30), .lit (.int .u8 24), .lit (.int .u8 18), .lit (.int .u8 12), .lit (.int .u8 5), .lit (.int .u8 63), .lit (.int .u8 55), .lit (.int .u8 48), .lit (.int .u8 27), .lit (.int .u8 60), .lit (.int .u8 41), .lit (.int .u8 37), .lit (.int .u8 16), .lit (.int .u8 46), .lit (.int .u8 35), .lit (.int .u8 44), .lit (.int .u8 21), .lit (.int .u8 52), .lit (.int .u8 32), .lit (.int .u8 23), .lit (.int .u8 11), .lit (.int .u8 54), .lit (.int .u8 26), .lit (.int .u8 40), .lit (.int .u8 15), .lit (.int .u8 34), .lit (.int .u8 20), .lit (.int .u8 31), .lit (.int .u8 10), .lit (.int .u8 25), .lit (.int .u8 14), .lit (.int .u8 19), .lit (.int .u8 9), .lit (.int .u8 13), .lit (.int .u8 8), .lit (.int .u8 7), .lit (.int .u8 6)]
def laid_internal_strconv_uint64pow10 {H : Type} : DataW H := .agg [.lit (.int .u64 1), .lit (.int .u64 10), .lit (.int .u64 100), .lit (.int .u64 1000), .lit (.int .u64 10000), .lit (.int .u64 100000), .lit (.int .u64 1000000), .lit (.int .u64 10000000), .lit (.int .u64 100000000), .lit (.int .u64 1000000000), .lit (.int .u64 10000000000), .lit (.int .u64 100000000000), .lit (.int .u64 1000000000000), .lit (.int .u64 10000000000000), .lit (.int .u64 100000000000000), .lit (.int .u64 1000000000000000), .lit (.int .u64 10000000000000000), .lit (.int .u64 100000000000000000), .lit (.int .u64 1000000000000000000), .lit (.int .u64 10000000000000000000)]
def laid_bluebell_ocode_operators {H : Type} : DataW H := .agg [.lit (.string []), .lit (.string [109, 117, 108]), .lit (.string [100, 105, 118]), .lit (.string [114, 101, 109]), .lit (.string [97, 100, 100]), .lit (.string [115, 117, 98]), .lit (.string [115, 104, 108]), .lit (.string [115, 104, 114]), .lit (.string [97, 110, 100]), .lit (.string [111, 114]), .lit (.string [120, 111, 114]), .lit (.string [101, 113, 118]), .lit (.string [101, 113]), .lit (.string [110, 101]), .lit (.string [108, 116]), .lit (.string [108, 101]), .lit (.string [103, 116]), .lit (.string [103, 101]), .lit (.string [110, 101, 103]), .lit (.string [110, 111, 116])]

/-- 'bluebelllaw06.OcodeChecks': WHATEVER THE INPUT: true; the input reads as it did. -/
def ocodeChecksSpec : ChangeSpec := { name := "ocodeChecks", fn := fun _ => fun
  | [d] => { results := [.lit (.bool true)], args := [d] }
  | _ => none }
def ocodeChecksRow : OpenClaim := { program := "ythlakfgpmggceaadoor", sum := "04319791600896603a8323f85473e19818138db321d5f154615517f68f69d493", func := "bluebell/bluebelllaw06.OcodeChecks", spec := "ocodeChecks", unfollowed := true, recurses := true, named := ["bluebell/ocode.instructions"], apart := false, laid := [("bluebell/ocode.instructions", laid_bluebell_ocode_instructions)] }
def OcodeChecksSaid : Prop := ocodeChecksRow.holds Tryd.pinned (OpenSpec.ofChange ocodeChecksSpec)

/-- ITS FALSE NEIGHBOUR: 'it returns false'. Refute it at one input. -/
def ocodeChecksWrong : ChangeSpec := { name := "ocodeChecks", fn := fun _ => fun
  | [d] => { results := [.lit (.bool false)], args := [d] }
  | _ => none }
def OcodeChecksWrongFalsely : Prop := ocodeChecksRow.holds Tryd.pinned (OpenSpec.ofChange ocodeChecksWrong)

/-- 'bluebelllaw06.OcodeTexts': WHATEVER THE INPUT: true; the input reads as it did. -/
def ocodeTextsSpec : ChangeSpec := { name := "ocodeTexts", fn := fun _ => fun
  | [d] => { results := [.lit (.bool true)], args := [d] }
  | _ => none }
def ocodeTextsRow : OpenClaim := { program := "ythlakfgpmggceaadoor", sum := "04319791600896603a8323f85473e19818138db321d5f154615517f68f69d493", func := "bluebell/bluebelllaw06.OcodeTexts", spec := "ocodeTexts", inPlace := ["internal/abi.NoEscape", "internal/bytealg.MakeNoZero"], recurses := true, named := ["bluebell/ocode.instructions", "internal/strconv.uint64pow10", "math/bits.deBruijn32tab", "math/bits.deBruijn64tab", "bluebell/ocode.operators"], apart := false, laid := [("math/bits.deBruijn32tab", laid_math_bits_deBruijn32tab), ("math/bits.deBruijn64tab", laid_math_bits_deBruijn64tab), ("internal/strconv.uint64pow10", laid_internal_strconv_uint64pow10), ("bluebell/ocode.instructions", laid_bluebell_ocode_instructions), ("bluebell/ocode.operators", laid_bluebell_ocode_operators)] }
def OcodeTextsSaid : Prop := ocodeTextsRow.holds Tryd.pinned (OpenSpec.ofChange ocodeTextsSpec)

/-- ITS FALSE NEIGHBOUR: 'it returns false'. Refute it at one input. -/
def ocodeTextsWrong : ChangeSpec := { name := "ocodeTexts", fn := fun _ => fun
  | [d] => { results := [.lit (.bool false)], args := [d] }
  | _ => none }
def OcodeTextsWrongFalsely : Prop := ocodeTextsRow.holds Tryd.pinned (OpenSpec.ofChange ocodeTextsWrong)

/-- 'bluebelllaw06.OcodeDepths': WHATEVER THE INPUT: true; the input reads as it did. -/
def ocodeDepthsSpec : ChangeSpec := { name := "ocodeDepths", fn := fun _ => fun
  | [d] => { results := [.lit (.bool true)], args := [d] }
  | _ => none }
def ocodeDepthsRow : OpenClaim := { program := "ythlakfgpmggceaadoor", sum := "04319791600896603a8323f85473e19818138db321d5f154615517f68f69d493", func := "bluebell/bluebelllaw06.OcodeDepths", spec := "ocodeDepths", named := ["bluebell/ocode.instructions"], apart := false, laid := [("bluebell/ocode.instructions", laid_bluebell_ocode_instructions)] }
def OcodeDepthsSaid : Prop := ocodeDepthsRow.holds Tryd.pinned (OpenSpec.ofChange ocodeDepthsSpec)

/-- ITS FALSE NEIGHBOUR: 'it returns false'. Refute it at one input. -/
def ocodeDepthsWrong : ChangeSpec := { name := "ocodeDepths", fn := fun _ => fun
  | [d] => { results := [.lit (.bool false)], args := [d] }
  | _ => none }
def OcodeDepthsWrongFalsely : Prop := ocodeDepthsRow.holds Tryd.pinned (OpenSpec.ofChange ocodeDepthsWrong)

/-- 'bluebelllaw06.OcodeNumbers': WHATEVER THE INPUT: true; the input reads as it did. -/
def ocodeNumbersSpec : ChangeSpec := { name := "ocodeNumbers", fn := fun _ => fun
  | [d] => { results := [.lit (.bool true)], args := [d] }
  | _ => none }
def ocodeNumbersRow : OpenClaim := { program := "ythlakfgpmggceaadoor", sum := "04319791600896603a8323f85473e19818138db321d5f154615517f68f69d493", func := "bluebell/bluebelllaw06.OcodeNumbers", spec := "ocodeNumbers", named := ["bluebell/ocode.instructions"], apart := false, laid := [("bluebell/ocode.instructions", laid_bluebell_ocode_instructions)] }
def OcodeNumbersSaid : Prop := ocodeNumbersRow.holds Tryd.pinned (OpenSpec.ofChange ocodeNumbersSpec)

/-- ITS FALSE NEIGHBOUR: 'it returns false'. Refute it at one input. -/
def ocodeNumbersWrong : ChangeSpec := { name := "ocodeNumbers", fn := fun _ => fun
  | [d] => { results := [.lit (.bool false)], args := [d] }
  | _ => none }
def OcodeNumbersWrongFalsely : Prop := ocodeNumbersRow.holds Tryd.pinned (OpenSpec.ofChange ocodeNumbersWrong)

/-- 'bluebelllaw06.OcodeLays': WHATEVER THE INPUT: true; the input reads as it did. -/
def ocodeLaysSpec : ChangeSpec := { name := "ocodeLays", fn := fun _ => fun
  | [d1, d2, d3] => { results := [.lit (.bool true)], args := [d1, d2, d3] }
  | _ => none }
def ocodeLaysRow : OpenClaim := { program := "ythlakfgpmggceaadoor", sum := "04319791600896603a8323f85473e19818138db321d5f154615517f68f69d493", func := "bluebell/bluebelllaw06.OcodeLays", spec := "ocodeLays", named := ["bluebell/ocode.instructions"], apart := false, laid := [("bluebell/ocode.instructions", laid_bluebell_ocode_instructions)] }
def OcodeLaysSaid : Prop := ocodeLaysRow.holds Tryd.pinned (OpenSpec.ofChange ocodeLaysSpec)

/-- ITS FALSE NEIGHBOUR: 'it returns false'. Refute it at one input. -/
def ocodeLaysWrong : ChangeSpec := { name := "ocodeLays", fn := fun _ => fun
  | [d1, d2, d3] => { results := [.lit (.bool false)], args := [d1, d2, d3] }
  | _ => none }
def OcodeLaysWrongFalsely : Prop := ocodeLaysRow.holds Tryd.pinned (OpenSpec.ofChange ocodeLaysWrong)

/-- 'bluebelllaw06.OcodeSame': WHATEVER THE INPUT: true; the input reads as it did. -/
def ocodeSameSpec : ChangeSpec := { name := "ocodeSame", fn := fun _ => fun
  | [d1, d2] => { results := [.lit (.bool true)], args := [d1, d2] }
  | _ => none }
def ocodeSameRow : OpenClaim := { program := "ythlakfgpmggceaadoor", sum := "04319791600896603a8323f85473e19818138db321d5f154615517f68f69d493", func := "bluebell/bluebelllaw06.OcodeSame", spec := "ocodeSame", unfollowed := true, recurses := true, named := ["bluebell/ocode.instructions"], apart := false, laid := [("bluebell/ocode.instructions", laid_bluebell_ocode_instructions)] }
def OcodeSameSaid : Prop := ocodeSameRow.holds Tryd.pinned (OpenSpec.ofChange ocodeSameSpec)

/-- ITS FALSE NEIGHBOUR: 'it returns false'. Refute it at one input. -/
def ocodeSameWrong : ChangeSpec := { name := "ocodeSame", fn := fun _ => fun
  | [d1, d2] => { results := [.lit (.bool false)], args := [d1, d2] }
  | _ => none }
def OcodeSameWrongFalsely : Prop := ocodeSameRow.holds Tryd.pinned (OpenSpec.ofChange ocodeSameWrong)

/-- 'bluebelllaw06.OcodeAgain': WHATEVER THE INPUT: true; the input reads as it did. -/
def ocodeAgainSpec : ChangeSpec := { name := "ocodeAgain", fn := fun _ => fun
  | [d] => { results := [.lit (.bool true)], args := [d] }
  | _ => none }
def ocodeAgainRow : OpenClaim := { program := "ythlakfgpmggceaadoor", sum := "04319791600896603a8323f85473e19818138db321d5f154615517f68f69d493", func := "bluebell/bluebelllaw06.OcodeAgain", spec := "ocodeAgain", unfollowed := true, recurses := true, named := ["bluebell/ocode.instructions"], apart := false, laid := [("bluebell/ocode.instructions", laid_bluebell_ocode_instructions)] }
def OcodeAgainSaid : Prop := ocodeAgainRow.holds Tryd.pinned (OpenSpec.ofChange ocodeAgainSpec)

/-- ITS FALSE NEIGHBOUR: 'it returns false'. Refute it at one input. -/
def ocodeAgainWrong : ChangeSpec := { name := "ocodeAgain", fn := fun _ => fun
  | [d] => { results := [.lit (.bool false)], args := [d] }
  | _ => none }
def OcodeAgainWrongFalsely : Prop := ocodeAgainRow.holds Tryd.pinned (OpenSpec.ofChange ocodeAgainWrong)

/-- 'bluebelllaw06.OcodeApart': WHATEVER THE INPUT: true; the input reads as it did. -/
def ocodeApartSpec : ChangeSpec := { name := "ocodeApart", fn := fun _ => fun
  | [d1, d2] => { results := [.lit (.bool true)], args := [d1, d2] }
  | _ => none }
def ocodeApartRow : OpenClaim := { program := "ythlakfgpmggceaadoor", sum := "04319791600896603a8323f85473e19818138db321d5f154615517f68f69d493", func := "bluebell/bluebelllaw06.OcodeApart", spec := "ocodeApart", named := ["bluebell/ocode.instructions"], apart := false, laid := [("bluebell/ocode.instructions", laid_bluebell_ocode_instructions)] }
def OcodeApartSaid : Prop := ocodeApartRow.holds Tryd.pinned (OpenSpec.ofChange ocodeApartSpec)

/-- ITS FALSE NEIGHBOUR: 'it returns false'. Refute it at one input. -/
def ocodeApartWrong : ChangeSpec := { name := "ocodeApart", fn := fun _ => fun
  | [d1, d2] => { results := [.lit (.bool false)], args := [d1, d2] }
  | _ => none }
def OcodeApartWrongFalsely : Prop := ocodeApartRow.holds Tryd.pinned (OpenSpec.ofChange ocodeApartWrong)

/-- 'bluebelllaw06.OcodeDown': WHATEVER THE INPUT: true; the input reads as it did. -/
def ocodeDownSpec : ChangeSpec := { name := "ocodeDown", fn := fun _ => fun
  | [d] => { results := [.lit (.bool true)], args := [d] }
  | _ => none }
def ocodeDownRow : OpenClaim := { program := "ythlakfgpmggceaadoor", sum := "04319791600896603a8323f85473e19818138db321d5f154615517f68f69d493", func := "bluebell/bluebelllaw06.OcodeDown", spec := "ocodeDown", named := ["bluebell/ocode.instructions"], apart := false, laid := [("bluebell/ocode.instructions", laid_bluebell_ocode_instructions)] }
def OcodeDownSaid : Prop := ocodeDownRow.holds Tryd.pinned (OpenSpec.ofChange ocodeDownSpec)

/-- ITS FALSE NEIGHBOUR: 'it returns false'. Refute it at one input. -/
def ocodeDownWrong : ChangeSpec := { name := "ocodeDown", fn := fun _ => fun
  | [d] => { results := [.lit (.bool false)], args := [d] }
  | _ => none }
def OcodeDownWrongFalsely : Prop := ocodeDownRow.holds Tryd.pinned (OpenSpec.ofChange ocodeDownWrong)

/-- 'bluebelllaw06.OcodeSums': WHATEVER THE INPUT: true; the input reads as it did. -/
def ocodeSumsSpec : ChangeSpec := { name := "ocodeSums", fn := fun _ => fun
  | [d] => { results := [.lit (.bool true)], args := [d] }
  | _ => none }
def ocodeSumsRow : OpenClaim := { program := "ythlakfgpmggceaadoor", sum := "04319791600896603a8323f85473e19818138db321d5f154615517f68f69d493", func := "bluebell/bluebelllaw06.OcodeSums", spec := "ocodeSums", named := ["bluebell/ocode.instructions"], apart := false, laid := [("bluebell/ocode.instructions", laid_bluebell_ocode_instructions)] }
def OcodeSumsSaid : Prop := ocodeSumsRow.holds Tryd.pinned (OpenSpec.ofChange ocodeSumsSpec)

/-- ITS FALSE NEIGHBOUR: 'it returns false'. Refute it at one input. -/
def ocodeSumsWrong : ChangeSpec := { name := "ocodeSums", fn := fun _ => fun
  | [d] => { results := [.lit (.bool false)], args := [d] }
  | _ => none }
def OcodeSumsWrongFalsely : Prop := ocodeSumsRow.holds Tryd.pinned (OpenSpec.ofChange ocodeSumsWrong)

/- THE SECOND FORM. 'bulk': how many values and letters a reading holds, each counted each time it is reached (what is shared counts as often as it is met; a slice's spare places count too). A statement '..UptoSaid' is the law's where the arguments, and the package variables that the reading takes, are together of bulk at most 1048576: NARROWER than '..Said'. Prove '..Said' where nothing that the law and all that it calls make is longer than what came in: it says more and counts as full. Else prove '..UptoSaid'. A law counts once. -/
mutual
def uptoBulk {H : Type} : DataW H → Nat
  | .lit (.string bytes) => bytes.length + 1
  | .lit _ => 1
  | .nil => 1
  | .ptr d => uptoBulk d + 1
  | .slice elems spare => uptoBulkAll elems + uptoBulkAll spare + 1
  | .agg parts => uptoBulkAll parts + 1
  | .iface _ d => uptoBulk d + 1
  | .map entries => uptoBulkEntries entries + 1
  | .held _ => 1
def uptoBulkAll {H : Type} : List (DataW H) → Nat
  | [] => 0
  | d :: r => uptoBulk d + uptoBulkAll r
def uptoBulkEntries {H : Type} : List (Lit × DataW H) → Nat
  | [] => 0
  | x :: r => uptoBulkEntry x + uptoBulkEntries r
def uptoBulkEntry {H : Type} : Lit × DataW H → Nat
  | (.string bytes, d) => bytes.length + uptoBulk d + 1
  | (_, d) => uptoBulk d + 1
 end
def uptoSmall : (H : Type) → List (DataW H) → Bool := fun _ ds => decide (uptoBulkAll ds ≤ 1048576)
def OpenSpec.upto (s : _root_.Go.ChangeSpec) : _root_.Go.OpenSpec := { _root_.Go.OpenSpec.ofChange s with cond := some uptoSmall }

/-- 'bluebelllaw06.OcodeChecks', WHERE WHAT IT READS IS OF BULK AT MOST 1048576: true; the input reads as it did. -/
def ocodeChecksUptoRow : OpenClaim := { program := "ythlakfgpmggceaadoor", sum := "04319791600896603a8323f85473e19818138db321d5f154615517f68f69d493", func := "bluebell/bluebelllaw06.OcodeChecks", spec := "ocodeChecks", unfollowed := true, recurses := true, named := ["bluebell/ocode.instructions"], apart := false, laid := [("bluebell/ocode.instructions", laid_bluebell_ocode_instructions)], narrowed := true }
def OcodeChecksUptoSaid : Prop := ocodeChecksUptoRow.holds Tryd.pinned (OpenSpec.upto ocodeChecksSpec)

/-- 'bluebelllaw06.OcodeTexts', WHERE WHAT IT READS IS OF BULK AT MOST 1048576: true; the input reads as it did. -/
def ocodeTextsUptoRow : OpenClaim := { program := "ythlakfgpmggceaadoor", sum := "04319791600896603a8323f85473e19818138db321d5f154615517f68f69d493", func := "bluebell/bluebelllaw06.OcodeTexts", spec := "ocodeTexts", inPlace := ["internal/abi.NoEscape", "internal/bytealg.MakeNoZero"], recurses := true, named := ["bluebell/ocode.instructions", "internal/strconv.uint64pow10", "math/bits.deBruijn32tab", "math/bits.deBruijn64tab", "bluebell/ocode.operators"], apart := false, laid := [("math/bits.deBruijn32tab", laid_math_bits_deBruijn32tab), ("math/bits.deBruijn64tab", laid_math_bits_deBruijn64tab), ("internal/strconv.uint64pow10", laid_internal_strconv_uint64pow10), ("bluebell/ocode.instructions", laid_bluebell_ocode_instructions), ("bluebell/ocode.operators", laid_bluebell_ocode_operators)], narrowed := true }
def OcodeTextsUptoSaid : Prop := ocodeTextsUptoRow.holds Tryd.pinned (OpenSpec.upto ocodeTextsSpec)

/-- 'bluebelllaw06.OcodeDepths', WHERE WHAT IT READS IS OF BULK AT MOST 1048576: true; the input reads as it did. -/
def ocodeDepthsUptoRow : OpenClaim := { program := "ythlakfgpmggceaadoor", sum := "04319791600896603a8323f85473e19818138db321d5f154615517f68f69d493", func := "bluebell/bluebelllaw06.OcodeDepths", spec := "ocodeDepths", named := ["bluebell/ocode.instructions"], apart := false, laid := [("bluebell/ocode.instructions", laid_bluebell_ocode_instructions)], narrowed := true }
def OcodeDepthsUptoSaid : Prop := ocodeDepthsUptoRow.holds Tryd.pinned (OpenSpec.upto ocodeDepthsSpec)

/-- 'bluebelllaw06.OcodeNumbers', WHERE WHAT IT READS IS OF BULK AT MOST 1048576: true; the input reads as it did. -/
def ocodeNumbersUptoRow : OpenClaim := { program := "ythlakfgpmggceaadoor", sum := "04319791600896603a8323f85473e19818138db321d5f154615517f68f69d493", func := "bluebell/bluebelllaw06.OcodeNumbers", spec := "ocodeNumbers", named := ["bluebell/ocode.instructions"], apart := false, laid := [("bluebell/ocode.instructions", laid_bluebell_ocode_instructions)], narrowed := true }
def OcodeNumbersUptoSaid : Prop := ocodeNumbersUptoRow.holds Tryd.pinned (OpenSpec.upto ocodeNumbersSpec)

/-- 'bluebelllaw06.OcodeLays', WHERE WHAT IT READS IS OF BULK AT MOST 1048576: true; the input reads as it did. -/
def ocodeLaysUptoRow : OpenClaim := { program := "ythlakfgpmggceaadoor", sum := "04319791600896603a8323f85473e19818138db321d5f154615517f68f69d493", func := "bluebell/bluebelllaw06.OcodeLays", spec := "ocodeLays", named := ["bluebell/ocode.instructions"], apart := false, laid := [("bluebell/ocode.instructions", laid_bluebell_ocode_instructions)], narrowed := true }
def OcodeLaysUptoSaid : Prop := ocodeLaysUptoRow.holds Tryd.pinned (OpenSpec.upto ocodeLaysSpec)

/-- 'bluebelllaw06.OcodeSame', WHERE WHAT IT READS IS OF BULK AT MOST 1048576: true; the input reads as it did. -/
def ocodeSameUptoRow : OpenClaim := { program := "ythlakfgpmggceaadoor", sum := "04319791600896603a8323f85473e19818138db321d5f154615517f68f69d493", func := "bluebell/bluebelllaw06.OcodeSame", spec := "ocodeSame", unfollowed := true, recurses := true, named := ["bluebell/ocode.instructions"], apart := false, laid := [("bluebell/ocode.instructions", laid_bluebell_ocode_instructions)], narrowed := true }
def OcodeSameUptoSaid : Prop := ocodeSameUptoRow.holds Tryd.pinned (OpenSpec.upto ocodeSameSpec)

/-- 'bluebelllaw06.OcodeAgain', WHERE WHAT IT READS IS OF BULK AT MOST 1048576: true; the input reads as it did. -/
def ocodeAgainUptoRow : OpenClaim := { program := "ythlakfgpmggceaadoor", sum := "04319791600896603a8323f85473e19818138db321d5f154615517f68f69d493", func := "bluebell/bluebelllaw06.OcodeAgain", spec := "ocodeAgain", unfollowed := true, recurses := true, named := ["bluebell/ocode.instructions"], apart := false, laid := [("bluebell/ocode.instructions", laid_bluebell_ocode_instructions)], narrowed := true }
def OcodeAgainUptoSaid : Prop := ocodeAgainUptoRow.holds Tryd.pinned (OpenSpec.upto ocodeAgainSpec)

/-- 'bluebelllaw06.OcodeApart', WHERE WHAT IT READS IS OF BULK AT MOST 1048576: true; the input reads as it did. -/
def ocodeApartUptoRow : OpenClaim := { program := "ythlakfgpmggceaadoor", sum := "04319791600896603a8323f85473e19818138db321d5f154615517f68f69d493", func := "bluebell/bluebelllaw06.OcodeApart", spec := "ocodeApart", named := ["bluebell/ocode.instructions"], apart := false, laid := [("bluebell/ocode.instructions", laid_bluebell_ocode_instructions)], narrowed := true }
def OcodeApartUptoSaid : Prop := ocodeApartUptoRow.holds Tryd.pinned (OpenSpec.upto ocodeApartSpec)

/-- 'bluebelllaw06.OcodeDown', WHERE WHAT IT READS IS OF BULK AT MOST 1048576: true; the input reads as it did. -/
def ocodeDownUptoRow : OpenClaim := { program := "ythlakfgpmggceaadoor", sum := "04319791600896603a8323f85473e19818138db321d5f154615517f68f69d493", func := "bluebell/bluebelllaw06.OcodeDown", spec := "ocodeDown", named := ["bluebell/ocode.instructions"], apart := false, laid := [("bluebell/ocode.instructions", laid_bluebell_ocode_instructions)], narrowed := true }
def OcodeDownUptoSaid : Prop := ocodeDownUptoRow.holds Tryd.pinned (OpenSpec.upto ocodeDownSpec)

/-- 'bluebelllaw06.OcodeSums', WHERE WHAT IT READS IS OF BULK AT MOST 1048576: true; the input reads as it did. -/
def ocodeSumsUptoRow : OpenClaim := { program := "ythlakfgpmggceaadoor", sum := "04319791600896603a8323f85473e19818138db321d5f154615517f68f69d493", func := "bluebell/bluebelllaw06.OcodeSums", spec := "ocodeSums", named := ["bluebell/ocode.instructions"], apart := false, laid := [("bluebell/ocode.instructions", laid_bluebell_ocode_instructions)], narrowed := true }
def OcodeSumsUptoSaid : Prop := ocodeSumsUptoRow.holds Tryd.pinned (OpenSpec.upto ocodeSumsSpec)

end Rows
end Go.Proofs.YthlakfgpmggceaaDoor
