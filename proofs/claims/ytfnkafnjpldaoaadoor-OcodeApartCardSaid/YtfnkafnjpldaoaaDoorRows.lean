/-
  NARROWER THAN 'FOR EVERY INPUT', by the rows' own cells (each row's printed sentence says how): OcodeApart: laid.
  DERIVED. THE GIVEN ROWS OF THIS SEAT. 1 by the template 'for every input the law returns true; each argument reads behind the call as it read before'; 0 by the template 'total and deterministic' (their statements: YtfnkafnjpldaoaaDoorTotals.lean).
  GIVEN WITH THE SEED: the statements are not yours to turn. If you find one false, say at which input.
  Laid BY PROGRAM, IN A SANDBOX (cutbox-rows.mjs): the forced cells as the released guide's own fill.sh prints them over the translation 421bc565f0e27da3… (all of the seat's roots in one cut). By AI agents, Wed Nov 11 2026. No macro, syntax, notation, axiom, sorry.
-/
import Derived.Test.YtfnkafnjpldaoaaDoorChecked
import GoSem.Claim
import GoSem.ClaimJoined
import GoSem.ClaimMapViews
import Derived.JoinedTies
import Derived.KernelRfl
namespace Go.Proofs.YtfnkafnjpldaoaaDoor
/- THE CELL 'sum', in the pinned program and in every row, IS THE sha256 OF THE DUMP (.gsa) THAT YtfnkafnjpldaoaaDoorProg.lean LOADS. Nothing in Lean hashes anything: it is a label: what it is worth is what the hold of that sum in a sandbox is worth. -/
noncomputable def Tryd.pinned : Pinned := { name := "ytfnkafnjpldaoaadoor", sum := "421bc565f0e27da390ae6869b4d63668d0b5da2eaa6481370a878f134d0ea91d", checked := Tryd.checked }
namespace Rows
def none {H : Type} : Left H := { results := [], args := [] }

/- WHAT THE LISTED PACKAGE-LEVEL VARIABLES READ AS WHEN THE CALL BEGINS. Each datum BY PROGRAM (the guide's laid-datum.mjs) off the statement by which the dump's own 'gosem.cut.vars' lays the variable. In a bare row this is a premise. The card (YtfnkafnjpldaoaaDoorCards.lean) ties it to the program's text. -/
def laid_bluebell_ocode_instructions {H : Type} : DataW H := .agg [.agg [.lit (.string []), .lit (.int .i64 0), .lit (.int .i64 0)], .agg [.lit (.string [110, 117, 109]), .lit (.int .i64 1), .lit (.int .i64 0)], .agg [.lit (.string [108, 111, 99, 97, 108]), .lit (.int .i64 2), .lit (.int .i64 0)], .agg [.lit (.string [112, 117, 116, 108]), .lit (.int .i64 2), .lit (.int .i64 0)], .agg [.lit (.string [97, 100, 100, 114, 108]), .lit (.int .i64 2), .lit (.int .i64 0)], .agg [.lit (.string [103, 108, 111, 98, 97, 108]), .lit (.int .i64 3), .lit (.int .i64 0)], .agg [.lit (.string [112, 117, 116, 103]), .lit (.int .i64 3), .lit (.int .i64 0)], .agg [.lit (.string [97, 100, 100, 114, 103]), .lit (.int .i64 3), .lit (.int .i64 0)], .agg [.lit (.string [115, 116, 97, 116, 105, 99]), .lit (.int .i64 4), .lit (.int .i64 0)], .agg [.lit (.string [112, 117, 116, 115]), .lit (.int .i64 4), .lit (.int .i64 0)], .agg [.lit (.string [97, 100, 100, 114, 115]), .lit (.int .i64 4), .lit (.int .i64 0)], .agg [.lit (.string [112, 114, 111, 99]), .lit (.int .i64 5), .lit (.int .i64 0)], .agg [.lit (.string [108, 111, 97, 100]), .lit (.int .i64 0), .lit (.int .i64 0)], .agg [.lit (.string [115, 116, 111, 114, 101]), .lit (.int .i64 0), .lit (.int .i64 0)], .agg [.lit (.string [103, 101, 116, 98]), .lit (.int .i64 0), .lit (.int .i64 0)], .agg [.lit (.string [112, 117, 116, 98]), .lit (.int .i64 0), .lit (.int .i64 0)], .agg [.lit (.string [98, 105, 110]), .lit (.int .i64 7), .lit (.int .i64 0)], .agg [.lit (.string [117, 110]), .lit (.int .i64 8), .lit (.int .i64 0)], .agg [.lit (.string [115, 116, 97, 99, 107]), .lit (.int .i64 2), .lit (.int .i64 0)], .agg [.lit (.string [108, 97, 98, 101, 108]), .lit (.int .i64 6), .lit (.int .i64 0)], .agg [.lit (.string [106, 117, 109, 112]), .lit (.int .i64 6), .lit (.int .i64 0)], .agg [.lit (.string [116, 114, 117, 101]), .lit (.int .i64 6), .lit (.int .i64 0)], .agg [.lit (.string [102, 97, 108, 115, 101]), .lit (.int .i64 6), .lit (.int .i64 0)], .agg [.lit (.string [99, 97, 108, 108]), .lit (.int .i64 2), .lit (.int .i64 0)], .agg [.lit (.string [101, 110, 116, 101, 114]), .lit (.int .i64 5), .lit (.int .i64 9)], .agg [.lit (.string [114, 101, 116, 117, 114, 110]), .lit (.int .i64 0), .lit (.int .i64 0)], .agg [.lit (.string [98, 97, 99, 107]), .lit (.int .i64 0), .lit (.int .i64 0)], .agg [.lit (.string [114, 101, 115, 117, 108, 116]), .lit (.int .i64 6), .lit (.int .i64 0)], .agg [.lit (.string [116, 97, 107, 101]), .lit (.int .i64 2), .lit (.int .i64 0)], .agg [.lit (.string [115, 119, 105, 116, 99, 104]), .lit (.int .i64 6), .lit (.int .i64 10)], .agg [.lit (.string [99, 97, 115, 101]), .lit (.int .i64 1), .lit (.int .i64 6)]]

/-- 'bluebelllaw06.OcodeApart': WHATEVER THE INPUT: true; the input reads as it did. -/
def ocodeApartSpec : ChangeSpec := { name := "ocodeApart", fn := fun _ => fun
  | [d1, d2] => { results := [.lit (.bool true)], args := [d1, d2] }
  | _ => none }
def ocodeApartRow : OpenClaim := { program := "ytfnkafnjpldaoaadoor", sum := "421bc565f0e27da390ae6869b4d63668d0b5da2eaa6481370a878f134d0ea91d", func := "bluebell/bluebelllaw06.OcodeApart", spec := "ocodeApart", named := ["bluebell/ocode.instructions"], apart := false, laid := [("bluebell/ocode.instructions", laid_bluebell_ocode_instructions)] }
def OcodeApartSaid : Prop := ocodeApartRow.holds Tryd.pinned (OpenSpec.ofChange ocodeApartSpec)

/-- ITS FALSE NEIGHBOUR: 'it returns false'. Refute it at one input. -/
def ocodeApartWrong : ChangeSpec := { name := "ocodeApart", fn := fun _ => fun
  | [d1, d2] => { results := [.lit (.bool false)], args := [d1, d2] }
  | _ => none }
def OcodeApartWrongFalsely : Prop := ocodeApartRow.holds Tryd.pinned (OpenSpec.ofChange ocodeApartWrong)

/- THE SECOND FORM. 'bulk': how many values and letters a reading holds, each counted each time it is reached (what is shared counts as often as it is met; a slice's spare places count too). A statement '..UptoSaid' is the law's where the arguments, and the package variables that the reading takes, are together of bulk at most 1048576: NARROWER than '..Said'. Prove '..Said' where nothing that the law and all that it calls make is longer than what came in: it says more and counts as full. Else prove '..UptoSaid'. A law counts once. -/
mutual
def uptoBulk {H : Type} : DataW H → Nat
  | .lit (.string bytes) => bytes.length + 1
  | .lit _ => 1
  | .nil => 1
  | .ptr d => uptoBulk d + 1
  | .slice elems spare => uptoBulkAll elems + uptoBulkAll spare + 1
  | .agg parts => uptoBulkAll parts + 1
  | .iface _ d => uptoBulk d + 1
  | .map entries => uptoBulkEntries entries + 1
  | .held _ => 1
def uptoBulkAll {H : Type} : List (DataW H) → Nat
  | [] => 0
  | d :: r => uptoBulk d + uptoBulkAll r
def uptoBulkEntries {H : Type} : List (Lit × DataW H) → Nat
  | [] => 0
  | x :: r => uptoBulkEntry x + uptoBulkEntries r
def uptoBulkEntry {H : Type} : Lit × DataW H → Nat
  | (.string bytes, d) => bytes.length + uptoBulk d + 1
  | (_, d) => uptoBulk d + 1
 end
def uptoSmall : (H : Type) → List (DataW H) → Bool := fun _ ds => decide (uptoBulkAll ds ≤ 1048576)
def OpenSpec.upto (s : _root_.Go.ChangeSpec) : _root_.Go.OpenSpec := { _root_.Go.OpenSpec.ofChange s with cond := some uptoSmall }

/-- 'bluebelllaw06.OcodeApart', WHERE WHAT IT READS IS OF BULK AT MOST 1048576: true; the input reads as it did. -/
def ocodeApartUptoRow : OpenClaim := { program := "ytfnkafnjpldaoaadoor", sum := "421bc565f0e27da390ae6869b4d63668d0b5da2eaa6481370a878f134d0ea91d", func := "bluebell/bluebelllaw06.OcodeApart", spec := "ocodeApart", named := ["bluebell/ocode.instructions"], apart := false, laid := [("bluebell/ocode.instructions", laid_bluebell_ocode_instructions)], narrowed := true }
def OcodeApartUptoSaid : Prop := ocodeApartUptoRow.holds Tryd.pinned (OpenSpec.upto ocodeApartSpec)

end Rows
end Go.Proofs.YtfnkafnjpldaoaaDoor
