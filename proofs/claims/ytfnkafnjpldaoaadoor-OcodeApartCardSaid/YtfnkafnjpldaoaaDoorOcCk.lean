/- Which code is valid, or what is wrong with it, in the document's words. -/
import Derived.Test.YtfnkafnjpldaoaaDoorOcAr
import Derived.StillTailTactics
namespace Go.Proofs.YtfnkafnjpldaoaaDoor
open Go.RowKit
set_option linter.unusedVariables false
set_option linter.unusedSimpArgs false
/-- what is wrong with code: 0, nothing -/
def checkE (c : OC.Code) : Nat :=
  if OC.tooMuch c = true then 2
  else if c.procs < 0 ∨ c.labels < 0 ∨ areasB c = false then 60
  else if c.ops.all (OC.numB (c.data.length : Int) c.procs c.labels) = false then 60
  else if OC.orderOk c = false then 60
  else match OC.plc c.ops 0 (OC.t0 c) with
    | none => 60
    | some t => if OC.namedB t (OC.prc 0 c.ops) c.ops (OC.prc 0 c.ops) = false then 60 else if OC.deepB c.ops t 0 false OC.oz c.ops = false then 61 else 0
theorem plc_len : ∀ (l : List OC.Op) (i : Nat) (T t : List Int), OC.plc l i T = some t → t.length = T.length
  | [], _, T, t, h => by simp only [OC.plc, Option.some.injEq] at h; rw [h]
  | o :: r, i, T, t, h => by
    rw [OC.plc] at h
    split at h
    · split at h
      · cases h
      · have := plc_len r _ _ _ h; rwa [List.length_set] at this
    · exact plc_len r _ _ _ h
theorem prc_len : ∀ (l : List OC.Op) (p : Int), (OC.prc p l).length = l.length
  | [], _ => rfl
  | o :: r, p => by rw [OC.prc, List.length_cons, prc_len r, List.length_cons]
end Go.Proofs.YtfnkafnjpldaoaaDoor
