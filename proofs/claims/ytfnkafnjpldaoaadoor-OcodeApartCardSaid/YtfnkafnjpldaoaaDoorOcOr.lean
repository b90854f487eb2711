/- Whether procedures, switches, cases and labels stand as said, in the document's words. -/
import Derived.Test.YtfnkafnjpldaoaaDoorOcTm
namespace Go.Proofs.YtfnkafnjpldaoaaDoor
open Go.RowKit
set_option linter.unusedVariables false
set_option linter.unusedSimpArgs false
theorem inB_iff {v a b : Int} : OC.inB v a b = true ↔ a ≤ v ∧ v ≤ b := by simp [OC.inB]
theorem numB_bd {nd procs labels : Int} {o : OC.Op} (h : OC.numB nd procs labels o = true) : 1 ≤ o.op ∧ o.op ≤ 30 ∧ -2147483648 ≤ o.n ∧ o.n ≤ 2147483647 ∧ -2147483648 ≤ o.m ∧ o.m ≤ 2147483647 := by
  unfold OC.numB at h
  simp only [Bool.and_eq_true] at h
  obtain ⟨⟨⟨⟨h1, h2⟩, h3⟩, _⟩, _⟩ := h
  have a := inB_iff.1 h1
  have b := inB_iff.1 h2
  have c := inB_iff.1 h3
  exact ⟨a.1, a.2, b.1, b.2, c.1, c.2⟩
/-- the numbers of all instructions are as said -/
def NumOk (c : OC.Code) : Prop := ∀ o ∈ c.ops, OC.numB (c.data.length : Int) c.procs c.labels o = true
theorem orderOk_none {c : OC.Code} {f : Bool} {p l q : Int} {r : List OC.Op} (h : OC.orderB true 0 0 0 c.ops = OC.orderB f p l q r) (h2 : OC.orderB f p l q r = none) : OC.orderOk c = false := by
  unfold OC.orderOk; rw [h, h2]; simp
theorem nx_drop {l : List OC.Op} {k : Nat} (h : k < l.length) : OC.nx (l.drop k) = (l.getD k OC.oz).op := by
  rw [dropAt (d := OC.oz) h]; rfl
theorem nx_end {l : List OC.Op} {k : Nat} (h : l.length ≤ k) : OC.nx (l.drop k) = 24 := by
  rw [List.drop_eq_nil_of_le h]; rfl
end Go.Proofs.YtfnkafnjpldaoaaDoor
