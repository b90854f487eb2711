/- Comparing code. -/
import Derived.Test.YtfnkafnjpldaoaaDoorOcEq
import Derived.Deep.RegionHeld3
namespace Go.Proofs.YtfnkafnjpldaoaaDoor
open Go.RowKit
set_option linter.unusedVariables false
theorem eqTake {P : Program} {ops : Array Oper} {Q : Exit → Act → World → Prop} {md : Region.Mode} {S : World → Prop} {i : Nat} {d : Tmp} {oi : Oper} {v : Value} {fuel : Nat} {listed : Array Bool} {a : Act} {w : World} (hi : ops[i]? = some oi) (hd : oi.dst = some d)
    (hs : Region.noSelect ops = true) (hf : Region.free md ops listed i = true) (hr : (Region.ready md ops listed).contains i = true)
    (hQ : ∀ c a w, Q (.panic c) (a.put (some d) v) w → Q (.panic c) a w) (hy : YieldsIf P ops S oi v a) (hS : S w)
    (h : wpAnyH P md ops Q S fuel (listed.setIfInBounds i true) (a.put (some d) v) w) : wpAnyH P md ops Q S (fuel + 1) listed a w :=
  wpAnyH_take hi hs hf hr (by rw [hd]; exact hQ) hy hS (by rw [hd]; exact h)
/-- a Bool that says whether p -/
def SaysB (e : Ending) (p : Prop) : Prop := ∃ t, e = .returned (.bool t) ∧ (t = true ↔ p)
theorem strNe {a b : List UInt8} {s t : ByteArray} (hs : (⟨a.toArray⟩ : ByteArray) = s) (ht : (⟨b.toArray⟩ : ByteArray) = t) (h : ¬ a = b) : (s.toList == t.toList) = false := by
  subst hs; subst ht
  rw [← beq_toListBytes]
  show ((a.toArray : Array UInt8) == b.toArray) = false
  simpa using h
theorem bytes_eq {a b : List UInt8} : ((⟨a.toArray⟩ : ByteArray) = ⟨b.toArray⟩) ↔ a = b := by simp
/-- two codes as parameters, one behind the other -/
def Two (w wr : World) (x : OC.Code) (da oa ga : Option Addr) (dl dc ol oc gl gc : Nat) (y : OC.Code) (da' oa' ga' : Option Addr) (dl' dc' ol' oc' gl' gc' : Nat) : Prop :=
  BoxC wr w.heap.size x da oa ga dl dc ol oc gl gc ∧ BoxC wr (w.heap.size + 1) y da' oa' ga' dl' dc' ol' oc' gl' gc' ∧ Below w.heap.size w wr
theorem Two.new (w : World) (x : OC.Code) (da oa ga : Option Addr) (dl dc ol oc gl gc : Nat) (y : OC.Code) (da' oa' ga' : Option Addr) (dl' dc' ol' oc' gl' gc' : Nat) (T : TypeId) :
    Two w ((w.alloc (.cells #[.string ⟨x.name.toArray⟩, .slice da dl dc, .slice oa ol oc, .slice ga gl gc, .int .i64 x.procs, .int .i64 x.labels] T)).alloc (.cells #[.string ⟨y.name.toArray⟩, .slice da' dl' dc', .slice oa' ol' oc', .slice ga' gl' gc', .int .i64 y.procs, .int .i64 y.labels] T)) x da oa ga dl dc ol oc gl gc y da' oa' ga' dl' dc' ol' oc' gl' gc' := by
  refine ⟨(BoxC.new w x da oa ga dl dc ol oc gl gc T).keep (below_alloc _ _) (by simp), ?_, (below_alloc _ _).alloc (by simp) _⟩
  have := BoxC.new (w.alloc (.cells #[.string ⟨x.name.toArray⟩, .slice da dl dc, .slice oa ol oc, .slice ga gl gc, .int .i64 x.procs, .int .i64 x.labels] T)) y da' oa' ga' dl' dc' ol' oc' gl' gc' T
  rwa [show (w.alloc (.cells #[.string ⟨x.name.toArray⟩, .slice da dl dc, .slice oa ol oc, .slice ga gl gc, .int .i64 x.procs, .int .i64 x.labels] T)).heap.size = w.heap.size + 1 from by simp] at this
theorem Two.keep {w wr wr' : World} {x : OC.Code} {da oa ga : Option Addr} {dl dc ol oc gl gc : Nat} {y : OC.Code} {da' oa' ga' : Option Addr} {dl' dc' ol' oc' gl' gc' : Nat} (h : Two w wr x da oa ga dl dc ol oc gl gc y da' oa' ga' dl' dc' ol' oc' gl' gc') (hb : Below wr.heap.size wr wr') : Two w wr' x da oa ga dl dc ol oc gl gc y da' oa' ga' dl' dc' ol' oc' gl' gc' :=
  ⟨h.1.keep hb h.1.lt, h.2.1.keep hb h.2.1.lt, below_then h.2.2 hb⟩
end Go.Proofs.YtfnkafnjpldaoaaDoor
