/- A slice of strings that reads as a list in a world; the lists of keys and signs. -/
import Derived.Test.YtfnkafnjpldaoaaDoorRd
import Derived.Test.YtfnkafnjpldaoaaDoorLxMath
import Derived.WalkKit
import Derived.Lib.Hide
import Derived.Deep.QuietTactic
import Derived.BigQuiet
namespace Go.Proofs.YtfnkafnjpldaoaaDoor
open Go.RowKit
set_option linter.unusedVariables false

/-- v is a slice of strings that reads as xs -/
def RdS (w : World) (v : Value) (xs : List LX.Bs) : Prop :=
  ∃ a cap, v = .slice a xs.length cap ∧ xs.length ≤ 140737488355328 ∧ (xs = [] ∨ ∃ b off, a = some ⟨b, off, none⟩ ∧ ∀ i, i < xs.length → w.cell? ⟨b, off + i, none⟩ = some (.string ⟨(xs.getD i []).toArray⟩))
theorem RdS.keep {w w' : World} {v : Value} {xs : List LX.Bs} (h : RdS w v xs) (hb : Below w.heap.size w w') : RdS w' v xs := by
  obtain ⟨a, cap, hv, hl, h⟩ := h
  refine ⟨a, cap, hv, hl, ?_⟩
  rcases h with h | ⟨b, off, ha, hc⟩
  · exact .inl h
  · refine .inr ⟨b, off, ha, fun i hi => ?_⟩
    have := World.block_lt_of_cell? w _ (hc i hi)
    rw [hb.cell (p := ⟨b, off + i, none⟩) this]; exact hc i hi
theorem RdS.of_block (w : World) (xs : List LX.Bs) (t : TypeId) (h : xs.length ≤ 140737488355328) (n : Nat) (hn : n = xs.length) :
    RdS (w.alloc (.cells (xs.map fun x => Value.string ⟨x.toArray⟩).toArray t)) (.slice (some ⟨w.heap.size, 0, none⟩) n n) xs := by
  subst hn
  refine ⟨_, _, rfl, h, .inr ⟨_, _, rfl, fun i hi => ?_⟩⟩
  rw [Nat.zero_add, World.cell?_alloc_at _ _ _ _ rfl]
  simp [hi]
theorem str_eta (s : ByteArray) : s = ⟨s.data.toList.toArray⟩ := by cases s; rfl
theorem mem_succ {xs : List LX.Bs} {l : LX.Bs} {k : Nat} (hk : k < xs.length) (h : l ∉ xs.take k) (hn : xs.getD k [] ≠ l) : l ∉ xs.take (k + 1) := by
  rw [List.take_succ_eq_append_getElem hk, List.mem_append]
  rintro (h1 | h1)
  · exact h h1
  · simp only [List.mem_singleton] at h1
    apply hn
    rw [h1]; simp [hk]
end Go.Proofs.YtfnkafnjpldaoaaDoor
