/- Whether depths are as said, in the document's words. -/
import Derived.Test.YtfnkafnjpldaoaaDoorOcOr
import Derived.Lib.QuietBelow
namespace Go.Proofs.YtfnkafnjpldaoaaDoor
open Go.RowKit
set_option linter.unusedVariables false
set_option linter.unusedSimpArgs false
/-- the tables of labels in the block b as a parameter -/
def BoxT (w : World) (b : Nat) (ta : Option Addr) (tl tc : Nat) (qv : Value) : Prop := w.cell? ⟨b, 0, none⟩ = some (.slice ta tl tc) ∧ w.cell? ⟨b, 1, none⟩ = some qv
theorem BoxT.new (w : World) (ta : Option Addr) (tl tc : Nat) (qv : Value) (T : TypeId) : BoxT (w.alloc (.cells #[.slice ta tl tc, qv] T)) w.heap.size ta tl tc qv :=
  ⟨(World.cell?_alloc_at _ _ _ _ rfl).trans rfl, (World.cell?_alloc_at _ _ _ _ rfl).trans rfl⟩
theorem BoxT.keep {w w' : World} {b B : Nat} {ta : Option Addr} {tl tc : Nat} {qv : Value} (h : BoxT w b ta tl tc qv) (hb : Below B w w') (hB : b < B) : BoxT w' b ta tl tc qv :=
  ⟨(hb.cell (p := ⟨b, 0, none⟩) hB).trans h.1, (hb.cell (p := ⟨b, 1, none⟩) hB).trans h.2⟩
theorem BoxT.lt {w : World} {b : Nat} {ta : Option Addr} {tl tc : Nat} {qv : Value} (h : BoxT w b ta tl tc qv) : b < w.heap.size := World.block_lt_of_cell? w _ h.1
theorem numB_enter {nd procs labels n m : Int} (h : OC.numB nd procs labels ⟨24, n, m⟩ = true) : 0 ≤ m ∧ m ≤ 8 := by
  unfold OC.numB at h
  simp [OC.inB] at h
  omega
theorem numB_label {nd procs labels : Int} {o : OC.Op} (h : OC.numB nd procs labels o = true) : OC.label o ≤ labels ∨ OC.label o ≤ 0 := by
  obtain ⟨op, n, m⟩ := o
  unfold OC.label
  unfold OC.numB at h
  dsimp only at *
  by_cases h1 : op = 20 ∨ op = 21 ∨ op = 22 ∨ op = 27 ∨ op = 29
  · rw [if_pos h1]
    rcases h1 with rfl | rfl | rfl | rfl | rfl <;> simp [OC.inB] at h <;> omega
  · rw [if_neg h1]
    by_cases h2 : op = 30
    · subst h2; simp [OC.inB] at h; simp; omega
    · rw [if_neg h2]; exact .inr (Int.le_refl _)
theorem numB_result {nd procs labels n m : Int} (h : OC.numB nd procs labels ⟨27, n, m⟩ = true) : 1 ≤ n ∧ n ≤ labels := by
  unfold OC.numB at h
  simp [OC.inB] at h
  omega
theorem named_at {t q : List Int} : ∀ {ops : List OC.Op} {ps : List Int}, OC.namedB t q ops ps = true → ops.length = ps.length → ∀ o ∈ ops, 0 < OC.label o → 0 ≤ t.getD (OC.label o).toNat (-1)
  | [], _, _, _, o, ho, _ => by simp at ho
  | x :: r, [], _, hl, _, _, _ => by simp at hl
  | x :: r, p :: ps, h, hl, o, ho, h0 => by
    simp only [OC.namedB, Bool.and_eq_true, Bool.or_eq_true, decide_eq_true_iff] at h
    rcases List.mem_cons.1 ho with rfl | ho
    · rcases h.1 with h1 | h1
      · omega
      · exact h1.1
    · exact named_at h.2 (by simpa using hl) o ho h0
theorem needs_bd (o : OC.Op) : 0 ≤ OC.needs o ∧ OC.needs o ≤ 3 := by unfold OC.needs; split <;> (try split) <;> (try split) <;> omega
theorem Rd.get {k : IntKind} {w : World} {a : Option Addr} {n cap : Nat} {xs : List Int} (h : Rd k w (.slice a n cap) xs) {i : Nat} (hi : i < n) : n = xs.length ∧ ∃ b off, a = some ⟨b, off, none⟩ ∧ w.cell? ⟨b, off + i, none⟩ = some (.int k (xs.getD i 0)) := by
  obtain ⟨a', cap', hv, hl, h⟩ := h
  simp at hv
  obtain ⟨rfl, rfl, rfl⟩ := hv
  rcases h with rfl | ⟨b, off, rfl, hat⟩
  · simp at hi
  · exact ⟨rfl, b, off, rfl, hat i hi⟩
theorem getD_two {xs : List Int} {i : Nat} (a b : Int) (h : i < xs.length) : xs.getD i a = xs.getD i b := by rw [getD_at h, getD_at h]
theorem order_first {c : OC.Code} (h : OC.orderOk c = true) : 0 < c.ops.length → (c.ops.getD 0 OC.oz).op = 24 := by
  intro hl
  unfold OC.orderOk at h
  cases hc : c.ops with
  | nil => rw [hc] at hl; simp at hl
  | cons o r =>
    rw [hc, decide_eq_true_iff, OC.orderB] at h
    by_cases h24 : o.op = 24
    · simpa using h24
    · simp [h24] at h
end Go.Proofs.YtfnkafnjpldaoaaDoor
