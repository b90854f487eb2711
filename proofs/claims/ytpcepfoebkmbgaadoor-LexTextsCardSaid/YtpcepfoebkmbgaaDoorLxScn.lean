/- The program's scanner in memory; what a call that writes to it alone leaves. -/
import Derived.Test.YtpcepfoebkmbgaaDoorLxKeys
import Derived.Test.YtpcepfoebkmbgaaDoorLxTok
import Derived.Deep.Draws
import Derived.Deep.OwnRows
namespace Go.Proofs.YtpcepfoebkmbgaaDoor
open Go.RowKit
set_option linter.unusedVariables false
/-- block b is a scanner: source s, the token's place p, the next place q, the keys, the signs -/
def Scn (w : World) (b : Nat) (s : ByteArray) (p q : Nat) (km sg : Value) : Prop :=
  w.cell? ⟨b, 0, none⟩ = some (.string s) ∧ w.cell? ⟨b, 1, none⟩ = some (.int .i64 (p : Int)) ∧ w.cell? ⟨b, 2, none⟩ = some (.int .i64 (q : Int)) ∧ w.cell? ⟨b, 3, none⟩ = some km ∧ w.cell? ⟨b, 4, none⟩ = some sg ∧ ∀ o, w.frozen? ⟨b, o, none⟩ = false
theorem Scn.lt {w : World} {b : Nat} {s : ByteArray} {p q : Nat} {km sg : Value} (h : Scn w b s p q km sg) : b < w.heap.size := World.block_lt_of_cell? w ⟨b, 0, none⟩ h.1
theorem Scn.kept {w w' : World} {b : Nat} {s : ByteArray} {p q : Nat} {km sg : Value} (h : Scn w b s p q km sg) (hb : Below w.heap.size w w') : Scn w' b s p q km sg := by
  have hl := h.lt
  obtain ⟨h0, h1, h2, h3, h4, h5⟩ := h
  exact ⟨(hb.cell (p := ⟨b, 0, none⟩) hl).trans h0, (hb.cell (p := ⟨b, 1, none⟩) hl).trans h1, (hb.cell (p := ⟨b, 2, none⟩) hl).trans h2, (hb.cell (p := ⟨b, 3, none⟩) hl).trans h3, (hb.cell (p := ⟨b, 4, none⟩) hl).trans h4, fun o => (hb.frozen (p := ⟨b, o, none⟩) hl).trans (h5 o)⟩
theorem Scn.drewN {w : World} {b : Nat} {s : ByteArray} {p q : Nat} {km sg : Value} (h : Scn w b s p q km sg) (n : Nat) : Scn (w.drewN n) b s p q km sg := h
theorem Scn.drew {w : World} {b : Nat} {s : ByteArray} {p q : Nat} {km sg : Value} (h : Scn w b s p q km sg) : Scn w.drew b s p q km sg := h
/-- the next place written -/
theorem Scn.setNext {w : World} {b : Nat} {s : ByteArray} {p q : Nat} {km sg : Value} (h : Scn w b s p q km sg) (q' : Int) (n : Nat) (hq : q' = (n : Int)) : Scn (w.setCell ⟨b, 2, none⟩ (.int .i64 q')) b s p n km sg := by
  subst hq
  obtain ⟨h0, h1, h2, h3, h4, h5⟩ := h
  refine ⟨?_, ?_, ?_, ?_, ?_, ?_⟩
  · exact (World.cell?_setCell_other _ _ _ _ (by simp)).trans h0
  · exact (World.cell?_setCell_other _ _ _ _ (by simp)).trans h1
  · exact World.cell?_setCell_same _ _ _ h2
  · exact (World.cell?_setCell_other _ _ _ _ (by simp)).trans h3
  · exact (World.cell?_setCell_other _ _ _ _ (by simp)).trans h4
  · intro o; simp [h5]
theorem Scn.setAt {w : World} {b : Nat} {s : ByteArray} {p q : Nat} {km sg : Value} (h : Scn w b s p q km sg) (p' : Int) (n : Nat) (hq : p' = (n : Int)) : Scn (w.setCell ⟨b, 1, none⟩ (.int .i64 p')) b s n q km sg := by
  subst hq
  obtain ⟨h0, h1, h2, h3, h4, h5⟩ := h
  refine ⟨?_, ?_, ?_, ?_, ?_, ?_⟩
  · exact (World.cell?_setCell_other _ _ _ _ (by simp)).trans h0
  · exact World.cell?_setCell_same _ _ _ h1
  · exact (World.cell?_setCell_other _ _ _ _ (by simp)).trans h2
  · exact (World.cell?_setCell_other _ _ _ _ (by simp)).trans h3
  · exact (World.cell?_setCell_other _ _ _ _ (by simp)).trans h4
  · intro o; simp [h5]
/-- nothing that was there has turned but block b -/
theorem only_refl (w : World) (b : Nat) : w.grownBy w (some b) := World.grownBy.refl w _
theorem only_drewN {a w : World} {row : Option Nat} (h : a.grownBy w row) (n : Nat) : a.grownBy (w.drewN n) row := ⟨h.os, h.tape, h.output, h.size, h.block⟩
theorem only_drew {a w : World} {row : Option Nat} (h : a.grownBy w row) : a.grownBy w.drew row := ⟨h.os, h.tape, h.output, h.size, h.block⟩
theorem only_alloc {a w : World} {row : Option Nat} (h : a.grownBy w row) (o : Obj) : a.grownBy (w.alloc o) row :=
  ⟨h.os, h.tape, h.output, Nat.le_trans h.size (by simp), fun i hi hne => (Below.heap_alloc w o i (Nat.lt_of_lt_of_le hi h.size)).trans (h.block i hi hne)⟩
theorem only_setCell {a w : World} {g : Nat} (h : a.grownBy w (some g)) {p : Addr} (hp : p.block = g ∨ a.heap.size ≤ p.block) (u : Value) : a.grownBy (w.setCell p u) (some g) :=
  ⟨h.os, h.tape, h.output, by simpa [World.setCell] using h.size, fun i hi hne => (Below.heap_setCell w p u i (by
    rintro rfl
    rcases hp with hp | hp
    · exact hne (by rw [hp])
    · omega)).trans (h.block i hi hne)⟩
theorem only_of_below {a w : World} (h : Below a.heap.size a w) (row : Option Nat) : a.grownBy w row := ⟨h.os, h.tape, h.output, h.size, fun i hi _ => h.block i hi⟩
theorem only_trans {a b c : World} {g : Nat} (h : a.grownBy b (some g)) (k : b.grownBy c (some g)) : a.grownBy c (some g) :=
  ⟨k.os.trans h.os, k.tape.trans h.tape, k.output.trans h.output, Nat.le_trans h.size k.size, fun i hi hne => (k.block i (Nat.lt_of_lt_of_le hi h.size) hne).trans (h.block i hi hne)⟩
end Go.Proofs.YtpcepfoebkmbgaaDoor
