/- Slices of rows that read as lists; code in memory. -/
import Derived.Test.YtfnkafnjpldaoaaDoorOcM
import Derived.Test.YtfnkafnjpldaoaaDoorLxAt
namespace Go.Proofs.YtfnkafnjpldaoaaDoor
open Go.RowKit
set_option linter.unusedVariables false
/-- a slice of rows of sz cells each, which read as xs -/
def RdP {α : Type} (sz : Nat) (P : World → Nat → Nat → α → Prop) (d : α) (w : World) (v : Value) (xs : List α) : Prop :=
  ∃ a cap, v = .slice a xs.length cap ∧ xs.length ≤ cap ∧ (xs.length ≤ 140737488355328 ∧ (a = none → cap = 0)) ∧ (xs = [] ∨ ∃ b off, a = some ⟨b, off, none⟩ ∧ ∀ i, i < xs.length → P w b (off + i * sz) (xs.getD i d))
def OpAt (w : World) (b o : Nat) (x : OC.Op) : Prop :=
  w.cell? ⟨b, o, none⟩ = some (.int .i64 x.op) ∧ w.cell? ⟨b, o + 1, none⟩ = some (.int .i64 x.n) ∧ w.cell? ⟨b, o + 2, none⟩ = some (.int .i64 x.m)
def EntAt (w : World) (b o : Nat) (x : OC.Ent) : Prop :=
  w.cell? ⟨b, o, none⟩ = some (.int .i64 x.g) ∧ w.cell? ⟨b, o + 1, none⟩ = some (.int .i64 x.p)
def DatAt (w : World) (b o : Nat) (x : OC.Dat) : Prop :=
  w.cell? ⟨b, o, none⟩ = some (.string ⟨x.text.toArray⟩) ∧ w.cell? ⟨b, o + 1, none⟩ = some (.bool x.isText) ∧ ∃ v, w.cell? ⟨b, o + 2, none⟩ = some v ∧ Rd .i64 w v x.words
theorem OpAt.keep {w w' : World} {b o : Nat} {x : OC.Op} (h : OpAt w b o x) (hb : Below w.heap.size w w') : OpAt w' b o x :=
  ⟨(hb.cell (p := ⟨b, o, none⟩) (World.block_lt_of_cell? _ _ h.1)).trans h.1, (hb.cell (p := ⟨b, o + 1, none⟩) (World.block_lt_of_cell? _ _ h.2.1)).trans h.2.1, (hb.cell (p := ⟨b, o + 2, none⟩) (World.block_lt_of_cell? _ _ h.2.2)).trans h.2.2⟩
theorem EntAt.keep {w w' : World} {b o : Nat} {x : OC.Ent} (h : EntAt w b o x) (hb : Below w.heap.size w w') : EntAt w' b o x :=
  ⟨(hb.cell (p := ⟨b, o, none⟩) (World.block_lt_of_cell? _ _ h.1)).trans h.1, (hb.cell (p := ⟨b, o + 1, none⟩) (World.block_lt_of_cell? _ _ h.2)).trans h.2⟩
theorem DatAt.keep {w w' : World} {b o : Nat} {x : OC.Dat} (h : DatAt w b o x) (hb : Below w.heap.size w w') : DatAt w' b o x := by
  obtain ⟨h1, h2, v, h3, h4⟩ := h
  exact ⟨(hb.cell (p := ⟨b, o, none⟩) (World.block_lt_of_cell? _ _ h1)).trans h1, (hb.cell (p := ⟨b, o + 1, none⟩) (World.block_lt_of_cell? _ _ h2)).trans h2, v, (hb.cell (p := ⟨b, o + 2, none⟩) (World.block_lt_of_cell? _ _ h3)).trans h3, h4.keep hb⟩
theorem RdP.keep {α : Type} {sz : Nat} {P : World → Nat → Nat → α → Prop} {d : α} {w w' : World} {v : Value} {xs : List α} (hP : ∀ b o x, P w b o x → P w' b o x) (h : RdP sz P d w v xs) : RdP sz P d w' v xs := by
  obtain ⟨a, cap, hv, hl, hc, h⟩ := h
  refine ⟨a, cap, hv, hl, hc, ?_⟩
  rcases h with h | ⟨b, off, ha, hat⟩
  · exact .inl h
  · exact .inr ⟨b, off, ha, fun i hi => hP _ _ _ (hat i hi)⟩
abbrev RdO (w : World) (v : Value) (xs : List OC.Op) : Prop := RdP 3 OpAt OC.oz w v xs
abbrev RdE (w : World) (v : Value) (xs : List OC.Ent) : Prop := RdP 2 EntAt OC.ez w v xs
abbrev RdD (w : World) (v : Value) (xs : List OC.Dat) : Prop := RdP 3 DatAt OC.dz w v xs
theorem RdP.get {α : Type} {sz : Nat} {P : World → Nat → Nat → α → Prop} {d : α} {w : World} {a : Option Addr} {n cap : Nat} {xs : List α} (h : RdP sz P d w (.slice a n cap) xs) {i : Nat} (hi : i < n) : n = xs.length ∧ ∃ b off, a = some ⟨b, off, none⟩ ∧ P w b (off + i * sz) (xs.getD i d) := by
  obtain ⟨a', cap', hv, hl, hc, h⟩ := h
  simp at hv
  obtain ⟨rfl, rfl, rfl⟩ := hv
  rcases h with rfl | ⟨b, off, rfl, hat⟩
  · simp at hi
  · exact ⟨rfl, b, off, rfl, hat i hi⟩
theorem RdP.len {α : Type} {sz : Nat} {P : World → Nat → Nat → α → Prop} {d : α} {w : World} {a : Option Addr} {n cap : Nat} {xs : List α} (h : RdP sz P d w (.slice a n cap) xs) : n = xs.length ∧ n ≤ cap ∧ n ≤ 140737488355328 := by
  obtain ⟨a', cap', hv, hl, hc, h⟩ := h
  simp at hv
  obtain ⟨rfl, rfl, rfl⟩ := hv
  exact ⟨rfl, hl, hc.1⟩
theorem RdP.nil {α : Type} {sz : Nat} {P : World → Nat → Nat → α → Prop} {d : α} (w : World) : RdP sz P d w (.slice none 0 0) [] := ⟨none, 0, rfl, by simp, ⟨by simp, fun _ => rfl⟩, .inl rfl⟩
theorem getD_at {α : Type} {xs : List α} {i : Nat} {d : α} (h : i < xs.length) : xs.getD i d = xs[i] := by simp [h]
/-- code that lies in memory -/
structure CodeIn (w : World) (c : OC.Code) (da oa ga : Option Addr) (dl dc ol oc gl gc : Nat) : Prop where
  data : RdD w (.slice da dl dc) c.data
  ops : RdO w (.slice oa ol oc) c.ops
  globals : RdE w (.slice ga gl gc) c.globals
  name : c.name.length ≤ 140737488351232
theorem CodeIn.keep {w w' : World} {c : OC.Code} {da oa ga : Option Addr} {dl dc ol oc gl gc : Nat} (h : CodeIn w c da oa ga dl dc ol oc gl gc) (hb : Below w.heap.size w w') : CodeIn w' c da oa ga dl dc ol oc gl gc :=
  ⟨h.data.keep fun _ _ _ h => h.keep hb, h.ops.keep fun _ _ _ h => h.keep hb, h.globals.keep fun _ _ _ h => h.keep hb, h.name⟩
/-- code as a value -/
abbrev codeV (c : OC.Code) (da oa ga : Option Addr) (dl dc ol oc gl gc : Nat) : Value :=
  .agg #[.string ⟨c.name.toArray⟩, .slice da dl dc, .slice oa ol oc, .slice ga gl gc, .int .i64 c.procs, .int .i64 c.labels]
abbrev opVal (o : OC.Op) : Value := .agg #[.int .i64 o.op, .int .i64 o.n, .int .i64 o.m]
/-- code that lies in the block b as a parameter -/
def BoxC (w : World) (b : Nat) (c : OC.Code) (da oa ga : Option Addr) (dl dc ol oc gl gc : Nat) : Prop :=
  w.cell? ⟨b, 0, none⟩ = some (.string ⟨c.name.toArray⟩) ∧ w.cell? ⟨b, 1, none⟩ = some (.slice da dl dc) ∧ w.cell? ⟨b, 2, none⟩ = some (.slice oa ol oc) ∧ w.cell? ⟨b, 3, none⟩ = some (.slice ga gl gc) ∧
  w.cell? ⟨b, 4, none⟩ = some (.int .i64 c.procs) ∧ w.cell? ⟨b, 5, none⟩ = some (.int .i64 c.labels)
theorem BoxC.new (w : World) (c : OC.Code) (da oa ga : Option Addr) (dl dc ol oc gl gc : Nat) (T : TypeId) :
    BoxC (w.alloc (.cells #[.string ⟨c.name.toArray⟩, .slice da dl dc, .slice oa ol oc, .slice ga gl gc, .int .i64 c.procs, .int .i64 c.labels] T)) w.heap.size c da oa ga dl dc ol oc gl gc :=
  ⟨(World.cell?_alloc_at _ _ _ _ rfl).trans rfl, (World.cell?_alloc_at _ _ _ _ rfl).trans rfl, (World.cell?_alloc_at _ _ _ _ rfl).trans rfl, (World.cell?_alloc_at _ _ _ _ rfl).trans rfl, (World.cell?_alloc_at _ _ _ _ rfl).trans rfl, (World.cell?_alloc_at _ _ _ _ rfl).trans rfl⟩
theorem BoxC.keep {w w' : World} {b B : Nat} {c : OC.Code} {da oa ga : Option Addr} {dl dc ol oc gl gc : Nat} (h : BoxC w b c da oa ga dl dc ol oc gl gc) (hb : Below B w w') (hB : b < B) : BoxC w' b c da oa ga dl dc ol oc gl gc :=
  ⟨(hb.cell (p := ⟨b, 0, none⟩) hB).trans h.1, (hb.cell (p := ⟨b, 1, none⟩) hB).trans h.2.1, (hb.cell (p := ⟨b, 2, none⟩) hB).trans h.2.2.1, (hb.cell (p := ⟨b, 3, none⟩) hB).trans h.2.2.2.1, (hb.cell (p := ⟨b, 4, none⟩) hB).trans h.2.2.2.2.1, (hb.cell (p := ⟨b, 5, none⟩) hB).trans h.2.2.2.2.2⟩
theorem BoxC.lt {w : World} {b : Nat} {c : OC.Code} {da oa ga : Option Addr} {dl dc ol oc gl gc : Nat} (h : BoxC w b c da oa ga dl dc ol oc gl gc) : b < w.heap.size := World.block_lt_of_cell? w _ h.1
theorem getD_map_range {α : Type} (l : List α) (d : α) {i : Nat} (h : i < l.length) : l.getD i d ∈ l := by
  rw [getD_at h]; exact List.getElem_mem _
end Go.Proofs.YtfnkafnjpldaoaaDoor
