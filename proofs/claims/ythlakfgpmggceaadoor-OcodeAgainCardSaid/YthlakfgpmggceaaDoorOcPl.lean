/- Where labels lie, and whether those that are named are there, in the document's words. -/
import Derived.Test.YthlakfgpmggceaaDoorOcDp
import Derived.OwnWalk
import Derived.OneCell
import Derived.Deep.RegionHeld3
import Derived.Deep.Cut
import Derived.StillTailTactics
namespace Go.Proofs.YthlakfgpmggceaaDoor
open Go.RowKit
set_option linter.unusedVariables false
set_option linter.unusedSimpArgs false
theorem int_info : (Tryd.prog.info? 3).map (fun i => (i.zero, i.size, i.bytes)) = some (some (.int .i64 0), 1, 8) := by kernel_rfl
theorem upon_make_full {P : Program} {W : World} {o : Oper} {a : Act} {K : Act → World → Prop} {Q : Exit → Act → World → Prop} (t : TypeId) (L C : Value)
    (base : Nat) (e : TypeId) (i : TypeInfo) (z : Value) (size : Nat) (h1 : P.underlying t = some (.slice e)) (h2 : P.info? e = some i) (h3 : i.zero = some z) (h4 : i.size = size)
    (n : Nat) (hL : L = .int .i64 (n : Int)) (hC : C = .int .i64 (n : Int)) (b2 : i.bytes * n ≤ 281474976710656) (b3 : n ≤ maxLen) (b4 : base ≤ W.heap.size)
    (hK : ∀ w', w'.ownsRow base e size (.slice (some ⟨W.heap.size, 0, none⟩) n n) n (madeCells z.cells (n * size)).toList → W.grownBy w' none → K (a.put o.dst (.slice (some ⟨W.heap.size, 0, none⟩) n n)) w') :
    Oper.upon P o a K Q ((Sem.run P (Instr.makeSlice t L C) W).andThen fun v w' => Result.ok (Next.value v) w') := by
  obtain ⟨w', hrun, r1, r2⟩ := run_make_full (P := P) W base t e i z size h1 h2 h3 h4 .i64 .i64 n b2 b3 b4
  subst hL
  subst hC
  rw [hrun]
  exact hK w' r1 r2
theorem below_grown {w w' : World} (hg : w.grownBy w' none) : Below w.heap.size w w' := (Below.refl _ _).grown hg (Nat.le_refl _) (fun k e => by cases e)
/-- the tables on their way: the box of the code, the result's block, the tables' block with the rows of places and procedures -/
def Tables (w wr : World) (c : OC.Code) (da oa ga : Option Addr) (dl dc ol oc gl gc : Nat) (s4 : Value) (P Q : List Int) : Prop :=
  ∃ gp gq bt, s4 = .pointer (some ⟨bt, 0, none⟩) ∧ BoxC wr w.heap.size c da oa ga dl dc ol oc gl gc ∧ BoxT wr bt (some ⟨gp, 0, none⟩) P.length P.length (.slice (some ⟨gq, 0, none⟩) Q.length Q.length) ∧
    (∃ u v, wr.cell? ⟨w.heap.size + 1, 0, none⟩ = some u ∧ wr.cell? ⟨w.heap.size + 1, 1, none⟩ = some v) ∧ (∀ j, wr.frozen? ⟨w.heap.size + 1, j, none⟩ = false) ∧
    wr.ownsRow 0 3 1 (.slice (some ⟨gp, 0, none⟩) P.length P.length) P.length (P.map (.int .i64)) ∧ wr.ownsRow 0 3 1 (.slice (some ⟨gq, 0, none⟩) Q.length Q.length) Q.length (Q.map (.int .i64)) ∧
    gp ≠ gq ∧ gp ≠ bt ∧ gq ≠ bt ∧ w.heap.size + 1 < gp ∧ w.heap.size + 1 < gq ∧ w.heap.size + 1 < bt ∧ Below w.heap.size w wr
def Base (w W : World) (c : OC.Code) (da oa ga : Option Addr) (dl dc ol oc gl gc : Nat) : Prop :=
  BoxC W w.heap.size c da oa ga dl dc ol oc gl gc ∧ (∃ u v, W.cell? ⟨w.heap.size + 1, 0, none⟩ = some u ∧ W.cell? ⟨w.heap.size + 1, 1, none⟩ = some v) ∧ (∀ j, W.frozen? ⟨w.heap.size + 1, j, none⟩ = false) ∧ Below w.heap.size w W
theorem Base.keep {w W W' : World} {c : OC.Code} {da oa ga : Option Addr} {dl dc ol oc gl gc : Nat} (h : Base w W c da oa ga dl dc ol oc gl gc) (hb : Below W.heap.size W W') : Base w W' c da oa ga dl dc ol oc gl gc := by
  obtain ⟨h1, ⟨u, v, h2, h3⟩, h4, h5⟩ := h
  have hl := World.block_lt_of_cell? _ _ h2
  refine ⟨h1.keep hb h1.lt, ⟨u, v, (hb.cell (p := ⟨w.heap.size + 1, 0, none⟩) hl).trans h2, (hb.cell (p := ⟨w.heap.size + 1, 1, none⟩) hl).trans h3⟩, fun j => (hb.frozen (p := ⟨w.heap.size + 1, j, none⟩) hl).trans (h4 j), below_then h5 hb⟩
theorem Base.start (w : World) (c : OC.Code) (da oa ga : Option Addr) (dl dc ol oc gl gc : Nat) (T S : TypeId) (u v : Value) :
    Base w ((w.alloc (.cells #[.string ⟨c.name.toArray⟩, .slice da dl dc, .slice oa ol oc, .slice ga gl gc, .int .i64 c.procs, .int .i64 c.labels] T)).alloc (.cells #[u, v] S)) c da oa ga dl dc ol oc gl gc := by
  have e : (w.alloc (.cells #[.string ⟨c.name.toArray⟩, .slice da dl dc, .slice oa ol oc, .slice ga gl gc, .int .i64 c.procs, .int .i64 c.labels] T)).heap.size = w.heap.size + 1 := by simp
  refine ⟨(BoxC.new w c da oa ga dl dc ol oc gl gc T).keep (below_alloc _ _) (by simp), ⟨u, v, ?_, ?_⟩, fun j => ?_, below_then (below_alloc _ _) (below_alloc _ _)⟩
  · rw [← e]; exact (World.cell?_alloc_at _ _ _ _ rfl).trans rfl
  · rw [← e]; exact (World.cell?_alloc_at _ _ _ _ rfl).trans rfl
  · rw [← e]; simp
abbrev zeros (n : Nat) : List Value := (madeCells (Value.int .i64 0).cells (n * 1)).toList
theorem zeros_eq (n : Nat) : zeros n = (List.replicate n (0 : Int)).map (.int .i64) := by
  show (madeCells #[Value.int .i64 0] (n * 1)).toList = _
  rw [Nat.mul_one, toList_madeCells_one, List.map_replicate]
theorem tablesA {w W : World} {c : OC.Code} {da oa ga : Option Addr} {dl dc ol oc gl gc gp gq n m : Nat} (T : TypeId) (h : Base w W c da oa ga dl dc ol oc gl gc)
    (hP : W.ownsRow 0 3 1 (.slice (some ⟨gp, 0, none⟩) n n) n (zeros n)) (hQ : W.ownsRow 0 3 1 (.slice (some ⟨gq, 0, none⟩) m m) m (zeros m)) (h1 : gp ≠ gq) (h2 : w.heap.size + 1 < gp) (h3 : w.heap.size + 1 < gq) :
    Tables w (W.alloc (.cells #[.slice (some ⟨gp, 0, none⟩) n n, .slice (some ⟨gq, 0, none⟩) m m] T)) c da oa ga dl dc ol oc gl gc (.pointer (some ⟨W.heap.size, 0, none⟩)) (List.replicate n 0) (List.replicate m 0) := by
  have h' := h.keep (below_alloc W (.cells #[.slice (some ⟨gp, 0, none⟩) n n, .slice (some ⟨gq, 0, none⟩) m m] T))
  obtain ⟨k1, k2, k3, k4⟩ := h'
  have lP : gp < W.heap.size := (hP.lt _ rfl).2
  have lQ : gq < W.heap.size := (hQ.lt _ rfl).2
  have hl := h.2.2.2.size
  refine ⟨gp, gq, W.heap.size, rfl, k1, ?_, k2, k3, ?_, ?_, h1, by omega, by omega, h2, h3, by omega, k4⟩
  · rw [List.length_replicate, List.length_replicate]; exact BoxT.new W _ _ _ _ _
  · rw [List.length_replicate, ← zeros_eq]; exact hP.alloc _
  · rw [List.length_replicate, ← zeros_eq]; exact hQ.alloc _
theorem tablesB {w W : World} {c : OC.Code} {da oa ga : Option Addr} {dl dc ol oc gl gc gp gq bt n m : Nat} (h : Base w W c da oa ga dl dc ol oc gl gc)
    (hP : W.ownsRow 0 3 1 (.slice (some ⟨gp, 0, none⟩) n n) n (zeros n)) (hQ : W.ownsRow 0 3 1 (.slice (some ⟨gq, 0, none⟩) m m) m (zeros m)) (h1 : gp ≠ gq) (h2 : w.heap.size + 1 < gp) (h3 : w.heap.size + 1 < gq)
    (hb : ∃ u v, W.cell? ⟨bt, 0, none⟩ = some u ∧ W.cell? ⟨bt, 1, none⟩ = some v) (h4 : gp ≠ bt) (h5 : gq ≠ bt) (h6 : w.heap.size + 1 < bt) :
    Tables w ((W.setCell ⟨bt, 0, none⟩ (.slice (some ⟨gp, 0, none⟩) n n)).setCell ⟨bt, 1, none⟩ (.slice (some ⟨gq, 0, none⟩) m m)) c da oa ga dl dc ol oc gl gc (.pointer (some ⟨bt, 0, none⟩)) (List.replicate n 0) (List.replicate m 0) := by
  obtain ⟨⟨k0, k1, k2, k3, k4, k5⟩, ⟨u, v, k6, k7⟩, k8, k9⟩ := h
  obtain ⟨u2, v2, b0, b1⟩ := hb
  have oth : ∀ (x : Nat) (j : Nat) (a b : Value), x ≠ bt → ((W.setCell ⟨bt, 0, none⟩ a).setCell ⟨bt, 1, none⟩ b).cell? ⟨x, j, none⟩ = W.cell? ⟨x, j, none⟩ := fun x j a b hx => by
    rw [World.cell?_setCell_other _ _ _ _ (by intro e; injection e with e; exact hx e.symm), World.cell?_setCell_other _ _ _ _ (by intro e; injection e with e; exact hx e.symm)]
  refine ⟨gp, gq, bt, rfl, ⟨(oth _ _ _ _ (by omega)).trans k0, (oth _ _ _ _ (by omega)).trans k1, (oth _ _ _ _ (by omega)).trans k2, (oth _ _ _ _ (by omega)).trans k3, (oth _ _ _ _ (by omega)).trans k4, (oth _ _ _ _ (by omega)).trans k5⟩, ?_, ⟨u, v, (oth _ _ _ _ (by omega)).trans k6, (oth _ _ _ _ (by omega)).trans k7⟩, fun j => ?_, ?_, ?_, h1, h4, h5, h2, h3, h6, ?_⟩
  · rw [List.length_replicate, List.length_replicate]
    constructor
    · rw [World.cell?_setCell_other _ _ _ _ (by simp)]; exact World.cell?_setCell_same (u := u2) _ _ _ b0
    · refine World.cell?_setCell_same (u := v2) _ _ _ ?_
      rw [World.cell?_setCell_other _ _ _ _ (by simp)]; exact b1
  · rw [World.frozen?_setCell, World.frozen?_setCell]; exact k8 j
  · rw [List.length_replicate, ← zeros_eq]; exact ownsRow_setCell_other (ownsRow_setCell_other hP (by simp [Value.ownBlock]; omega) _) (by simp [Value.ownBlock]; omega) _
  · rw [List.length_replicate, ← zeros_eq]; exact ownsRow_setCell_other (ownsRow_setCell_other hQ (by simp [Value.ownBlock]; omega) _) (by simp [Value.ownBlock]; omega) _
  · exact (k9.setCell (p := ⟨bt, 0, none⟩) (by show w.heap.size ≤ bt; omega) _).setCell (p := ⟨bt, 1, none⟩) (by show w.heap.size ≤ bt; omega) _
theorem own_at {w1 : World} {b e s g0 n m k : Nat} {xs : List Value} (h : w1.ownsRow b e s (.slice (some ⟨g0, 0, none⟩) n m) k xs) (g : Nat) (hg : g = g0) : w1.ownsRow b e s (.slice (some ⟨g, 0, none⟩) n m) k xs := by subst hg; exact h
/-- the tables at known blocks -/
def TabAt (w wr : World) (c : OC.Code) (da oa ga : Option Addr) (dl dc ol oc gl gc gp gq bt : Nat) (P Q : List Int) : Prop :=
  BoxC wr w.heap.size c da oa ga dl dc ol oc gl gc ∧ BoxT wr bt (some ⟨gp, 0, none⟩) P.length P.length (.slice (some ⟨gq, 0, none⟩) Q.length Q.length) ∧
    (∃ u v, wr.cell? ⟨w.heap.size + 1, 0, none⟩ = some u ∧ wr.cell? ⟨w.heap.size + 1, 1, none⟩ = some v) ∧ (∀ j, wr.frozen? ⟨w.heap.size + 1, j, none⟩ = false) ∧
    wr.ownsRow 0 3 1 (.slice (some ⟨gp, 0, none⟩) P.length P.length) P.length (P.map (.int .i64)) ∧ wr.ownsRow 0 3 1 (.slice (some ⟨gq, 0, none⟩) Q.length Q.length) Q.length (Q.map (.int .i64)) ∧
    gp ≠ gq ∧ gp ≠ bt ∧ gq ≠ bt ∧ w.heap.size + 1 < gp ∧ w.heap.size + 1 < gq ∧ w.heap.size + 1 < bt ∧ Below w.heap.size w wr
theorem Tables.at {w wr : World} {c : OC.Code} {da oa ga : Option Addr} {dl dc ol oc gl gc : Nat} {s4 : Value} {P Q : List Int} (h : Tables w wr c da oa ga dl dc ol oc gl gc s4 P Q) : ∃ gp gq bt, s4 = .pointer (some ⟨bt, 0, none⟩) ∧ TabAt w wr c da oa ga dl dc ol oc gl gc gp gq bt P Q := by
  obtain ⟨gp, gq, bt, h1, h2⟩ := h
  exact ⟨gp, gq, bt, h1, h2⟩
theorem set_other (W : World) (g j : Nat) (a : Value) (x i : Nat) (hx : x ≠ g) : (W.setCell ⟨g, j, none⟩ a).cell? ⟨x, i, none⟩ = W.cell? ⟨x, i, none⟩ :=
  World.cell?_setCell_other _ _ _ _ (by intro e; injection e with e; exact hx e.symm)
theorem TabAt.place {w wr : World} {c : OC.Code} {da oa ga : Option Addr} {dl dc ol oc gl gc gp gq bt : Nat} {P Q : List Int} (h : TabAt w wr c da oa ga dl dc ol oc gl gc gp gq bt P Q) (j : Nat) (z : Int) :
    TabAt w (wr.setCell ⟨gp, j, none⟩ (.int .i64 z)) c da oa ga dl dc ol oc gl gc gp gq bt (P.set j z) Q := by
  obtain ⟨⟨k0, k1, k2, k3, k4, k5⟩, ⟨b0, b1⟩, ⟨u, v, r0, r1⟩, fr, oP, oQ, n1, n2, n3, l1, l2, l3, bl⟩ := h
  refine ⟨⟨(set_other _ _ _ _ _ _ (by omega)).trans k0, (set_other _ _ _ _ _ _ (by omega)).trans k1, (set_other _ _ _ _ _ _ (by omega)).trans k2, (set_other _ _ _ _ _ _ (by omega)).trans k3, (set_other _ _ _ _ _ _ (by omega)).trans k4, (set_other _ _ _ _ _ _ (by omega)).trans k5⟩, ⟨?_, (set_other _ _ _ _ _ _ (by omega)).trans b1⟩, ⟨u, v, (set_other _ _ _ _ _ _ (by omega)).trans r0, (set_other _ _ _ _ _ _ (by omega)).trans r1⟩, fun i => by rw [World.frozen?_setCell]; exact fr i, ?_, ownsRow_setCell_other oQ (by simp [Value.ownBlock]; omega) _, n1, n2, n3, l1, l2, l3, bl.setCell (p := ⟨gp, j, none⟩) (by show w.heap.size ≤ gp; omega) _⟩
  · rw [List.length_set]; exact (set_other _ _ _ _ _ _ (by omega)).trans b0
  · rw [List.length_set, List.map_set]; exact (oP.stored j (.int .i64 z)).1
theorem TabAt.proc {w wr : World} {c : OC.Code} {da oa ga : Option Addr} {dl dc ol oc gl gc gp gq bt : Nat} {P Q : List Int} (h : TabAt w wr c da oa ga dl dc ol oc gl gc gp gq bt P Q) (j : Nat) (z : Int) :
    TabAt w (wr.setCell ⟨gq, j, none⟩ (.int .i64 z)) c da oa ga dl dc ol oc gl gc gp gq bt P (Q.set j z) := by
  obtain ⟨⟨k0, k1, k2, k3, k4, k5⟩, ⟨b0, b1⟩, ⟨u, v, r0, r1⟩, fr, oP, oQ, n1, n2, n3, l1, l2, l3, bl⟩ := h
  refine ⟨⟨(set_other _ _ _ _ _ _ (by omega)).trans k0, (set_other _ _ _ _ _ _ (by omega)).trans k1, (set_other _ _ _ _ _ _ (by omega)).trans k2, (set_other _ _ _ _ _ _ (by omega)).trans k3, (set_other _ _ _ _ _ _ (by omega)).trans k4, (set_other _ _ _ _ _ _ (by omega)).trans k5⟩, ⟨(set_other _ _ _ _ _ _ (by omega)).trans b0, ?_⟩, ⟨u, v, (set_other _ _ _ _ _ _ (by omega)).trans r0, (set_other _ _ _ _ _ _ (by omega)).trans r1⟩, fun i => by rw [World.frozen?_setCell]; exact fr i, ownsRow_setCell_other oP (by simp [Value.ownBlock]; omega) _, ?_, n1, n2, n3, l1, l2, l3, bl.setCell (p := ⟨gq, j, none⟩) (by show w.heap.size ≤ gq; omega) _⟩
  · rw [List.length_set]; exact (set_other _ _ _ _ _ _ (by omega)).trans b1
  · rw [List.length_set, List.map_set]; exact (oQ.stored j (.int .i64 z)).1
theorem ownsKeep {w w' : World} {base : Nat} {e : TypeId} {size : Nat} {v : Value} {n : Nat} {xs : List Value} (h : w.ownsRow base e size v n xs) (hb : Below w.heap.size w w') : w'.ownsRow base e size v n xs :=
  h.kept (row := none) ⟨hb.os, hb.tape, hb.output, hb.size, fun i hi _ => hb.block i hi⟩ (by cases v.ownBlock <;> simp)
theorem TabAt.keep {w wr w' : World} {c : OC.Code} {da oa ga : Option Addr} {dl dc ol oc gl gc gp gq bt : Nat} {P Q : List Int} (h : TabAt w wr c da oa ga dl dc ol oc gl gc gp gq bt P Q) (hb : Below wr.heap.size wr w') :
    TabAt w w' c da oa ga dl dc ol oc gl gc gp gq bt P Q := by
  obtain ⟨k, b, ⟨u, v, r0, r1⟩, fr, oP, oQ, n1, n2, n3, l1, l2, l3, bl⟩ := h
  have hl := World.block_lt_of_cell? _ _ r0
  exact ⟨k.keep hb k.lt, b.keep hb b.lt, ⟨u, v, (hb.cell (p := ⟨w.heap.size + 1, 0, none⟩) hl).trans r0, (hb.cell (p := ⟨w.heap.size + 1, 1, none⟩) hl).trans r1⟩, fun j => (hb.frozen (p := ⟨w.heap.size + 1, j, none⟩) hl).trans (fr j), ownsKeep oP hb, ownsKeep oQ hb, n1, n2, n3, l1, l2, l3, below_then bl hb⟩
theorem TabAt.pcell {w wr : World} {c : OC.Code} {da oa ga : Option Addr} {dl dc ol oc gl gc gp gq bt : Nat} {P Q : List Int} (h : TabAt w wr c da oa ga dl dc ol oc gl gc gp gq bt P Q) {j : Nat} (hj : j < P.length) : wr.cell? ⟨gp, j, none⟩ = some (.int .i64 (P.getD j 0)) ∧ wr.frozen? ⟨gp, j, none⟩ = false := by
  obtain ⟨k, b, r, fr, oP, oQ, _⟩ := h
  refine ⟨?_, oP.frozenAt j⟩
  rw [oP.cellAt j (by omega)]
  simp [hj]
theorem TabAt.qcell {w wr : World} {c : OC.Code} {da oa ga : Option Addr} {dl dc ol oc gl gc gp gq bt : Nat} {P Q : List Int} (h : TabAt w wr c da oa ga dl dc ol oc gl gc gp gq bt P Q) {j : Nat} (hj : j < Q.length) : wr.cell? ⟨gq, j, none⟩ = some (.int .i64 (Q.getD j 0)) ∧ wr.frozen? ⟨gq, j, none⟩ = false := by
  obtain ⟨k, b, r, fr, oP, oQ, _⟩ := h
  refine ⟨?_, oQ.frozenAt j⟩
  rw [oQ.cellAt j (by omega)]
  simp [hj]
theorem replicate_of {P : List Int} {n : Nat} (hl : P.length = n) (h : ∀ j, j < n → P.getD j 0 = -1) : P = List.replicate n (-1) := by
  apply List.ext_getElem?
  intro j
  by_cases hj : j < n
  · have := h j hj
    rw [getD_at (by omega)] at this
    rw [List.getElem?_eq_getElem (by omega), this, List.getElem?_replicate, if_pos hj]
  · rw [List.getElem?_eq_none (by omega), List.getElem?_eq_none (by simp; omega)]
theorem numB_lab {nd procs labels n m : Int} (h : OC.numB nd procs labels ⟨19, n, m⟩ = true) : 1 ≤ n ∧ n ≤ labels := by
  unfold OC.numB at h
  simp [OC.inB] at h
  omega
theorem TabAt.drawn {w W : World} {n : Nat} {c : OC.Code} {da oa ga : Option Addr} {dl dc ol oc gl gc gp gq bt : Nat} {P Q : List Int} (h : TabAt w W c da oa ga dl dc ol oc gl gc gp gq bt P Q) (j : Nat) (z : Int) :
    TabAt w (((W.drewN n).drew).setCell ⟨gp, j, none⟩ (.int .i64 z)) c da oa ga dl dc ol oc gl gc gp gq bt (P.set j z) Q :=
  (h.keep (below_drewN (below_drewN (Below.refl _ _) n) 1)).place j z
theorem own_set2 {w : World} {base : Nat} {e : TypeId} {size : Nat} {v : Value} {n : Nat} {xs : List Value} (h : w.ownsRow base e size v n xs) {g : Nat} (hg : v.ownBlock ≠ some g) (i j : Nat) (a b : Value) : ((w.setCell ⟨g, i, none⟩ a).setCell ⟨g, j, none⟩ b).ownsRow base e size v n xs :=
  ownsRow_setCell_other (ownsRow_setCell_other h (a := ⟨g, i, none⟩) hg a) (a := ⟨g, j, none⟩) hg b
theorem getD_set {P : List Int} {j i : Nat} {z d : Int} (hj : j < P.length) : (P.set j z).getD i d = if i = j then z else P.getD i d := by
  by_cases h : i = j
  · subst h; rw [if_pos rfl]; simp [hj]
  · rw [if_neg h]; simp [Ne.symm h]
/-- what the tables of labels are -/
def PlacedR (c : OC.Code) (e : Ending) (w : World) : Prop :=
  match OC.plc c.ops 0 (OC.t0 c) with
  | none => ∃ a n m b k l, e = .returned (.tuple #[.agg #[.slice a n m, .slice b k l], .bool false])
  | some t => if OC.namedB t (OC.prc 0 c.ops) c.ops (OC.prc 0 c.ops) = true then ∃ ta tc b k l, e = .returned (.tuple #[.agg #[.slice ta t.length tc, .slice b k l], .bool true]) ∧ Rd .i64 w (.slice ta t.length tc) t else ∃ a n m b k l, e = .returned (.tuple #[.agg #[.slice a n m, .slice b k l], .bool false])
theorem placed_none {c : OC.Code} {T : List Int} {e : Ending} {w : World} {sa : Option Addr} {sn sm : Nat} {sb : Option Addr} {sk sl : Nat} (h0 : OC.t0 c = T) (h : OC.plc c.ops 0 T = none) (he : e = .returned (.tuple #[.agg #[.slice sa sn sm, .slice sb sk sl], .bool false])) : PlacedR c e w := by
  unfold PlacedR; rw [h0, h]; exact ⟨_, _, _, _, _, _, he⟩
theorem placed_no {c : OC.Code} {T P Q : List Int} {e : Ending} {w : World} {sa : Option Addr} {sn sm : Nat} {sb : Option Addr} {sk sl : Nat} (h0 : OC.t0 c = T) (h : OC.plc c.ops 0 T = some P) (hq : OC.prc 0 c.ops = Q) (hn : OC.namedB P Q c.ops Q = false) (he : e = .returned (.tuple #[.agg #[.slice sa sn sm, .slice sb sk sl], .bool false])) : PlacedR c e w := by
  unfold PlacedR; rw [h0, h, hq]; simp only [hn]; exact ⟨_, _, _, _, _, _, he⟩
theorem placed_yes {c : OC.Code} {T P Q : List Int} {e : Ending} {w : World} {g n cap : Nat} {sb : Option Addr} {sk sl : Nat} (h0 : OC.t0 c = T) (h : OC.plc c.ops 0 T = some P) (hq : OC.prc 0 c.ops = Q) (hn : OC.namedB P Q c.ops Q = true) (hl : P.length = n) (he : e = .returned (.tuple #[.agg #[.slice (some ⟨g, 0, none⟩) n cap, .slice sb sk sl], .bool true]))
    (hr : w.ownsRow 0 3 1 (.slice (some ⟨g, 0, none⟩) n cap) n (P.map (.int .i64))) (hb : P.length ≤ 140737488355328 := by first | assumption | omega) : PlacedR c e w := by
  unfold PlacedR; rw [h0, h, hq]; simp only [hn]
  subst hl
  exact ⟨_, _, _, _, _, he, Rd.of_owns hr hb⟩
set_option maxRecDepth 100000 in
set_option maxHeartbeats 16000000 in
theorem placedR_c (c : OC.Code) (da oa ga : Option Addr) (dl dc ol oc gl gc : Nat) (w : World) (hc : CodeIn w c da oa ga dl dc ol oc gl gc) (hs : Small c) (hn : NumOk c) (hl0 : 0 ≤ c.labels) (hl1 : c.labels ≤ 20000) :
    Calls Tryd.prog 46 #[codeV c da oa ga dl dc ol oc gl gc] w fun e w' => PlacedR c e w' ∧ Below w.heap.size w w' := by
  obtain ⟨hol, hoc, _⟩ := hc.ops.len
  have HC := Lib.hid hc
  have HO := Lib.hid hol
  have hol2 := hs.ops
  rw [← hol] at hol2
  have HN := Lib.hid hn
  obtain ⟨ii, hi, hz0, hz1, hz2⟩ := info_parts int_info
  have HI := Lib.hid hi
  have HZ0 := Lib.hid hz0
  have HZ1 := Lib.hid hz1
  have HZ2 := Lib.hid hz2
  obtain ⟨name, data, ops, globals, procs, labels⟩ := c
  dsimp only at *
  obtain ⟨lb, hlb⟩ : ∃ lb : Nat, labels = (lb : Int) := ⟨labels.toNat, by omega⟩
  subst hlb
  have hlb1 : lb ≤ 20000 := by omega
  clear hol hc hs hn hi hz0 hz1 hz2 hl0 hl1
  have e1 : IntKind.i64.wrap ((lb : Int) + 1) = (lb : Int) + 1 := IntWalk.i64_in _ (by omega)
  go_enter Tryd.func46, Tryd.ntmps46
  go_upto_region 1 with (fail)
  have HB0 := Lib.hid (BoxC.new w ⟨name, data, ops, globals, procs, (lb : Int)⟩ da oa ga dl dc ol oc gl gc 26)
  go_cut [4] from 10 (fun s4 wr => Tables w wr ⟨name, data, ops, globals, procs, (lb : Int)⟩ da oa ga dl dc ol oc gl gc s4 (List.replicate (lb + 1) 0) (List.replicate ol 0))
  case first =>
    go_region_held3 (fun w' => w'.cell? ⟨w.heap.size, 2, none⟩ = some (.slice oa ol oc) ∧ w'.cell? ⟨w.heap.size, 5, none⟩ = some (.int .i64 (lb : Int)))
      (first | exact ⟨hgP.cell (And.left (by assumption)) (by simp), hgP.cell (And.right (by assumption)) (by simp)⟩ | exact ⟨hgQ.cell (And.left (by assumption)) (by simp), hgQ.cell (And.right (by assumption)) (by simp)⟩ | exact ⟨((below_alloc _ _).cell (show w.heap.size < _ from by omega)).trans (((below_alloc _ _).cell (show w.heap.size < _ from by omega)).symm.trans (And.left (by assumption))), ((below_alloc _ _).cell (show w.heap.size < _ from by omega)).trans (((below_alloc _ _).cell (show w.heap.size < _ from by omega)).symm.trans (And.right (by assumption)))⟩ | exact ⟨(World.cell?_setCell_other _ _ _ _ (by simp <;> omega)).trans ((World.cell?_setCell_other _ _ _ _ (by simp <;> omega)).trans (And.left (by assumption))), (World.cell?_setCell_other _ _ _ _ (by simp <;> omega)).trans ((World.cell?_setCell_other _ _ _ _ (by simp <;> omega)).trans (And.right (by assumption)))⟩ | go_keep)
      ((first | (refine upon_make_full _ _ _ 0 3 ii (.int .i64 0) 1 Tryd.underlying34 HI.out HZ0.out HZ1.out ol rfl rfl (by rw [HZ2.out]; omega) (by unfold maxLen; omega) (Nat.zero_le _) ?_; intro w2 hownQ hgQ; obtain ⟨hccQ, hffQ⟩ := bcell (below_grown hgQ); have lQ := (hownQ.lt _ rfl).2; have lQ2 := lQ; try simp at lQ2; have qQ : w.heap.size + 1 + 1 < w2.heap.size := (by have h := hgQ.size; have h2 := lQ; first | omega | (simp at h h2; omega) | (simp at h2; omega)); try (have rQ : w1.heap.size < w2.heap.size := (by have h2 := lQ; first | omega | (simp at h2; omega))); have zQ : w.heap.size + 2 ≤ w2.heap.size := (by have h := hgQ.size; first | omega | (simp at h; omega))) | (refine upon_make_full _ _ _ 0 3 ii (.int .i64 0) 1 Tryd.underlying34 HI.out HZ0.out HZ1.out (lb + 1) (by simp) (by simp) (by rw [HZ2.out]; omega) (by unfold maxLen; omega) (Nat.zero_le _) ?_; intro w1 hownP hgP; obtain ⟨hccP, hffP⟩ := bcell (below_grown hgP); have lP := (hownP.lt _ rfl).2; have lP2 := lP; try simp at lP2; have qP : w.heap.size + 1 + 1 < w1.heap.size := (by have h := hgP.size; have h2 := lP; first | omega | (simp at h h2; omega) | (simp at h2; omega)); try (have rP : w2.heap.size < w1.heap.size := (by have h2 := lP; first | omega | (simp at h2; omega))); have zP : w.heap.size + 2 ≤ w1.heap.size := (by have h := hgP.size; first | omega | (simp at h; omega)))))
    all_goals go_wp2_with fail
    all_goals go_meet
    all_goals go_light
    all_goals first
      | exact tablesA _ (by repeat (first | exact Base.start w ⟨name, data, ops, globals, procs, (lb : Int)⟩ _ _ _ _ _ _ _ _ _ _ _ _ _ | refine Base.keep ?_ (below_grown hgQ) | refine Base.keep ?_ (below_grown hgP) | refine Base.keep ?_ (below_alloc _ _) | refine Base.keep ?_ (below_drewN (Below.refl _ _) 1))) (by repeat (first | exact own_at hownP _ (by first | rfl | simp) | refine World.ownsRow.kept ?_ hgQ (.inr (by simp [Value.ownBlock])) | refine World.ownsRow.alloc ?_ _)) (by repeat (first | exact own_at hownQ _ (by first | rfl | simp) | refine World.ownsRow.kept ?_ hgP (.inr (by simp [Value.ownBlock])) | refine World.ownsRow.alloc ?_ _)) (by omega) (by omega) (by omega)
      | exact tablesB (by repeat (first | exact Base.start w ⟨name, data, ops, globals, procs, (lb : Int)⟩ _ _ _ _ _ _ _ _ _ _ _ _ _ | refine Base.keep ?_ (below_grown hgQ) | refine Base.keep ?_ (below_grown hgP) | refine Base.keep ?_ (below_alloc _ _) | refine Base.keep ?_ (below_drewN (Below.refl _ _) 1))) (by repeat (first | exact own_at hownP _ (by first | rfl | simp) | refine World.ownsRow.kept ?_ hgQ (.inr (by simp [Value.ownBlock])) | refine World.ownsRow.alloc ?_ _)) (by repeat (first | exact own_at hownQ _ (by first | rfl | simp) | refine World.ownsRow.kept ?_ hgP (.inr (by simp [Value.ownBlock])) | refine World.ownsRow.alloc ?_ _)) (by first | omega | (simp; omega)) (by first | omega | (simp; omega)) (by first | omega | (simp; omega)) (by first | exact ⟨_, _, ((below_grown hgQ).cell (by simp)).trans ((World.cell?_alloc_at _ _ _ _ rfl).trans rfl), ((below_grown hgQ).cell (by simp)).trans ((World.cell?_alloc_at _ _ _ _ rfl).trans rfl)⟩ | exact ⟨_, _, ((below_grown hgP).cell (by simp)).trans ((World.cell?_alloc_at _ _ _ _ rfl).trans rfl), ((below_grown hgP).cell (by simp)).trans ((World.cell?_alloc_at _ _ _ _ rfl).trans rfl)⟩ | (have _t := rQ; refine ⟨.slice none 0 0, .slice none 0 0, ?_, ?_⟩ <;> (rw [hccQ _ _ (by omega), hccP _ _ (by simp)]; exact (World.cell?_alloc_at _ _ _ _ (by simp)).trans rfl)) | (have _t := rP; refine ⟨.slice none 0 0, .slice none 0 0, ?_, ?_⟩ <;> (rw [hccP _ _ (by omega), hccQ _ _ (by simp)]; exact (World.cell?_alloc_at _ _ _ _ (by simp)).trans rfl))) (by first | omega | (simp; omega)) (by first | omega | (simp; omega)) (by first | omega | (simp; omega))
  case rest =>
    obtain ⟨gp, gq, bt, rfl, htab⟩ := hcut.at
    clear hcut
    go_wp2
    have HT0 := Lib.hid htab
    have HE0 : Hid (OC.t0 ⟨name, data, ops, globals, procs, (lb : Int)⟩ = List.replicate (lb + 1) (-1)) := by
      show List.replicate ((lb : Int) + 1).toNat (-1) = _
      rw [show ((lb : Int) + 1).toNat = lb + 1 from by omega]
    clear htab
    go_loopw [5] (fun i wr => ∃ (k : Nat) (P : List Int), k ≤ lb + 1 ∧ i = .int .i64 k ∧ P.length = lb + 1 ∧ Hid (∀ j, j < k → P.getD j 0 = -1) ∧ TabAt w wr ⟨name, data, ops, globals, procs, (lb : Int)⟩ da oa ga dl dc ol oc gl gc gp gq bt P (List.replicate ol 0)) (fun i _ => lb + 1 - (intOf i).toNat)
    case atStart => exact ⟨0, List.replicate (lb + 1) 0, Nat.zero_le _, rfl, by simp, (fun j h => by omega), HT0.out⟩
    case round =>
      obtain ⟨k, P, hk, rfl, hPl, hP, htab⟩ := hrel
      have HT := Lib.hid htab
      obtain ⟨⟨c0, c1, c2, c3, c4, c5⟩, ⟨t0, t1⟩, _⟩ := htab
      rw [hPl] at t0
      by_cases hlt : k < lb + 1
      · obtain ⟨q1, q2⟩ := HT.out.pcell (j := k) (by omega)
        have HPL := Lib.hid hPl
        have k1 : (k : Int) ≤ (lb : Int) := by omega
        have k2 : (k : Int) < ((lb + 1 : Nat) : Int) := by omega
        have hPn : Hid (∀ j, j < k + 1 → (P.set k (-1)).getD j 0 = -1) := by
          intro j hj
          rw [getD_set (by rw [HPL.out]; exact hlt)]
          split
          · rfl
          · exact hP.out j (by omega)
        clear hPl
        go_wp2
        go_roundw
        case rel => exact ⟨k + 1, P.set k (-1), by omega, by go_num, by rw [List.length_set]; exact HPL.out, hPn, HT.out.place k (-1)⟩
        case measure => simp [intOf]; omega
      · have k1 : ¬ (k : Int) ≤ (lb : Int) := by omega
        have hPr : P = List.replicate (lb + 1) (-1) := replicate_of hPl (fun j hj => hP.out j (by omega))
        subst hPr
        clear hPl hP
        go_wp2
        have HT2 := Lib.hid HT.out
        clear HT c0 c1 c2 c3 c4 c5 t0 t1 HT0
        go_loopw [6, 7] (fun vp i wr => ∃ (k : Nat) (p : Int) (P Q : List Int), k ≤ ol ∧ i = .int .i64 k ∧ vp = .int .i64 p ∧ 0 ≤ p ∧ p ≤ (k : Int) ∧ P.length = lb + 1 ∧ Q.length = ol ∧ Hid (OC.plc ops 0 (List.replicate (lb + 1) (-1)) = OC.plc (ops.drop k) k P) ∧ Hid (OC.prc 0 ops = Q.take k ++ OC.prc p (ops.drop k)) ∧ Hid (∀ z ∈ P, z < (k : Int)) ∧ TabAt w wr ⟨name, data, ops, globals, procs, (lb : Int)⟩ da oa ga dl dc ol oc gl gc gp gq bt P Q) (fun _ i _ => ol - (intOf i).toNat)
        case atStart => exact ⟨0, 0, List.replicate (lb + 1) (-1), List.replicate ol 0, Nat.zero_le _, rfl, rfl, by omega, by omega, by simp, by simp, (rfl : OC.plc ops 0 _ = _), (by show OC.prc 0 ops = _; simp), (by intro z hz; have := List.eq_of_mem_replicate hz; omega), HT2.out⟩
        case round =>
          clear HT2
          obtain ⟨k, p, P, Q, hk, rfl, rfl, hp1, hp2, hPl, hQl, hpl, hpr, hpz, htab⟩ := hrel
          have HT := Lib.hid htab
          obtain ⟨⟨c0, c1, c2, c3, c4, c5⟩, ⟨t0, t1⟩, ⟨u, v, r0, r1⟩, hfr, _, _, n1, n2, n3, l1, l2, l3, hbl⟩ := htab
          rw [hPl] at t0
          rw [hQl] at t1
          have f0 := hfr 0
          have f1 := hfr 1
          have m1 : ¬ gq = gp := fun e => n1 e.symm
          have m2 : ¬ gp = gq := n1
          have m3 : ¬ gq = bt := n3
          have m4 : ¬ gp = bt := n2
          have m5 : ¬ gq = w.heap.size := by omega
          have m6 : ¬ gp = w.heap.size := by omega
          have m7 : ¬ gq = w.heap.size + 1 := by omega
          have m8 : ¬ gp = w.heap.size + 1 := by omega
          have m9 : ¬ w.heap.size + 1 = bt := by omega
          have HPL := Lib.hid hPl
          have HQL := Lib.hid hQl
          clear hfr n1 n2 n3
          by_cases hlt : k < ol
          · obtain ⟨hx1, b, off, rfl, hat⟩ := HC.out.ops.get hlt
            clear hx1
            have hbw : b < w.heap.size := World.block_lt_of_cell? _ _ hat.1
            obtain ⟨h0, h1, h2⟩ := hat.keep hbl
            have hkl : k < ops.length := by rw [← HO.out]; exact hlt
            have hd := dropAt (d := OC.oz) hkl
            have hnb := HN.out _ (getD_map_range ops OC.oz hkl)
            generalize ops.getD k OC.oz = x at *
            obtain ⟨op, n, m⟩ := x
            dsimp only at h0 h1 h2 hnb
            have m10 : ¬ gq = b := by omega
            have m11 : ¬ gp = b := by omega
            have k1 : (k : Int) < (ol : Int) := by omega
            have k2 : k ≤ 40100 := by omega
            obtain ⟨q1, q2⟩ := HT.out.qcell (j := k) (by omega)
            clear hPl hQl
            have HPZ : Hid (∀ z ∈ P, z < ((k + 1 : Nat) : Int)) := by intro z hz; have := hpz.out z hz; omega
            have QS : ∀ z : Int, (Q.set k z).length = ol := fun z => by rw [List.length_set]; exact HQL.out
            have HQS := Lib.hid QS
            have TS : ∀ (z : Int) (r : List Int), (Q.set k z).take (k + 1) ++ r = Q.take k ++ (z :: r) := fun z r => by
              rw [List.take_succ_eq_append_getElem (by rw [List.length_set, HQL.out]; exact hlt)]
              rw [List.take_set_of_le (Nat.le_refl k)]
              simp
            have HTS := Lib.hid TS
            clear QS TS
            by_cases h24 : op = 24
            · subst h24
              have HPR : Hid (OC.prc 0 ops = (Q.set k (p + 1)).take (k + 1) ++ OC.prc (p + 1) (ops.drop (k + 1))) := by
                show _ = _
                rw [HTS.out, hpr.out, hd, OC.prc]; simp
              have HPP : Hid (OC.plc ops 0 (List.replicate (lb + 1) (-1)) = OC.plc (ops.drop (k + 1)) (k + 1) P) := by
                show _ = _
                rw [hpl.out, hd, OC.plc]; simp
              clear hd hpr hpl hnb
              go_wp2
              go_roundw
              case rel => exact ⟨k + 1, p + 1, P, Q.set k (p + 1), by omega, by go_num, rfl, by omega, by omega, HPL.out, HQS.out _, HPP, HPR, HPZ.out, HT.out.proc k (p + 1)⟩
              case measure => simp [intOf]; omega
            · have e24 : (op == 24) = false := by simpa using h24
              have HPR : Hid (OC.prc 0 ops = (Q.set k p).take (k + 1) ++ OC.prc p (ops.drop (k + 1))) := by
                show _ = _
                rw [HTS.out, hpr.out, hd, OC.prc]; simp [h24]
              by_cases h19 : op = 19
              · subst h19
                have hnl := numB_lab hnb
                obtain ⟨hn1, hn2⟩ := hnl
                obtain ⟨Ln, hLn⟩ : ∃ Ln : Nat, n = (Ln : Int) := ⟨n.toNat, by omega⟩
                subst hLn
                obtain ⟨p1, p2⟩ := HT.out.pcell (j := Ln) (by rw [HPL.out]; omega)
                have hl3 : (Ln : Int) < ((lb + 1 : Nat) : Int) := by omega
                have hl4 : (0 : Int) ≤ (Ln : Int) := by omega
                by_cases hz : 0 ≤ P.getD Ln 0
                · have HPP : Hid (OC.plc ops 0 (List.replicate (lb + 1) (-1)) = none) := by
                    show _ = _
                    rw [hpl.out, hd, OC.plc]
                    rw [getD_two 0 (-1) (by rw [HPL.out]; omega)] at hz
                    simp [hz, -List.getD_eq_getElem?_getD]
                  have hz2 : decide (0 ≤ P.getD Ln 0) = true := by simpa using hz
                  generalize P.getD Ln 0 = z at *
                  clear hd hpr hpl hnb e24 h24
                  go_wp2
                  go_quiet (fail)
                  go_wp2
                  exact bodyPost_ret (v := .tuple #[.agg #[.slice (some ⟨gp, 0, none⟩) (lb + 1) (lb + 1), .slice (some ⟨gq, 0, none⟩) ol ol], .bool false]) (by simp [results, Tryd.results46, go_sem, r0, r1]) rfl ⟨placed_none HE0.out HPP.out rfl, ((below_drewN (hbl.setCell (p := ⟨gq, k, none⟩) (by show w.heap.size ≤ gq; omega) _) _).setCell (p := ⟨w.heap.size + 1, 0, none⟩) (by show w.heap.size ≤ w.heap.size + 1; omega) _).setCell (p := ⟨w.heap.size + 1, 1, none⟩) (by show w.heap.size ≤ w.heap.size + 1; omega) _⟩
                · have HPP : Hid (OC.plc ops 0 (List.replicate (lb + 1) (-1)) = OC.plc (ops.drop (k + 1)) (k + 1) (P.set Ln (k : Int))) := by
                    show _ = _
                    rw [hpl.out, hd, OC.plc]
                    rw [getD_two 0 (-1) (by rw [HPL.out]; omega)] at hz
                    simp [hz, -List.getD_eq_getElem?_getD]
                  have hz2 : decide (0 ≤ P.getD Ln 0) = false := by simpa using hz
                  generalize P.getD Ln 0 = z at *
                  clear hd hpr hpl hnb e24 h24
                  go_wp2
                  go_quiet (fail)
                  go_wp2
                  generalize hW2 : World.drewN (wr.setCell ⟨gq, k, none⟩ (.int .i64 p)) _ = W2
                  have hbW : Below wr.heap.size (wr.setCell ⟨gq, k, none⟩ (.int .i64 p)) W2 := by rw [← hW2]; exact below_drewN (Below.refl _ _) _
                  have d2 : W2.cell? ⟨w.heap.size, 2, none⟩ = some (.slice (some ⟨b, off, none⟩) ol oc) := by rw [← hW2]; exact (set_other _ _ _ _ _ _ (by omega)).trans c2
                  have d0 : W2.cell? ⟨bt, 0, none⟩ = some (.slice (some ⟨gp, 0, none⟩) (lb + 1) (lb + 1)) := by rw [← hW2]; exact (set_other _ _ _ _ _ _ (by omega)).trans t0
                  have dn : W2.cell? ⟨b, off + k * 3 + 1, none⟩ = some (.int .i64 (Ln : Int)) := by rw [← hW2]; exact (set_other _ _ _ _ _ _ (by omega)).trans h1
                  have dp : W2.cell? ⟨gp, Ln, none⟩ = some (.int .i64 z) := by rw [← hW2]; exact (set_other _ _ _ _ _ _ (by omega)).trans p1
                  have df : W2.frozen? ⟨gp, Ln, none⟩ = false := by rw [← hW2]; show (wr.setCell _ _).frozen? _ = _; rw [World.frozen?_setCell]; exact p2
                  have HTW : Hid (TabAt w W2 ⟨name, data, ops, globals, procs, (lb : Int)⟩ da (some ⟨b, off, none⟩) ga dl dc ol oc gl gc gp gq bt P (Q.set k p)) := by rw [← hW2]; exact (HT.out.proc k p).keep (below_drewN (Below.refl _ _) _)
                  clear hW2 hbW
                  have l9 : (Ln : Int) < (lb : Int) + 1 := by omega
                  have l9n : Ln < lb + 1 := by omega
                  go_still_tail 10, (by kernel_rfl)
                  change wpList _ _ _ _ _ W2.drew
                  have HPZ2 : Hid (∀ z ∈ P.set Ln (k : Int), z < ((k + 1 : Nat) : Int)) := by
                    intro z hz
                    rcases List.mem_or_eq_of_mem_set hz with h | h
                    · have := HPZ.out z h; omega
                    · omega
                  go_wp2
                  go_roundw
                  case rel => exact ⟨k + 1, p, P.set Ln (k : Int), Q.set k p, by omega, by go_num, rfl, by omega, by omega, by rw [List.length_set]; exact HPL.out, HQS.out _, HPP, HPR, HPZ2.out, (HTW.out.keep (below_drewN (Below.refl _ _) 1)).place Ln (k : Int)⟩
                  case measure => simp [intOf]; omega
              · have e19 : (op == 19) = false := by simpa using h19
                have HPP : Hid (OC.plc ops 0 (List.replicate (lb + 1) (-1)) = OC.plc (ops.drop (k + 1)) (k + 1) P) := by
                  show _ = _
                  rw [hpl.out, hd, OC.plc]; simp [h19]
                clear hd hpr hpl hnb h24 h19
                go_wp2
                go_roundw
                case rel => exact ⟨k + 1, p, P, Q.set k p, by omega, by go_num, rfl, by omega, by omega, HPL.out, HQS.out _, HPP, HPR, HPZ.out, HT.out.proc k p⟩
                case measure => simp [intOf]; omega
          · obtain rfl : ol = k := by omega
            have HE1 : Hid (OC.plc ops 0 (List.replicate (lb + 1) (-1)) = some P) := by
              show _ = _
              rw [hpl.out, List.drop_eq_nil_of_le (by rw [← HO.out]; exact Nat.le_refl _)]; rfl
            have HE2 : Hid (OC.prc 0 ops = Q) := by
              show _ = _
              rw [hpr.out, List.drop_eq_nil_of_le (by rw [← HO.out]; exact Nat.le_refl _), List.take_of_length_le (by rw [HQL.out]; exact Nat.le_refl _)]; simp [OC.prc]
            have HT3 := Lib.hid HT.out
            have HPZ := Lib.hid hpz.out
            clear hpl hpr hpz hPl hQl hlt
            go_wp2
            clear HT c0 c1 c2 c3 c4 c5 t0 t1 r0 r1 f0 f1
            go_loopw [8] (fun i wr => ∃ (j : Nat), j ≤ ol ∧ i = .int .i64 j ∧ Hid (OC.namedB P Q ops Q = OC.namedB P Q (ops.drop j) (Q.drop j)) ∧ TabAt w wr ⟨name, data, ops, globals, procs, (lb : Int)⟩ da oa ga dl dc ol oc gl gc gp gq bt P Q) (fun i _ => ol - (intOf i).toNat)
            case atStart => exact ⟨0, Nat.zero_le _, rfl, (rfl : OC.namedB P Q ops Q = _), HT3.out⟩
            case round =>
              clear HT3
              obtain ⟨j, hj, rfl, hnm, htab⟩ := hrel
              have HT := Lib.hid htab
              obtain ⟨⟨c0, c1, c2, c3, c4, c5⟩, ⟨t0, t1⟩, ⟨u, v, r0, r1⟩, hfr, hoP, hoQ, n1, n2, n3, l1, l2, l3, hbl⟩ := htab
              have sP : gp < wr.heap.size := (hoP.lt _ rfl).2
              have sQ : gq < wr.heap.size := (hoQ.lt _ rfl).2
              have sT : bt < wr.heap.size := World.block_lt_of_cell? _ _ t0
              have sR : w.heap.size + 1 < wr.heap.size := World.block_lt_of_cell? _ _ r0
              have sC : w.heap.size < wr.heap.size := by omega
              rw [HPL.out] at t0
              rw [HQL.out] at t1
              have f0 := hfr 0
              have f1 := hfr 1
              clear hfr n1 n2 n3 hoP hoQ
              by_cases hlt : j < ol
              · obtain ⟨hx1, b, off, rfl, hat⟩ := HC.out.ops.get hlt
                clear hx1
                have hbw : b < w.heap.size := World.block_lt_of_cell? _ _ hat.1
                have sB : b < wr.heap.size := by omega
                obtain ⟨h0, h1, h2⟩ := hat.keep hbl
                have hkl : j < ops.length := by rw [← HO.out]; exact hlt
                have hd := dropAt (d := OC.oz) hkl
                have hdq := dropAt (d := (0 : Int)) (l := Q) (k := j) (by rw [HQL.out]; exact hlt)
                have hnb := HN.out _ (getD_map_range ops OC.oz hkl)
                generalize ops.getD j OC.oz = x at *
                obtain ⟨q1, q2⟩ := HT.out.qcell (j := j) (by rw [HQL.out]; exact hlt)
                obtain ⟨L, hL⟩ : ∃ L, OC.label x = L := ⟨_, rfl⟩
                obtain ⟨y, hy⟩ : ∃ y, Q.getD j 0 = y := ⟨_, rfl⟩
                rw [hy] at q1 hdq
                have HY := Lib.hid hy
                have HLA : Hid (∀ W, Calls Tryd.prog 36 #[opVal x] W fun e w' => e = .returned (.int .i64 L) ∧ Below W.heap.size W w') := fun W => by have h := labelR_c x W; rwa [hL] at h
                have hlb := numB_label hnb
                dsimp only at hlb
                rw [hL] at hlb
                obtain ⟨op, n, m⟩ := x
                dsimp only at h0 h1 h2
                have k1 : (j : Int) < (ol : Int) := by omega
                by_cases hL0 : 0 < L
                · obtain ⟨Ln, hLn⟩ : ∃ Ln : Nat, L = (Ln : Int) := ⟨L.toNat, by omega⟩
                  subst hLn
                  have hLn1 : Ln < lb + 1 := by omega
                  obtain ⟨p1, p2⟩ := HT.out.pcell (j := Ln) (by rw [HPL.out]; exact hLn1)
                  have e12 : P.getD Ln (-1) = P.getD Ln 0 := getD_two (-1) 0 (by rw [HPL.out]; exact hLn1)
                  have hpz := HPZ.out (P.getD Ln 0) (getD_map_range P 0 (by rw [HPL.out]; exact hLn1))
                  obtain ⟨z, hz⟩ : ∃ z, P.getD Ln 0 = z := ⟨_, rfl⟩
                  rw [hz] at p1 e12 hpz
                  have l5 : (Ln : Int) < ((lb + 1 : Nat) : Int) := by omega
                  have l6 : (0 : Int) < (Ln : Int) := by omega
                  have l6n : 0 < Ln := by omega
                  by_cases hz0 : z < 0
                  · have hfail : Hid (OC.namedB P Q ops Q = false) := by
                      show _ = _
                      rw [hnm.out, hd, hdq, OC.namedB, hL]
                      have : ¬ 0 ≤ z := by omega
                      have e3 : ¬ (Ln : Int) ≤ 0 := by omega
                      have e4 : Ln ≠ 0 := by omega
                      rw [Int.toNat_natCast, e12]
                      simp [this, e4]
                    clear hd hdq hnm hnb hlb hL hz hy hpz e12 hL0
                    go_wp2_with (go_at_call 36; refine (HLA.out _).mono ?_; rintro e w1 ⟨rfl, hb1⟩; obtain ⟨hcc1, hff1⟩ := bcell hb1)
                    go_quiet (fail)
                    go_wp2_with (go_at_call 36; refine (HLA.out _).mono ?_; rintro e w1 ⟨rfl, hb1⟩; obtain ⟨hcc1, hff1⟩ := bcell hb1)
                    exact bodyPost_ret (v := .tuple #[.agg #[.slice (some ⟨gp, 0, none⟩) (lb + 1) (lb + 1), .slice (some ⟨gq, 0, none⟩) ol ol], .bool false]) (by simp [results, Tryd.results46, go_sem, *]) rfl ⟨placed_no HE0.out HE1.out HE2.out hfail.out rfl, ((below_drewN (below_then hbl hb1) _).setCell (p := ⟨w.heap.size + 1, 0, none⟩) (by show w.heap.size ≤ w.heap.size + 1; omega) _).setCell (p := ⟨w.heap.size + 1, 1, none⟩) (by show w.heap.size ≤ w.heap.size + 1; omega) _⟩
                  · obtain ⟨Zn, hZn⟩ : ∃ Zn : Nat, z = (Zn : Int) := ⟨z.toNat, by omega⟩
                    subst hZn
                    obtain ⟨q3, q4⟩ := HT.out.qcell (j := Zn) (by rw [HQL.out]; omega)
                    obtain ⟨y2, hy2⟩ : ∃ y2, Q.getD Zn 0 = y2 := ⟨_, rfl⟩
                    rw [hy2] at q3
                    have l7 : (Zn : Int) < (ol : Int) := by omega
                    have l8 : (0 : Int) ≤ (Zn : Int) := by omega
                    have l9 : decide ((Zn : Int) < 0) = false := by rw [decide_eq_false_iff_not]; omega
                    by_cases hyy : y2 = y
                    · subst hyy
                      have hnext : Hid (OC.namedB P Q ops Q = OC.namedB P Q (ops.drop (j + 1)) (Q.drop (j + 1))) := by
                        show _ = _
                        rw [hnm.out, hd, hdq, OC.namedB, hL]
                        have e3 : ¬ (Ln : Int) ≤ 0 := by omega
                        have e4 : Ln ≠ 0 := by omega
                        rw [Int.toNat_natCast, e12]
                        simp [e4, hy2, -List.getD_eq_getElem?_getD]
                      clear hd hdq hnm hnb hlb hL hz hy hpz e12 hL0 hy2
                      go_wp2_with (go_at_call 36; refine (HLA.out _).mono ?_; rintro e w1 ⟨rfl, hb1⟩; obtain ⟨hcc1, hff1⟩ := bcell hb1)
                      go_quiet (fail)
                      go_wp2_with (go_at_call 36; refine (HLA.out _).mono ?_; rintro e w1 ⟨rfl, hb1⟩; obtain ⟨hcc1, hff1⟩ := bcell hb1)
                      go_roundw
                      case rel => exact ⟨j + 1, by omega, by go_num, hnext, TabAt.keep HT.out (by repeat (first | exact hb1 | refine below_drewN ?_ _))⟩
                      case measure => simp [intOf]; omega
                    · have hyy2 : (y2 != y) = true := by simpa using hyy
                      have hfail : Hid (OC.namedB P Q ops Q = false) := by
                        show _ = _
                        rw [hnm.out, hd, hdq, OC.namedB, hL]
                        have e3 : ¬ (Ln : Int) ≤ 0 := by omega
                        have e4 : Ln ≠ 0 := by omega
                        rw [Int.toNat_natCast, e12]
                        simp [e4, hy2, hyy, -List.getD_eq_getElem?_getD]
                      clear hd hdq hnm hnb hlb hL hz hy hpz e12 hL0 hy2 hyy
                      go_wp2_with (go_at_call 36; refine (HLA.out _).mono ?_; rintro e w1 ⟨rfl, hb1⟩; obtain ⟨hcc1, hff1⟩ := bcell hb1)
                      go_quiet (fail)
                      go_wp2_with (go_at_call 36; refine (HLA.out _).mono ?_; rintro e w1 ⟨rfl, hb1⟩; obtain ⟨hcc1, hff1⟩ := bcell hb1)
                      exact bodyPost_ret (v := .tuple #[.agg #[.slice (some ⟨gp, 0, none⟩) (lb + 1) (lb + 1), .slice (some ⟨gq, 0, none⟩) ol ol], .bool false]) (by simp [results, Tryd.results46, go_sem, *]) rfl ⟨placed_no HE0.out HE1.out HE2.out hfail.out rfl, ((below_drewN (below_then hbl hb1) _).setCell (p := ⟨w.heap.size + 1, 0, none⟩) (by show w.heap.size ≤ w.heap.size + 1; omega) _).setCell (p := ⟨w.heap.size + 1, 1, none⟩) (by show w.heap.size ≤ w.heap.size + 1; omega) _⟩
                · have hL1 : decide (0 < L) = false := by simpa using hL0
                  have hnext : Hid (OC.namedB P Q ops Q = OC.namedB P Q (ops.drop (j + 1)) (Q.drop (j + 1))) := by
                    show _ = _
                    rw [hnm.out, hd, hdq, OC.namedB, hL]
                    have e3 : L ≤ 0 := by omega
                    simp [e3]
                  clear hd hdq hnm hnb hlb hL hy hL0
                  go_wp2_with (go_at_call 36; refine (HLA.out _).mono ?_; rintro e w1 ⟨rfl, hb1⟩; obtain ⟨hcc1, hff1⟩ := bcell hb1)
                  go_quiet (fail)
                  go_wp2_with (go_at_call 36; refine (HLA.out _).mono ?_; rintro e w1 ⟨rfl, hb1⟩; obtain ⟨hcc1, hff1⟩ := bcell hb1)
                  go_roundw
                  case rel => exact ⟨j + 1, by omega, by go_num, hnext, TabAt.keep HT.out (by repeat (first | exact hb1 | refine below_drewN ?_ _))⟩
                  case measure => simp [intOf]; omega
              · obtain rfl : ol = j := by omega
                have hyes : Hid (OC.namedB P Q ops Q = true) := by
                  show _ = _
                  rw [hnm.out, List.drop_eq_nil_of_le (by rw [← HO.out]; exact Nat.le_refl _)]; simp [OC.namedB]
                clear hnm
                go_wp2
                exact bodyPost_ret (v := .tuple #[.agg #[.slice (some ⟨gp, 0, none⟩) (lb + 1) (lb + 1), .slice (some ⟨gq, 0, none⟩) ol ol], .bool true]) (by simp [results, Tryd.results46, go_sem, *]) rfl ⟨placed_yes HE0.out HE1.out HE2.out hyes.out HPL.out rfl (own_set2 (by have h := HT.out.2.2.2.2.1; rwa [HPL.out] at h) (by simp [Value.ownBlock]; omega) _ _ _ _) (by rw [HPL.out]; omega), ((hbl).setCell (p := ⟨w.heap.size + 1, 0, none⟩) (by show w.heap.size ≤ w.heap.size + 1; omega) _).setCell (p := ⟨w.heap.size + 1, 1, none⟩) (by show w.heap.size ≤ w.heap.size + 1; omega) _⟩
end Go.Proofs.YthlakfgpmggceaaDoor
