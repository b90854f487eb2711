/- Where labels lie, and whether those that are named are there, in the document's words. -/
import Derived.Test.YtfnkafnjpldaoaaDoorOcDp
import Derived.OwnWalk
import Derived.OneCell
import Derived.Deep.RegionHeld3
import Derived.Deep.Cut
import Derived.StillTailTactics
namespace Go.Proofs.YtfnkafnjpldaoaaDoor
open Go.RowKit
set_option linter.unusedVariables false
set_option linter.unusedSimpArgs false
theorem int_info : (Tryd.prog.info? 3).map (fun i => (i.zero, i.size, i.bytes)) = some (some (.int .i64 0), 1, 8) := by kernel_rfl
theorem upon_make_full {P : Program} {W : World} {o : Oper} {a : Act} {K : Act → World → Prop} {Q : Exit → Act → World → Prop} (t : TypeId) (L C : Value)
    (base : Nat) (e : TypeId) (i : TypeInfo) (z : Value) (size : Nat) (h1 : P.underlying t = some (.slice e)) (h2 : P.info? e = some i) (h3 : i.zero = some z) (h4 : i.size = size)
    (n : Nat) (hL : L = .int .i64 (n : Int)) (hC : C = .int .i64 (n : Int)) (b2 : i.bytes * n ≤ 281474976710656) (b3 : n ≤ maxLen) (b4 : base ≤ W.heap.size)
    (hK : ∀ w', w'.ownsRow base e size (.slice (some ⟨W.heap.size, 0, none⟩) n n) n (madeCells z.cells (n * size)).toList → W.grownBy w' none → K (a.put o.dst (.slice (some ⟨W.heap.size, 0, none⟩) n n)) w') :
    Oper.upon P o a K Q ((Sem.run P (Instr.makeSlice t L C) W).andThen fun v w' => Result.ok (Next.value v) w') := by
  obtain ⟨w', hrun, r1, r2⟩ := run_make_full (P := P) W base t e i z size h1 h2 h3 h4 .i64 .i64 n b2 b3 b4
  subst hL
  subst hC
  rw [hrun]
  exact hK w' r1 r2
theorem below_grown {w w' : World} (hg : w.grownBy w' none) : Below w.heap.size w w' := (Below.refl _ _).grown hg (Nat.le_refl _) (fun k e => by cases e)
/-- the tables on their way: the box of the code, the result's block, the tables' block with the rows of places and procedures -/
def Tables (w wr : World) (c : OC.Code) (da oa ga : Option Addr) (dl dc ol oc gl gc : Nat) (s4 : Value) (P Q : List Int) : Prop :=
  ∃ gp gq bt, s4 = .pointer (some ⟨bt, 0, none⟩) ∧ BoxC wr w.heap.size c da oa ga dl dc ol oc gl gc ∧ BoxT wr bt (some ⟨gp, 0, none⟩) P.length P.length (.slice (some ⟨gq, 0, none⟩) Q.length Q.length) ∧
    (∃ u v, wr.cell? ⟨w.heap.size + 1, 0, none⟩ = some u ∧ wr.cell? ⟨w.heap.size + 1, 1, none⟩ = some v) ∧ (∀ j, wr.frozen? ⟨w.heap.size + 1, j, none⟩ = false) ∧
    wr.ownsRow 0 3 1 (.slice (some ⟨gp, 0, none⟩) P.length P.length) P.length (P.map (.int .i64)) ∧ wr.ownsRow 0 3 1 (.slice (some ⟨gq, 0, none⟩) Q.length Q.length) Q.length (Q.map (.int .i64)) ∧
    gp ≠ gq ∧ gp ≠ bt ∧ gq ≠ bt ∧ w.heap.size + 1 < gp ∧ w.heap.size + 1 < gq ∧ w.heap.size + 1 < bt ∧ Below w.heap.size w wr
def Base (w W : World) (c : OC.Code) (da oa ga : Option Addr) (dl dc ol oc gl gc : Nat) : Prop :=
  BoxC W w.heap.size c da oa ga dl dc ol oc gl gc ∧ (∃ u v, W.cell? ⟨w.heap.size + 1, 0, none⟩ = some u ∧ W.cell? ⟨w.heap.size + 1, 1, none⟩ = some v) ∧ (∀ j, W.frozen? ⟨w.heap.size + 1, j, none⟩ = false) ∧ Below w.heap.size w W
theorem Base.keep {w W W' : World} {c : OC.Code} {da oa ga : Option Addr} {dl dc ol oc gl gc : Nat} (h : Base w W c da oa ga dl dc ol oc gl gc) (hb : Below W.heap.size W W') : Base w W' c da oa ga dl dc ol oc gl gc := by
  obtain ⟨h1, ⟨u, v, h2, h3⟩, h4, h5⟩ := h
  have hl := World.block_lt_of_cell? _ _ h2
  refine ⟨h1.keep hb h1.lt, ⟨u, v, (hb.cell (p := ⟨w.heap.size + 1, 0, none⟩) hl).trans h2, (hb.cell (p := ⟨w.heap.size + 1, 1, none⟩) hl).trans h3⟩, fun j => (hb.frozen (p := ⟨w.heap.size + 1, j, none⟩) hl).trans (h4 j), below_then h5 hb⟩
theorem Base.start (w : World) (c : OC.Code) (da oa ga : Option Addr) (dl dc ol oc gl gc : Nat) (T S : TypeId) (u v : Value) :
    Base w ((w.alloc (.cells #[.string ⟨c.name.toArray⟩, .slice da dl dc, .slice oa ol oc, .slice ga gl gc, .int .i64 c.procs, .int .i64 c.labels] T)).alloc (.cells #[u, v] S)) c da oa ga dl dc ol oc gl gc := by
  have e : (w.alloc (.cells #[.string ⟨c.name.toArray⟩, .slice da dl dc, .slice oa ol oc, .slice ga gl gc, .int .i64 c.procs, .int .i64 c.labels] T)).heap.size = w.heap.size + 1 := by simp
  refine ⟨(BoxC.new w c da oa ga dl dc ol oc gl gc T).keep (below_alloc _ _) (by simp), ⟨u, v, ?_, ?_⟩, fun j => ?_, below_then (below_alloc _ _) (below_alloc _ _)⟩
  · rw [← e]; exact (World.cell?_alloc_at _ _ _ _ rfl).trans rfl
  · rw [← e]; exact (World.cell?_alloc_at _ _ _ _ rfl).trans rfl
  · rw [← e]; simp
abbrev zeros (n : Nat) : List Value := (madeCells (Value.int .i64 0).cells (n * 1)).toList
theorem zeros_eq (n : Nat) : zeros n = (List.replicate n (0 : Int)).map (.int .i64) := by
  show (madeCells #[Value.int .i64 0] (n * 1)).toList = _
  rw [Nat.mul_one, toList_madeCells_one, List.map_replicate]
theorem tablesA {w W : World} {c : OC.Code} {da oa ga : Option Addr} {dl dc ol oc gl gc gp gq n m : Nat} (T : TypeId) (h : Base w W c da oa ga dl dc ol oc gl gc)
    (hP : W.ownsRow 0 3 1 (.slice (some ⟨gp, 0, none⟩) n n) n (zeros n)) (hQ : W.ownsRow 0 3 1 (.slice (some ⟨gq, 0, none⟩) m m) m (zeros m)) (h1 : gp ≠ gq) (h2 : w.heap.size + 1 < gp) (h3 : w.heap.size + 1 < gq) :
    Tables w (W.alloc (.cells #[.slice (some ⟨gp, 0, none⟩) n n, .slice (some ⟨gq, 0, none⟩) m m] T)) c da oa ga dl dc ol oc gl gc (.pointer (some ⟨W.heap.size, 0, none⟩)) (List.replicate n 0) (List.replicate m 0) := by
  have h' := h.keep (below_alloc W (.cells #[.slice (some ⟨gp, 0, none⟩) n n, .slice (some ⟨gq, 0, none⟩) m m] T))
  obtain ⟨k1, k2, k3, k4⟩ := h'
  have lP : gp < W.heap.size := (hP.lt _ rfl).2
  have lQ : gq < W.heap.size := (hQ.lt _ rfl).2
  have hl := h.2.2.2.size
  refine ⟨gp, gq, W.heap.size, rfl, k1, ?_, k2, k3, ?_, ?_, h1, by omega, by omega, h2, h3, by omega, k4⟩
  · rw [List.length_replicate, List.length_replicate]; exact BoxT.new W _ _ _ _ _
  · rw [List.length_replicate, ← zeros_eq]; exact hP.alloc _
  · rw [List.length_replicate, ← zeros_eq]; exact hQ.alloc _
theorem tablesB {w W : World} {c : OC.Code} {da oa ga : Option Addr} {dl dc ol oc gl gc gp gq bt n m : Nat} (h : Base w W c da oa ga dl dc ol oc gl gc)
    (hP : W.ownsRow 0 3 1 (.slice (some ⟨gp, 0, none⟩) n n) n (zeros n)) (hQ : W.ownsRow 0 3 1 (.slice (some ⟨gq, 0, none⟩) m m) m (zeros m)) (h1 : gp ≠ gq) (h2 : w.heap.size + 1 < gp) (h3 : w.heap.size + 1 < gq)
    (hb : ∃ u v, W.cell? ⟨bt, 0, none⟩ = some u ∧ W.cell? ⟨bt, 1, none⟩ = some v) (h4 : gp ≠ bt) (h5 : gq ≠ bt) (h6 : w.heap.size + 1 < bt) :
    Tables w ((W.setCell ⟨bt, 0, none⟩ (.slice (some ⟨gp, 0, none⟩) n n)).setCell ⟨bt, 1, none⟩ (.slice (some ⟨gq, 0, none⟩) m m)) c da oa ga dl dc ol oc gl gc (.pointer (some ⟨bt, 0, none⟩)) (List.replicate n 0) (List.replicate m 0) := by
  obtain ⟨⟨k0, k1, k2, k3, k4, k5⟩, ⟨u, v, k6, k7⟩, k8, k9⟩ := h
  obtain ⟨u2, v2, b0, b1⟩ := hb
  have oth : ∀ (x : Nat) (j : Nat) (a b : Value), x ≠ bt → ((W.setCell ⟨bt, 0, none⟩ a).setCell ⟨bt, 1, none⟩ b).cell? ⟨x, j, none⟩ = W.cell? ⟨x, j, none⟩ := fun x j a b hx => by
    rw [World.cell?_setCell_other _ _ _ _ (by intro e; injection e with e; exact hx e.symm), World.cell?_setCell_other _ _ _ _ (by intro e; injection e with e; exact hx e.symm)]
  refine ⟨gp, gq, bt, rfl, ⟨(oth _ _ _ _ (by omega)).trans k0, (oth _ _ _ _ (by omega)).trans k1, (oth _ _ _ _ (by omega)).trans k2, (oth _ _ _ _ (by omega)).trans k3, (oth _ _ _ _ (by omega)).trans k4, (oth _ _ _ _ (by omega)).trans k5⟩, ?_, ⟨u, v, (oth _ _ _ _ (by omega)).trans k6, (oth _ _ _ _ (by omega)).trans k7⟩, fun j => ?_, ?_, ?_, h1, h4, h5, h2, h3, h6, ?_⟩
  · rw [List.length_replicate, List.length_replicate]
    constructor
    · rw [World.cell?_setCell_other _ _ _ _ (by simp)]; exact World.cell?_setCell_same (u := u2) _ _ _ b0
    · refine World.cell?_setCell_same (u := v2) _ _ _ ?_
      rw [World.cell?_setCell_other _ _ _ _ (by simp)]; exact b1
  · rw [World.frozen?_setCell, World.frozen?_setCell]; exact k8 j
  · rw [List.length_replicate, ← zeros_eq]; exact ownsRow_setCell_other (ownsRow_setCell_other hP (by simp [Value.ownBlock]; omega) _) (by simp [Value.ownBlock]; omega) _
  · rw [List.length_replicate, ← zeros_eq]; exact ownsRow_setCell_other (ownsRow_setCell_other hQ (by simp [Value.ownBlock]; omega) _) (by simp [Value.ownBlock]; omega) _
  · exact (k9.setCell (p := ⟨bt, 0, none⟩) (by show w.heap.size ≤ bt; omega) _).setCell (p := ⟨bt, 1, none⟩) (by show w.heap.size ≤ bt; omega) _
theorem own_at {w1 : World} {b e s g0 n m k : Nat} {xs : List Value} (h : w1.ownsRow b e s (.slice (some ⟨g0, 0, none⟩) n m) k xs) (g : Nat) (hg : g = g0) : w1.ownsRow b e s (.slice (some ⟨g, 0, none⟩) n m) k xs := by subst hg; exact h
/-- the tables at known blocks -/
def TabAt (w wr : World) (c : OC.Code) (da oa ga : Option Addr) (dl dc ol oc gl gc gp gq bt : Nat) (P Q : List Int) : Prop :=
  BoxC wr w.heap.size c da oa ga dl dc ol oc gl gc ∧ BoxT wr bt (some ⟨gp, 0, none⟩) P.length P.length (.slice (some ⟨gq, 0, none⟩) Q.length Q.length) ∧
    (∃ u v, wr.cell? ⟨w.heap.size + 1, 0, none⟩ = some u ∧ wr.cell? ⟨w.heap.size + 1, 1, none⟩ = some v) ∧ (∀ j, wr.frozen? ⟨w.heap.size + 1, j, none⟩ = false) ∧
    wr.ownsRow 0 3 1 (.slice (some ⟨gp, 0, none⟩) P.length P.length) P.length (P.map (.int .i64)) ∧ wr.ownsRow 0 3 1 (.slice (some ⟨gq, 0, none⟩) Q.length Q.length) Q.length (Q.map (.int .i64)) ∧
    gp ≠ gq ∧ gp ≠ bt ∧ gq ≠ bt ∧ w.heap.size + 1 < gp ∧ w.heap.size + 1 < gq ∧ w.heap.size + 1 < bt ∧ Below w.heap.size w wr
theorem Tables.at {w wr : World} {c : OC.Code} {da oa ga : Option Addr} {dl dc ol oc gl gc : Nat} {s4 : Value} {P Q : List Int} (h : Tables w wr c da oa ga dl dc ol oc gl gc s4 P Q) : ∃ gp gq bt, s4 = .pointer (some ⟨bt, 0, none⟩) ∧ TabAt w wr c da oa ga dl dc ol oc gl gc gp gq bt P Q := by
  obtain ⟨gp, gq, bt, h1, h2⟩ := h
  exact ⟨gp, gq, bt, h1, h2⟩
theorem set_other (W : World) (g j : Nat) (a : Value) (x i : Nat) (hx : x ≠ g) : (W.setCell ⟨g, j, none⟩ a).cell? ⟨x, i, none⟩ = W.cell? ⟨x, i, none⟩ :=
  World.cell?_setCell_other _ _ _ _ (by intro e; injection e with e; exact hx e.symm)
theorem TabAt.place {w wr : World} {c : OC.Code} {da oa ga : Option Addr} {dl dc ol oc gl gc gp gq bt : Nat} {P Q : List Int} (h : TabAt w wr c da oa ga dl dc ol oc gl gc gp gq bt P Q) (j : Nat) (z : Int) :
    TabAt w (wr.setCell ⟨gp, j, none⟩ (.int .i64 z)) c da oa ga dl dc ol oc gl gc gp gq bt (P.set j z) Q := by
  obtain ⟨⟨k0, k1, k2, k3, k4, k5⟩, ⟨b0, b1⟩, ⟨u, v, r0, r1⟩, fr, oP, oQ, n1, n2, n3, l1, l2, l3, bl⟩ := h
  refine ⟨⟨(set_other _ _ _ _ _ _ (by omega)).trans k0, (set_other _ _ _ _ _ _ (by omega)).trans k1, (set_other _ _ _ _ _ _ (by omega)).trans k2, (set_other _ _ _ _ _ _ (by omega)).trans k3, (set_other _ _ _ _ _ _ (by omega)).trans k4, (set_other _ _ _ _ _ _ (by omega)).trans k5⟩, ⟨?_, (set_other _ _ _ _ _ _ (by omega)).trans b1⟩, ⟨u, v, (set_other _ _ _ _ _ _ (by omega)).trans r0, (set_other _ _ _ _ _ _ (by omega)).trans r1⟩, fun i => by rw [World.frozen?_setCell]; exact fr i, ?_, ownsRow_setCell_other oQ (by simp [Value.ownBlock]; omega) _, n1, n2, n3, l1, l2, l3, bl.setCell (p := ⟨gp, j, none⟩) (by show w.heap.size ≤ gp; omega) _⟩
  · rw [List.length_set]; exact (set_other _ _ _ _ _ _ (by omega)).trans b0
  · rw [List.length_set, List.map_set]; exact (oP.stored j (.int .i64 z)).1
theorem TabAt.proc {w wr : World} {c : OC.Code} {da oa ga : Option Addr} {dl dc ol oc gl gc gp gq bt : Nat} {P Q : List Int} (h : TabAt w wr c da oa ga dl dc ol oc gl gc gp gq bt P Q) (j : Nat) (z : Int) :
    TabAt w (wr.setCell ⟨gq, j, none⟩ (.int .i64 z)) c da oa ga dl dc ol oc gl gc gp gq bt P (Q.set j z) := by
  obtain ⟨⟨k0, k1, k2, k3, k4, k5⟩, ⟨b0, b1⟩, ⟨u, v, r0, r1⟩, fr, oP, oQ, n1, n2, n3, l1, l2, l3, bl⟩ := h
  refine ⟨⟨(set_other _ _ _ _ _ _ (by omega)).trans k0, (set_other _ _ _ _ _ _ (by omega)).trans k1, (set_other _ _ _ _ _ _ (by omega)).trans k2, (set_other _ _ _ _ _ _ (by omega)).trans k3, (set_other _ _ _ _ _ _ (by omega)).trans k4, (set_other _ _ _ _ _ _ (by omega)).trans k5⟩, ⟨(set_other _ _ _ _ _ _ (by omega)).trans b0, ?_⟩, ⟨u, v, (set_other _ _ _ _ _ _ (by omega)).trans r0, (set_other _ _ _ _ _ _ (by omega)).trans r1⟩, fun i => by rw [World.frozen?_setCell]; exact fr i, ownsRow_setCell_other oP (by simp [Value.ownBlock]; omega) _, ?_, n1, n2, n3, l1, l2, l3, bl.setCell (p := ⟨gq, j, none⟩) (by show w.heap.size ≤ gq; omega) _⟩
  · rw [List.length_set]; exact (set_other _ _ _ _ _ _ (by omega)).trans b1
  · rw [List.length_set, List.map_set]; exact (oQ.stored j (.int .i64 z)).1
theorem ownsKeep {w w' : World} {base : Nat} {e : TypeId} {size : Nat} {v : Value} {n : Nat} {xs : List Value} (h : w.ownsRow base e size v n xs) (hb : Below w.heap.size w w') : w'.ownsRow base e size v n xs :=
  h.kept (row := none) ⟨hb.os, hb.tape, hb.output, hb.size, fun i hi _ => hb.block i hi⟩ (by cases v.ownBlock <;> simp)
theorem TabAt.keep {w wr w' : World} {c : OC.Code} {da oa ga : Option Addr} {dl dc ol oc gl gc gp gq bt : Nat} {P Q : List Int} (h : TabAt w wr c da oa ga dl dc ol oc gl gc gp gq bt P Q) (hb : Below wr.heap.size wr w') :
    TabAt w w' c da oa ga dl dc ol oc gl gc gp gq bt P Q := by
  obtain ⟨k, b, ⟨u, v, r0, r1⟩, fr, oP, oQ, n1, n2, n3, l1, l2, l3, bl⟩ := h
  have hl := World.block_lt_of_cell? _ _ r0
  exact ⟨k.keep hb k.lt, b.keep hb b.lt, ⟨u, v, (hb.cell (p := ⟨w.heap.size + 1, 0, none⟩) hl).trans r0, (hb.cell (p := ⟨w.heap.size + 1, 1, none⟩) hl).trans r1⟩, fun j => (hb.frozen (p := ⟨w.heap.size + 1, j, none⟩) hl).trans (fr j), ownsKeep oP hb, ownsKeep oQ hb, n1, n2, n3, l1, l2, l3, below_then bl hb⟩
theorem TabAt.pcell {w wr : World} {c : OC.Code} {da oa ga : Option Addr} {dl dc ol oc gl gc gp gq bt : Nat} {P Q : List Int} (h : TabAt w wr c da oa ga dl dc ol oc gl gc gp gq bt P Q) {j : Nat} (hj : j < P.length) : wr.cell? ⟨gp, j, none⟩ = some (.int .i64 (P.getD j 0)) ∧ wr.frozen? ⟨gp, j, none⟩ = false := by
  obtain ⟨k, b, r, fr, oP, oQ, _⟩ := h
  refine ⟨?_, oP.frozenAt j⟩
  rw [oP.cellAt j (by omega)]
  simp [hj]
theorem TabAt.qcell {w wr : World} {c : OC.Code} {da oa ga : Option Addr} {dl dc ol oc gl gc gp gq bt : Nat} {P Q : List Int} (h : TabAt w wr c da oa ga dl dc ol oc gl gc gp gq bt P Q) {j : Nat} (hj : j < Q.length) : wr.cell? ⟨gq, j, none⟩ = some (.int .i64 (Q.getD j 0)) ∧ wr.frozen? ⟨gq, j, none⟩ = false := by
  obtain ⟨k, b, r, fr, oP, oQ, _⟩ := h
  refine ⟨?_, oQ.frozenAt j⟩
  rw [oQ.cellAt j (by omega)]
  simp [hj]
theorem replicate_of {P : List Int} {n : Nat} (hl : P.length = n) (h : ∀ j, j < n → P.getD j 0 = -1) : P = List.replicate n (-1) := by
  apply List.ext_getElem?
  intro j
  by_cases hj : j < n
  · have := h j hj
    rw [getD_at (by omega)] at this
    rw [List.getElem?_eq_getElem (by omega), this, List.getElem?_replicate, if_pos hj]
  · rw [List.getElem?_eq_none (by omega), List.getElem?_eq_none (by simp; omega)]
theorem numB_lab {nd procs labels n m : Int} (h : OC.numB nd procs labels ⟨19, n, m⟩ = true) : 1 ≤ n ∧ n ≤ labels := by
  unfold OC.numB at h
  simp [OC.inB] at h
  omega
theorem TabAt.drawn {w W : World} {n : Nat} {c : OC.Code} {da oa ga : Option Addr} {dl dc ol oc gl gc gp gq bt : Nat} {P Q : List Int} (h : TabAt w W c da oa ga dl dc ol oc gl gc gp gq bt P Q) (j : Nat) (z : Int) :
    TabAt w (((W.drewN n).drew).setCell ⟨gp, j, none⟩ (.int .i64 z)) c da oa ga dl dc ol oc gl gc gp gq bt (P.set j z) Q :=
  (h.keep (below_drewN (below_drewN (Below.refl _ _) n) 1)).place j z
theorem own_set2 {w : World} {base : Nat} {e : TypeId} {size : Nat} {v : Value} {n : Nat} {xs : List Value} (h : w.ownsRow base e size v n xs) {g : Nat} (hg : v.ownBlock ≠ some g) (i j : Nat) (a b : Value) : ((w.setCell ⟨g, i, none⟩ a).setCell ⟨g, j, none⟩ b).ownsRow base e size v n xs :=
  ownsRow_setCell_other (ownsRow_setCell_other h (a := ⟨g, i, none⟩) hg a) (a := ⟨g, j, none⟩) hg b
theorem getD_set {P : List Int} {j i : Nat} {z d : Int} (hj : j < P.length) : (P.set j z).getD i d = if i = j then z else P.getD i d := by
  by_cases h : i = j
  · subst h; rw [if_pos rfl]; simp [hj]
  · rw [if_neg h]; simp [Ne.symm h]
/-- what the tables of labels are -/
def PlacedR (c : OC.Code) (e : Ending) (w : World) : Prop :=
  match OC.plc c.ops 0 (OC.t0 c) with
  | none => ∃ a n m b k l, e = .returned (.tuple #[.agg #[.slice a n m, .slice b k l], .bool false])
  | some t => if OC.namedB t (OC.prc 0 c.ops) c.ops (OC.prc 0 c.ops) = true then ∃ ta tc b k l, e = .returned (.tuple #[.agg #[.slice ta t.length tc, .slice b k l], .bool true]) ∧ Rd .i64 w (.slice ta t.length tc) t else ∃ a n m b k l, e = .returned (.tuple #[.agg #[.slice a n m, .slice b k l], .bool false])
theorem placed_none {c : OC.Code} {T : List Int} {e : Ending} {w : World} {sa : Option Addr} {sn sm : Nat} {sb : Option Addr} {sk sl : Nat} (h0 : OC.t0 c = T) (h : OC.plc c.ops 0 T = none) (he : e = .returned (.tuple #[.agg #[.slice sa sn sm, .slice sb sk sl], .bool false])) : PlacedR c e w := by
  unfold PlacedR; rw [h0, h]; exact ⟨_, _, _, _, _, _, he⟩
theorem placed_no {c : OC.Code} {T P Q : List Int} {e : Ending} {w : World} {sa : Option Addr} {sn sm : Nat} {sb : Option Addr} {sk sl : Nat} (h0 : OC.t0 c = T) (h : OC.plc c.ops 0 T = some P) (hq : OC.prc 0 c.ops = Q) (hn : OC.namedB P Q c.ops Q = false) (he : e = .returned (.tuple #[.agg #[.slice sa sn sm, .slice sb sk sl], .bool false])) : PlacedR c e w := by
  unfold PlacedR; rw [h0, h, hq]; simp only [hn]; exact ⟨_, _, _, _, _, _, he⟩
theorem placed_yes {c : OC.Code} {T P Q : List Int} {e : Ending} {w : World} {g n cap : Nat} {sb : Option Addr} {sk sl : Nat} (h0 : OC.t0 c = T) (h : OC.plc c.ops 0 T = some P) (hq : OC.prc 0 c.ops = Q) (hn : OC.namedB P Q c.ops Q = true) (hl : P.length = n) (he : e = .returned (.tuple #[.agg #[.slice (some ⟨g, 0, none⟩) n cap, .slice sb sk sl], .bool true]))
    (hr : w.ownsRow 0 3 1 (.slice (some ⟨g, 0, none⟩) n cap) n (P.map (.int .i64))) (hb : P.length ≤ 140737488355328 := by first | assumption | omega) : PlacedR c e w := by
  unfold PlacedR; rw [h0, h, hq]; simp only [hn]
  subst hl
  exact ⟨_, _, _, _, _, he, Rd.of_owns hr hb⟩
end Go.Proofs.YtfnkafnjpldaoaaDoor
