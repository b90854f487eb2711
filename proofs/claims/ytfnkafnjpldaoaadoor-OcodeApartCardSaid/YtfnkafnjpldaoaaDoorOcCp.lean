/- Copying code. -/
import Derived.Test.YtfnkafnjpldaoaaDoorOcRw
import Derived.Test.YtfnkafnjpldaoaaDoorOcPl
import Derived.Test.YtfnkafnjpldaoaaDoorOcRo
import Derived.Test.YtfnkafnjpldaoaaDoorAppOne
import Derived.Deep.RegionHeld3
namespace Go.Proofs.YtfnkafnjpldaoaaDoor
open Go.RowKit
set_option linter.unusedVariables false
set_option linter.unusedSimpArgs false
theorem op_info : (Tryd.prog.info? 35).map (fun i => (i.zero, i.size, i.bytes)) = some (some (.agg #[.int .i64 0, .int .i64 0, .int .i64 0]), 3, 24) := by kernel_rfl
theorem ent_info : (Tryd.prog.info? 68).map (fun i => (i.zero, i.size, i.bytes)) = some (some (.agg #[.int .i64 0, .int .i64 0]), 2, 16) := by kernel_rfl
theorem dat_info : (Tryd.prog.info? 43).map (fun i => (i.zero, i.size, i.bytes)) = some (some (.agg #[.string ⟨#[]⟩, .bool false, .slice none 0 0]), 3, 48) := by kernel_rfl
/-- a list of numbers that reads, as cells -/
theorem srcC_ints {w : World} {v : Value} {xs : List Int} (h : Rd .i64 w v xs) : ∃ ad c, v = .slice ad xs.length c ∧ SrcC w ad xs.length c (xs.map (.int .i64)) := by
  obtain ⟨a, cap, rfl, hl, h⟩ := h
  refine ⟨a, cap, rfl, ?_⟩
  rcases h with rfl | ⟨b, off, rfl, hat⟩
  · cases a with
    | none => exact .inl ⟨rfl, rfl, rfl⟩
    | some p => exact .inr ⟨p, rfl, fun j u hu => by simp at hu⟩
  · refine .inr ⟨_, rfl, fun j u hu => ?_⟩
    rw [add_plain']
    have hj : j < xs.length := by have := (List.getElem?_eq_some_iff.1 hu).1; simpa using this
    rw [hat j hj]
    simp [hj] at hu
    simp [hj, hu]
set_option maxHeartbeats 1000000 in
theorem CopyInts_r (v : Value) (xs : List Int) (w : World) (h : Rd .i64 w v xs) (hl : xs.length ≤ 900000) :
    Calls Tryd.prog 19 #[v] w fun e w' => (∃ v', e = .returned v' ∧ w'.ownsRow w.heap.size 3 1 v' xs.length (xs.map (.int .i64))) ∧ Below w.heap.size w w' := by
  obtain ⟨ad, c, rfl, hs⟩ := srcC_ints h
  obtain ⟨i0, h1, h2, h3, h4⟩ := info_parts int_info
  have hI : Tryd.prog.info? 3 = some i0 ∧ i0.zero = some (.int .i64 0) ∧ i0.size = 1 ∧ i0.bytes = 8 := ⟨h1, h2, h3, h4⟩
  have HI := Lib.hid hI
  have HS := Lib.hid hs
  clear h1 h2 h3 h4 hI h hs
  have hown1 := World.ownsRow_lit (base := w.heap.size) (e := 3) (size := 1) w #[] 0 (Nat.le_refl _) (by unfold maxLen; omega) rfl
  have HL : Hid ((xs.map (Value.int .i64)).length = xs.length * 1) := by show _ = _; simp
  have HO : Hid (∀ u ∈ xs.map (Value.int .i64), u.oneCell' = true) := fun u hu => by obtain ⟨x, _, rfl⟩ := List.mem_map.1 hu; rfl
  have HK : Hid (SrcC (w.alloc (.cells #[] 3)) ad xs.length c (xs.map (.int .i64))) := by
    rcases HS.out with h | ⟨p, h1, h2⟩
    · exact .inl h
    · exact .inr ⟨p, h1, fun j u hu => ((below_alloc w _).cell (World.block_lt_of_cell? _ _ (h2 j u hu))).trans (h2 j u hu)⟩
  go_enter Tryd.func19, Tryd.ntmps19
  go_wp2_with (at_builtin; refine wpList_append_rows rfl (.tmp 3) (.tmp 4) 29 rfl w.heap.size 3 i0 (.int .i64 0) 1 8 Tryd.underlying29 HI.out (by decide) rfl (by decide) _ 0 _ rfl hown1 ad xs.length c (xs.map (.int .i64)) rfl HL.out HK.out HO.out (by omega) (by simp) ?_)
  · intro v' w' hown' hgr
    go_wp2
    go_ret
    refine ⟨⟨_, rfl, by simpa using hown'⟩, ?_⟩
    exact (below_alloc w _).grown hgr (by simp) (fun kk e => (hown1.lt kk e).1)
def datCells : List OC.Dat → List Value → List Value
  | d :: r, v :: vs => .string ⟨d.text.toArray⟩ :: .bool d.isText :: v :: datCells r vs
  | _, _ => []
theorem datCells_len : ∀ (l : List OC.Dat) (vs : List Value), vs.length = l.length → (datCells l vs).length = l.length * 3
  | [], vs, _ => by cases vs <;> rfl
  | d :: r, [], h => by simp at h
  | d :: r, v :: vs, h => by rw [datCells, List.length_cons, List.length_cons, List.length_cons, datCells_len r vs (by simpa using h), List.length_cons]; omega
theorem datCells_app : ∀ (l : List OC.Dat) (vs : List Value) (d : OC.Dat) (v : Value), vs.length = l.length → datCells (l ++ [d]) (vs ++ [v]) = datCells l vs ++ [.string ⟨d.text.toArray⟩, .bool d.isText, v]
  | [], [], d, v, _ => rfl
  | [], v :: vs, d, u, h => by simp at h
  | d :: r, [], e, u, h => by simp at h
  | d :: r, v :: vs, e, u, h => by simp only [List.cons_append, datCells]; rw [datCells_app r vs e u (by simpa using h)]
theorem datCells_at : ∀ (l : List OC.Dat) (vs : List Value) (i : Nat), vs.length = l.length → i < l.length → (datCells l vs)[i * 3]? = some (.string ⟨(l.getD i OC.dz).text.toArray⟩) ∧ (datCells l vs)[i * 3 + 1]? = some (.bool (l.getD i OC.dz).isText) ∧ (datCells l vs)[i * 3 + 2]? = some (vs.getD i (.slice none 0 0))
  | [], vs, i, _, h => by simp at h
  | d :: r, [], i, h, _ => by simp at h
  | d :: r, v :: vs, 0, _, _ => ⟨rfl, rfl, rfl⟩
  | d :: r, v :: vs, i + 1, hl, h => by
    obtain ⟨h0, h1, h2⟩ := datCells_at r vs i (by simpa using hl) (by simpa using h)
    have e : (i + 1) * 3 = i * 3 + 3 := by omega
    have e1 : (i + 1) * 3 + 1 = i * 3 + 1 + 3 := by omega
    have e2 : (i + 1) * 3 + 2 = i * 3 + 2 + 3 := by omega
    simp only [datCells]
    rw [e1, e2, e]
    simp only [List.getElem?_cons_succ, List.getD_cons_succ]
    exact ⟨h0, h1, h2⟩
theorem RdD.of_owns {w : World} {base : Nat} {e : TypeId} {v : Value} {n : Nat} {xs : List OC.Dat} {vs : List Value} (h : w.ownsRow base e 3 v n (datCells xs vs)) (hvl : vs.length = xs.length) (hxn : xs.length = n) (hr : ∀ i, i < xs.length → Rd .i64 w (vs.getD i (.slice none 0 0)) (xs.getD i OC.dz).words) (hm : n ≤ 140737488355328) : RdD w v xs := by
  subst hxn
  rcases h.2 with ⟨rfl, h0⟩ | ⟨g, cap, cur, rfl, hb, hg, hle, _⟩
  · have : xs = [] := List.length_eq_zero_iff.1 h0
    subst this; exact RdP.nil w
  · refine ⟨some ⟨g, 0, none⟩, cap, rfl, hle, ⟨hm, fun h => by cases h⟩, .inr ⟨g, 0, rfl, fun i hi => ?_⟩⟩
    obtain ⟨h0, h1, h2⟩ := datCells_at xs vs i hvl hi
    exact ⟨by rw [Nat.zero_add, h.cellAt _ (by omega)]; exact h0, by rw [Nat.zero_add, h.cellAt _ (by omega)]; exact h1, _, by rw [Nat.zero_add, h.cellAt _ (by omega)]; exact h2, hr i hi⟩
/-- a list of numbers that lies apart from a row that is one's own reads on when that row grows -/
theorem Rd.past {w w' : World} {v u : Value} {xs : List Int} (h : Rd .i64 w v xs) (hne : ∀ B, v.ownBlock = some B → u.ownBlock ≠ some B) (hc : ∀ p c, w.cell? p = some c → some p.block ≠ u.ownBlock → w'.cell? p = some c) : Rd .i64 w' v xs := by
  obtain ⟨a, cap, rfl, hl, h⟩ := h
  refine ⟨a, cap, rfl, hl, ?_⟩
  rcases h with h | ⟨b, off, rfl, hat⟩
  · exact .inl h
  · exact .inr ⟨b, off, rfl, fun i hi => hc _ _ (hat i hi) (fun e => hne b rfl e.symm)⟩
theorem Rd.set_off {w : World} {v u : Value} {g j : Nat} {xs : List Int} (h : Rd .i64 w v xs) (hne : ∀ B, v.ownBlock = some B → B ≠ g) : Rd .i64 (w.setCell ⟨g, j, none⟩ u) v xs := by
  obtain ⟨a, cap, rfl, hl, h⟩ := h
  refine ⟨a, cap, rfl, hl, ?_⟩
  rcases h with h | ⟨b, off, rfl, hat⟩
  · exact .inl h
  · exact .inr ⟨b, off, rfl, fun i hi => (set_other _ _ _ _ _ _ (hne b rfl)).trans (hat i hi)⟩
/-- the words of the areas copied so far: they read, and lie apart from the row -/
def WordsAt (base : Nat) (w : World) (row : Value) (ds : List OC.Dat) (vs : List Value) : Prop :=
  vs.length = ds.length ∧ ∀ i, i < ds.length → Rd .i64 w (vs.getD i (.slice none 0 0)) (ds.getD i OC.dz).words ∧ ∀ B, (vs.getD i (.slice none 0 0)).ownBlock = some B → base ≤ B ∧ B < w.heap.size ∧ row.ownBlock ≠ some B
theorem WordsAt.past {base : Nat} {w w' : World} {row row' : Value} {ds : List OC.Dat} {vs : List Value} (h : WordsAt base w row ds vs) (hc : ∀ p c, w.cell? p = some c → some p.block ≠ row.ownBlock → w'.cell? p = some c) (hz : w.heap.size ≤ w'.heap.size) (hn : ∀ B, B < w.heap.size → row.ownBlock ≠ some B → row'.ownBlock ≠ some B) : WordsAt base w' row' ds vs :=
  ⟨h.1, fun i hi => ⟨(h.2 i hi).1.past (fun B hB => ((h.2 i hi).2 B hB).2.2) hc, fun B hB => ⟨((h.2 i hi).2 B hB).1, by have := ((h.2 i hi).2 B hB).2.1; omega, hn B ((h.2 i hi).2 B hB).2.1 ((h.2 i hi).2 B hB).2.2⟩⟩⟩
theorem WordsAt.keep {base : Nat} {w w' : World} {row : Value} {ds : List OC.Dat} {vs : List Value} (h : WordsAt base w row ds vs) (hb : Below w.heap.size w w') : WordsAt base w' row ds vs :=
  ⟨h.1, fun i hi => ⟨(h.2 i hi).1.keep hb, fun B hB => ⟨((h.2 i hi).2 B hB).1, Nat.lt_of_lt_of_le ((h.2 i hi).2 B hB).2.1 hb.size, ((h.2 i hi).2 B hB).2.2⟩⟩⟩
theorem WordsAt.snoc {base : Nat} {w : World} {row v : Value} {ds : List OC.Dat} {vs : List Value} {d : OC.Dat} (h : WordsAt base w row ds vs) (hr : Rd .i64 w v d.words) (hv : ∀ B, v.ownBlock = some B → base ≤ B ∧ B < w.heap.size ∧ row.ownBlock ≠ some B) : WordsAt base w row (ds ++ [d]) (vs ++ [v]) := by
  refine ⟨by simp [h.1], fun i hi => ?_⟩
  rw [List.length_append] at hi
  simp only [List.length_cons, List.length_nil] at hi
  by_cases hlt : i < ds.length
  · have e1 : (vs ++ [v]).getD i (.slice none 0 0) = vs.getD i (.slice none 0 0) := by
      rw [List.getD_eq_getElem?_getD, List.getElem?_append_left (by rw [h.1]; exact hlt), ← List.getD_eq_getElem?_getD]
    have e2 : (ds ++ [d]).getD i OC.dz = ds.getD i OC.dz := by
      rw [List.getD_eq_getElem?_getD, List.getElem?_append_left hlt, ← List.getD_eq_getElem?_getD]
    rw [e1, e2]; exact h.2 i hlt
  · have hi2 : i = ds.length := by omega
    subst hi2
    have e1 : (vs ++ [v]).getD ds.length (.slice none 0 0) = v := by
      rw [← h.1, List.getD_eq_getElem?_getD, List.getElem?_append_right (Nat.le_refl _)]; simp
    have e2 : (ds ++ [d]).getD ds.length OC.dz = d := by
      rw [List.getD_eq_getElem?_getD, List.getElem?_append_right (Nat.le_refl _)]; simp
    rw [e1, e2]; exact ⟨hr, hv⟩
/-- one area is copied: what the row and the words so far are behind it -/
theorem copy_step {wr w1 : World} {O : Obj} {base k n1 sc sc1 : Nat} {sa sa1 : Option Addr} {T : TypeId} {xs vs : List Value} {ds : List OC.Dat} {x : OC.Dat} (hown : wr.ownsRow base T 3 (.slice sa k sc) k xs) (hws : WordsAt base wr (.slice sa k sc) ds vs) (hbase : base ≤ wr.heap.size)
    (hb1 : Below (wr.alloc O).heap.size (wr.alloc O) w1) (hown1 : w1.ownsRow (wr.alloc O).heap.size 3 1 (.slice sa1 n1 sc1) n1 (x.words.map (.int .i64))) (hn : x.words.length ≤ 140737488355328) :
    Below wr.heap.size wr (w1.setCell ⟨wr.heap.size, 2, none⟩ (.slice sa1 n1 sc1)) ∧ (w1.setCell ⟨wr.heap.size, 2, none⟩ (.slice sa1 n1 sc1)).ownsRow base T 3 (.slice sa k sc) k xs ∧ WordsAt base (w1.setCell ⟨wr.heap.size, 2, none⟩ (.slice sa1 n1 sc1)) (.slice sa k sc) (ds ++ [x]) (vs ++ [.slice sa1 n1 sc1]) := by
  have HBW : Below wr.heap.size wr (w1.setCell ⟨wr.heap.size, 2, none⟩ (.slice sa1 n1 sc1)) := (below_then (below_alloc wr _) hb1).setCell (Nat.le_refl _) _
  have hz1 := hb1.size
  simp at hz1
  refine ⟨HBW, owns_keep' hown HBW, (hws.keep HBW).snoc ((Rd.of_owns hown1 hn).set_off (fun B hB => by have := (hown1.lt B hB).1; simp at this; omega)) (fun B hB => ?_)⟩
  have h1 := hown1.lt B hB
  simp at h1
  refine ⟨by omega, ?_, fun e => ?_⟩
  · have h5 : w1.heap.size ≤ (w1.setCell ⟨wr.heap.size, 2, none⟩ (.slice sa1 n1 sc1)).heap.size := ((Below.refl 0 w1).setCell (p := ⟨wr.heap.size, 2, none⟩) (Nat.zero_le _) _).size
    omega
  · have h2 := (hown.lt B e).2
    omega
/-- what lies from a block on reads on -/
def Kp (base : Nat) (w w' : World) : Prop := ∀ p c, base ≤ p.block → w.cell? p = some c → w'.cell? p = some c
theorem Kp.set {base : Nat} {w w' : World} {g j : Nat} {u : Value} (h : Kp base w w') (hg : g < base) : Kp base w (w'.setCell ⟨g, j, none⟩ u) := by
  intro p c hp hc
  obtain ⟨b, o, s⟩ := p
  refine (World.cell?_setCell_other _ _ _ _ ?_).trans (h _ c hp hc)
  intro e; injection e with e; dsimp only at hp; omega
theorem Kp.grown {base : Nat} {w w' w2 : World} {O : Obj} {row : Option Nat} (h : Kp base w w') (hg : (w'.alloc O).grownBy w2 row) (hr : ∀ B, row = some B → w'.heap.size ≤ B) : Kp base w w2 := by
  intro p c hp hc
  have h1 := h p c hp hc
  have hlt := World.block_lt_of_cell? _ _ h1
  refine hg.cell (((below_alloc w' O).cell (p := p) hlt).trans h1) (fun e => ?_)
  have := hr _ e.symm
  omega
theorem RdD.kp {base : Nat} {w w' : World} {e : TypeId} {v : Value} {n : Nat} {xs : List OC.Dat} {vs : List Value} (h : w.ownsRow base e 3 v n (datCells xs vs)) (hw : WordsAt base w v xs vs) (hxn : xs.length = n) (hm : n ≤ 140737488355328) (hk : Kp base w w') : RdD w' v xs := by
  subst hxn
  rcases h.2 with ⟨rfl, h0⟩ | ⟨g, cap, cur, rfl, hb, hg, hle, _⟩
  · have : xs = [] := List.length_eq_zero_iff.1 h0
    subst this; exact RdP.nil w'
  · refine ⟨some ⟨g, 0, none⟩, cap, rfl, hle, ⟨hm, fun h => by cases h⟩, .inr ⟨g, 0, rfl, fun i hi => ?_⟩⟩
    obtain ⟨h0, h1, h2⟩ := datCells_at xs vs i hw.1 hi
    obtain ⟨hr, hB⟩ := hw.2 i hi
    refine ⟨hk _ _ hb (by rw [Nat.zero_add, h.cellAt _ (by omega)]; exact h0), hk _ _ hb (by rw [Nat.zero_add, h.cellAt _ (by omega)]; exact h1), _, hk _ _ hb (by rw [Nat.zero_add, h.cellAt _ (by omega)]; exact h2), ?_⟩
    obtain ⟨a', cap', hv, k1, k2⟩ := hr
    rw [hv] at hB ⊢
    refine ⟨a', cap', rfl, k1, ?_⟩
    rcases k2 with k2 | ⟨b2, o2, rfl, k3⟩
    · exact .inl k2
    · exact .inr ⟨b2, o2, rfl, fun j hj => hk _ _ (hB b2 rfl).1 (k3 j hj)⟩
theorem lit_kept {WA w2 : World} {T : TypeId} {row : Option Nat} (hg : (WA.alloc (.cells #[] T)).grownBy w2 row) (hr : row = some WA.heap.size) : (∀ p c, WA.cell? p = some c → w2.cell? p = some c) ∧ (∀ p, p.block < WA.heap.size → w2.frozen? p = WA.frozen? p) ∧ WA.heap.size < w2.heap.size := by
  refine ⟨fun p c hc => ?_, fun p hp => ?_, ?_⟩
  · have hlt := World.block_lt_of_cell? _ _ hc
    exact hg.cell (((below_alloc WA _).cell (p := p) hlt).trans hc) (fun e => by rw [hr] at e; injection e with e; omega)
  · have e1 : w2.frozen? p = (WA.alloc (.cells #[] T)).frozen? p := World.frozen?_of_block (hg.block p.block (by simp; omega) (fun e => by rw [hr] at e; injection e with e; omega))
    rw [e1]
    exact (below_alloc WA _).frozen hp
  · have := hg.size; simp at this; omega
/-- a cell of the box is stored: the others stay -/
theorem box_set {w : World} {b : Nat} {u0 u1 u2 u3 u4 u5 : Value} (v : Value) (h0 : w.cell? ⟨b, 0, none⟩ = some u0) (h1 : w.cell? ⟨b, 1, none⟩ = some u1) (h2 : w.cell? ⟨b, 2, none⟩ = some u2) (h3 : w.cell? ⟨b, 3, none⟩ = some u3) (h4 : w.cell? ⟨b, 4, none⟩ = some u4) (h5 : w.cell? ⟨b, 5, none⟩ = some u5) (j : Nat) (hj : j = 1 ∨ j = 2 ∨ j = 3) :
    (w.setCell ⟨b, j, none⟩ v).cell? ⟨b, 0, none⟩ = some u0 ∧ (w.setCell ⟨b, j, none⟩ v).cell? ⟨b, 1, none⟩ = some (if j = 1 then v else u1) ∧ (w.setCell ⟨b, j, none⟩ v).cell? ⟨b, 2, none⟩ = some (if j = 2 then v else u2) ∧ (w.setCell ⟨b, j, none⟩ v).cell? ⟨b, 3, none⟩ = some (if j = 3 then v else u3) ∧ (w.setCell ⟨b, j, none⟩ v).cell? ⟨b, 4, none⟩ = some u4 ∧ (w.setCell ⟨b, j, none⟩ v).cell? ⟨b, 5, none⟩ = some u5 := by
  have oth : ∀ (i : Nat) (u : Value), i ≠ j → w.cell? ⟨b, i, none⟩ = some u → (w.setCell ⟨b, j, none⟩ v).cell? ⟨b, i, none⟩ = some u := fun i u hne h =>
    (World.cell?_setCell_other w ⟨b, j, none⟩ ⟨b, i, none⟩ v (fun e => by injection e with _ e2; exact hne e2.symm)).trans h
  rcases hj with rfl | rfl | rfl
  · exact ⟨oth 0 _ (by decide) h0, World.cell?_setCell_same _ _ _ h1, oth 2 _ (by decide) h2, oth 3 _ (by decide) h3, oth 4 _ (by decide) h4, oth 5 _ (by decide) h5⟩
  · exact ⟨oth 0 _ (by decide) h0, oth 1 _ (by decide) h1, World.cell?_setCell_same _ _ _ h2, oth 3 _ (by decide) h3, oth 4 _ (by decide) h4, oth 5 _ (by decide) h5⟩
  · exact ⟨oth 0 _ (by decide) h0, oth 1 _ (by decide) h1, oth 2 _ (by decide) h2, World.cell?_setCell_same _ _ _ h3, oth 4 _ (by decide) h4, oth 5 _ (by decide) h5⟩
/-- blocks from one on are as they were -/
def Kb (base : Nat) (w w' : World) : Prop := w.heap.size ≤ w'.heap.size ∧ ∀ g, base ≤ g → g < w.heap.size → w'.heap[g]? = w.heap[g]?
theorem Kb.set {base : Nat} {w w' : World} {g j : Nat} {u : Value} (h : Kb base w w') (hg : g < base) : Kb base w (w'.setCell ⟨g, j, none⟩ u) :=
  ⟨by simpa using h.1, fun k hk hl => (Below.heap_setCell _ _ _ _ (by dsimp only; omega)).trans (h.2 k hk hl)⟩
theorem Kb.grown {base : Nat} {w w' w2 : World} {O : Obj} {row : Option Nat} (h : Kb base w w') (hg : (w'.alloc O).grownBy w2 row) (hr : ∀ B, row = some B → w'.heap.size ≤ B) : Kb base w w2 := by
  have h1 := h.1
  have h2 := hg.size
  simp at h2
  refine ⟨by omega, fun k hk hl => ?_⟩
  rw [hg.block k (by simp; omega) (fun e => by have := hr _ e.symm; omega), (below_alloc w' O).block k (by omega)]
  exact h.2 k hk hl
theorem owns_kb {w w' : World} {base : Nat} {e : TypeId} {size : Nat} {v : Value} {n : Nat} {xs : List Value} (h : w.ownsRow base e size v n xs) (hk : Kb base w w') : w'.ownsRow base e size v n xs := by
  refine ⟨h.1, ?_⟩
  rcases h.2 with hn | ⟨g, cap, cur, hv, hb, hg, rest⟩
  · exact .inl hn
  · exact .inr ⟨g, cap, cur, hv, hb, (hk.2 g hb (Array.getElem?_eq_some_iff.1 hg).1).trans hg, rest⟩
theorem six_set {w : World} {b : Nat} {u0 u1 u2 u3 u4 u5 : Value} (v0 v1 v2 v3 v4 v5 : Value) (h0 : w.cell? ⟨b, 0, none⟩ = some u0) (h1 : w.cell? ⟨b, 1, none⟩ = some u1) (h2 : w.cell? ⟨b, 2, none⟩ = some u2) (h3 : w.cell? ⟨b, 3, none⟩ = some u3) (h4 : w.cell? ⟨b, 4, none⟩ = some u4) (h5 : w.cell? ⟨b, 5, none⟩ = some u5) :
    ((((((w.setCell ⟨b, 0, none⟩ v0).setCell ⟨b, 1, none⟩ v1).setCell ⟨b, 2, none⟩ v2).setCell ⟨b, 3, none⟩ v3).setCell ⟨b, 4, none⟩ v4).setCell ⟨b, 5, none⟩ v5).cell? ⟨b, 0, none⟩ = some v0 ∧ ((((((w.setCell ⟨b, 0, none⟩ v0).setCell ⟨b, 1, none⟩ v1).setCell ⟨b, 2, none⟩ v2).setCell ⟨b, 3, none⟩ v3).setCell ⟨b, 4, none⟩ v4).setCell ⟨b, 5, none⟩ v5).cell? ⟨b, 1, none⟩ = some v1 ∧ ((((((w.setCell ⟨b, 0, none⟩ v0).setCell ⟨b, 1, none⟩ v1).setCell ⟨b, 2, none⟩ v2).setCell ⟨b, 3, none⟩ v3).setCell ⟨b, 4, none⟩ v4).setCell ⟨b, 5, none⟩ v5).cell? ⟨b, 2, none⟩ = some v2 ∧ ((((((w.setCell ⟨b, 0, none⟩ v0).setCell ⟨b, 1, none⟩ v1).setCell ⟨b, 2, none⟩ v2).setCell ⟨b, 3, none⟩ v3).setCell ⟨b, 4, none⟩ v4).setCell ⟨b, 5, none⟩ v5).cell? ⟨b, 3, none⟩ = some v3 ∧ ((((((w.setCell ⟨b, 0, none⟩ v0).setCell ⟨b, 1, none⟩ v1).setCell ⟨b, 2, none⟩ v2).setCell ⟨b, 3, none⟩ v3).setCell ⟨b, 4, none⟩ v4).setCell ⟨b, 5, none⟩ v5).cell? ⟨b, 4, none⟩ = some v4 ∧ ((((((w.setCell ⟨b, 0, none⟩ v0).setCell ⟨b, 1, none⟩ v1).setCell ⟨b, 2, none⟩ v2).setCell ⟨b, 3, none⟩ v3).setCell ⟨b, 4, none⟩ v4).setCell ⟨b, 5, none⟩ v5).cell? ⟨b, 5, none⟩ = some v5 := by
  have oth : ∀ (W : World) (i j : Nat) (v u : Value), i ≠ j → W.cell? ⟨b, i, none⟩ = some u → (W.setCell ⟨b, j, none⟩ v).cell? ⟨b, i, none⟩ = some u := fun W i j v u hne h =>
    (World.cell?_setCell_other W ⟨b, j, none⟩ ⟨b, i, none⟩ v (fun e => by injection e with _ e2; exact hne e2.symm)).trans h
  exact ⟨(oth _ 0 5 _ _ (by decide) (oth _ 0 4 _ _ (by decide) (oth _ 0 3 _ _ (by decide) (oth _ 0 2 _ _ (by decide) (oth _ 0 1 _ _ (by decide) (World.cell?_setCell_same _ _ _ h0)))))), (oth _ 1 5 _ _ (by decide) (oth _ 1 4 _ _ (by decide) (oth _ 1 3 _ _ (by decide) (oth _ 1 2 _ _ (by decide) (World.cell?_setCell_same _ _ _ (oth _ 1 0 _ _ (by decide) h1)))))), (oth _ 2 5 _ _ (by decide) (oth _ 2 4 _ _ (by decide) (oth _ 2 3 _ _ (by decide) (World.cell?_setCell_same _ _ _ (oth _ 2 1 _ _ (by decide) (oth _ 2 0 _ _ (by decide) h2)))))), (oth _ 3 5 _ _ (by decide) (oth _ 3 4 _ _ (by decide) (World.cell?_setCell_same _ _ _ (oth _ 3 2 _ _ (by decide) (oth _ 3 1 _ _ (by decide) (oth _ 3 0 _ _ (by decide) h3)))))), (oth _ 4 5 _ _ (by decide) (World.cell?_setCell_same _ _ _ (oth _ 4 3 _ _ (by decide) (oth _ 4 2 _ _ (by decide) (oth _ 4 1 _ _ (by decide) (oth _ 4 0 _ _ (by decide) h4)))))), (World.cell?_setCell_same _ _ _ (oth _ 5 4 _ _ (by decide) (oth _ 5 3 _ _ (by decide) (oth _ 5 2 _ _ (by decide) (oth _ 5 1 _ _ (by decide) (oth _ 5 0 _ _ (by decide) h5))))))⟩
theorem owns_mono {w : World} {base base' : Nat} {e : TypeId} {size : Nat} {v : Value} {n : Nat} {xs : List Value} (h : w.ownsRow base e size v n xs) (hb : base' ≤ base) : w.ownsRow base' e size v n xs := by
  refine ⟨h.1, ?_⟩
  rcases h.2 with hn | ⟨g, cap, cur, hv, hb2, rest⟩
  · exact .inl hn
  · exact .inr ⟨g, cap, cur, hv, Nat.le_trans hb hb2, rest⟩
theorem RdE.past {base : Nat} {w w' : World} {v u : Value} {xs : List OC.Ent} (h : RdE w v xs) (hb : ∀ B, v.ownBlock = some B → base ≤ B) (hne : ∀ B, v.ownBlock = some B → u.ownBlock ≠ some B) (hc : ∀ p c, base ≤ p.block → w.cell? p = some c → some p.block ≠ u.ownBlock → w'.cell? p = some c) : RdE w' v xs := by
  obtain ⟨a, cap, rfl, hl, h2, h⟩ := h
  refine ⟨a, cap, rfl, hl, h2, ?_⟩
  rcases h with h | ⟨b, off, rfl, hat⟩
  · exact .inl h
  · exact .inr ⟨b, off, rfl, fun i hi => ⟨hc _ _ (hb b rfl) (hat i hi).1 (fun e => hne b rfl e.symm), hc _ _ (hb b rfl) (hat i hi).2 (fun e => hne b rfl e.symm)⟩⟩
theorem RdO.kp {base : Nat} {w w' : World} {e : TypeId} {v : Value} {n : Nat} {xs : List OC.Op} (h : w.ownsRow base e 3 v n (opCells xs)) (hm : n ≤ 140737488355328) (hk : Kp base w w') : RdO w' v xs := by
  have hn : xs.length = n := by have := h.1; rw [opCells_len] at this; omega
  subst hn
  rcases h.2 with ⟨rfl, h0⟩ | ⟨g, cap, cur, rfl, hb, hg, hle, _⟩
  · have : xs = [] := List.length_eq_zero_iff.1 h0
    subst this; exact RdP.nil w'
  · refine ⟨some ⟨g, 0, none⟩, cap, rfl, hle, ⟨hm, fun h => by cases h⟩, .inr ⟨g, 0, rfl, fun i hi => ?_⟩⟩
    obtain ⟨h0, h1, h2⟩ := opCells_at xs i hi
    exact ⟨hk _ _ hb (by rw [Nat.zero_add, h.cellAt _ (by omega)]; exact h0), hk _ _ hb (by rw [Nat.zero_add, h.cellAt _ (by omega)]; exact h1), hk _ _ hb (by rw [Nat.zero_add, h.cellAt _ (by omega)]; exact h2)⟩
/-- what the copy is: it reads as the code, its instructions in new memory, apart from all the rest: areas and entries read on, whatever is written to the instructions -/
def CopyR (c : OC.Code) (base : Nat) (e : Ending) (w' : World) : Prop :=
  ∃ da oa ga dl dc ol oc gl gc, e = .returned (codeV c da oa ga dl dc ol oc gl gc) ∧ CodeIn w' c da oa ga dl dc ol oc gl gc ∧ w'.ownsRow base 35 3 (.slice oa ol oc) c.ops.length (opCells c.ops) ∧
    ∀ wz : World, (∀ p x, base ≤ p.block → w'.cell? p = some x → some p.block ≠ (Value.slice oa ol oc).ownBlock → wz.cell? p = some x) → RdD wz (.slice da dl dc) c.data ∧ RdE wz (.slice ga gl gc) c.globals
set_option maxRecDepth 100000 in
set_option maxHeartbeats 8000000 in
theorem CopyCode_c (c : OC.Code) (da oa ga : Option Addr) (dl dc ol oc gl gc : Nat) (w : World) (hc : CodeIn w c da oa ga dl dc ol oc gl gc) (h1 : c.ops.length ≤ 40100) (h2 : c.globals.length ≤ 400) (h3 : c.data.length ≤ 2000) (h4 : ∀ d ∈ c.data, d.words.length ≤ 2000) :
    Calls Tryd.prog 13 #[codeV c da oa ga dl dc ol oc gl gc] w fun e w' => CopyR c w.heap.size e w' ∧ Below w.heap.size w w' := by
  obtain ⟨hdl, hdc, _⟩ := hc.data.len
  obtain ⟨hol, hoc, _⟩ := hc.ops.len
  obtain ⟨hgl, hgc, _⟩ := hc.globals.len
  have HC := Lib.hid hc
  have HD := Lib.hid hdl
  have HO := Lib.hid hol
  have HG := Lib.hid hgl
  have H4 := Lib.hid h4
  obtain ⟨i0, k1, k2, k3, k4⟩ := info_parts dat_info
  have hI : Tryd.prog.info? 43 = some i0 ∧ i0.zero = some (.agg #[.string ⟨#[]⟩, .bool false, .slice none 0 0]) ∧ i0.size = 3 ∧ i0.bytes = 48 := ⟨k1, k2, k3, k4⟩
  have HI := Lib.hid hI
  clear k1 k2 k3 k4 hI
  obtain ⟨i1, k1, k2, k3, k4⟩ := info_parts op_info
  have hI : Tryd.prog.info? 35 = some i1 ∧ i1.zero = some (.agg #[.int .i64 0, .int .i64 0, .int .i64 0]) ∧ i1.size = 3 ∧ i1.bytes = 24 := ⟨k1, k2, k3, k4⟩
  have HI1 := Lib.hid hI
  clear k1 k2 k3 k4 hI
  obtain ⟨i2, k1, k2, k3, k4⟩ := info_parts ent_info
  have hI : Tryd.prog.info? 68 = some i2 ∧ i2.zero = some (.agg #[.int .i64 0, .int .i64 0]) ∧ i2.size = 2 ∧ i2.bytes = 16 := ⟨k1, k2, k3, k4⟩
  have HI2 := Lib.hid hI
  clear k1 k2 k3 k4 hI
  rw [← hol] at h1
  rw [← hgl] at h2
  rw [← hdl] at h3
  obtain ⟨name, data, ops, globals, procs, labels⟩ := c
  dsimp only at *
  clear hdl hol hgl hc h4
  go_enter Tryd.func13, Tryd.ntmps13
  go_wp2
  generalize hW0 : ((w.alloc (.cells #[.string ⟨name.toArray⟩, .slice da dl dc, .slice oa ol oc, .slice ga gl gc, .int .i64 procs, .int .i64 labels] 26)).alloc (.cells #[.string ⟨#[]⟩, .slice none 0 0, .slice none 0 0, .slice none 0 0, .int .i64 0, .int .i64 0] 26)) = W0
  have hs0 : W0.heap.size = w.heap.size + 2 := by rw [← hW0]; simp
  have HB0 : Hid (BoxC W0 w.heap.size ⟨name, data, ops, globals, procs, labels⟩ da oa ga dl dc ol oc gl gc) := by
    rw [← hW0]; exact (BoxC.new w ⟨name, data, ops, globals, procs, labels⟩ da oa ga dl dc ol oc gl gc _).keep (below_alloc _ _) (by simp)
  have HZ0 : Hid (BoxC W0 (w.heap.size + 1) OC.cz none none none 0 0 0 0 0 0) := by
    rw [← hW0]
    have := BoxC.new (w.alloc (.cells #[.string ⟨name.toArray⟩, .slice da dl dc, .slice oa ol oc, .slice ga gl gc, .int .i64 procs, .int .i64 labels] 26)) OC.cz none none none 0 0 0 0 0 0 26
    rwa [show (w.alloc (.cells #[.string ⟨name.toArray⟩, .slice da dl dc, .slice oa ol oc, .slice ga gl gc, .int .i64 procs, .int .i64 labels] 26)).heap.size = w.heap.size + 1 from by simp] at this
  have HF0 : Hid (∀ o, W0.frozen? ⟨w.heap.size, o, none⟩ = false ∧ W0.frozen? ⟨w.heap.size + 1, o, none⟩ = false) := by
    intro o
    rw [← hW0]
    exact ⟨by simp [go_sem], by simp [go_sem]⟩
  have HL0 : Hid (Below w.heap.size w W0) := by rw [← hW0]; exact below_then (below_alloc _ _) (below_alloc _ _)
  have HS0 := Lib.hid hs0
  have q1 : w.heap.size < W0.heap.size := by omega
  have q2 : w.heap.size + 1 < W0.heap.size := by omega
  clear hW0 hs0
  go_loopw [3, 4, 5] (fun v i u wr => ∃ (k : Nat) (vs : List Value), k ≤ dl ∧ i = .int .i64 k ∧ wr.ownsRow W0.heap.size 43 3 v k (datCells (data.take k) vs) ∧ Hid (WordsAt W0.heap.size wr v (data.take k) vs) ∧ Below W0.heap.size W0 wr) (fun _ i _ _ => dl - (intOf i).toNat)
  case atStart => exact ⟨0, [], Nat.zero_le _, rfl, ⟨by simp [datCells], .inl ⟨rfl, rfl⟩⟩, ⟨rfl, fun i hi => by simp at hi⟩, Below.refl _ _⟩
  case round =>
    obtain ⟨k, vs, hk, rfl, hown, hws, hbl⟩ := hrel
    obtain ⟨sa, sc, rfl⟩ := owns_form' hown
    have hz := hbl.size
    have HBK := Lib.hid (HB0.out.keep hbl (by omega))
    obtain ⟨c0, c1, c2, c3, c4, c5⟩ := HBK.out
    by_cases hlt : k < dl
    · obtain ⟨hx1, b, off, rfl, h0, h1, wv, h2, h3⟩ := HC.out.data.get hlt
      clear hx1
      have hblw : Below w.heap.size w wr := below_thenB' HL0.out hbl (by omega)
      have d0 := (hblw.cell (p := ⟨b, off + k * 3, none⟩) (World.block_lt_of_cell? _ _ h0)).trans h0
      have d1 := (hblw.cell (p := ⟨b, off + k * 3 + 1, none⟩) (World.block_lt_of_cell? _ _ h1)).trans h1
      have d2 := (hblw.cell (p := ⟨b, off + k * 3 + 2, none⟩) (World.block_lt_of_cell? _ _ h2)).trans h2
      have hkl : k < data.length := by rw [← HD.out]; exact hlt
      have hwl := H4.out _ (getD_map_range data OC.dz hkl)
      have HTK : Hid (data.take (k + 1) = data.take k ++ [data.getD k OC.dz]) := by show _ = _; rw [List.take_succ_eq_append_getElem hkl, getD_at hkl]
      have HR : Hid (Rd .i64 wr wv (data.getD k OC.dz).words) := h3.keep hblw
      generalize data.getD k OC.dz = x at *
      obtain ⟨tx, it, wd⟩ := x
      dsimp only at *
      obtain ⟨wa, wc, hwv, _, _⟩ := HR.out
      subst hwv
      have k1 : (k : Int) < (dl : Int) := by omega
      have HCI : Hid (∀ W, Rd .i64 W (.slice wa wd.length wc) wd → Calls Tryd.prog 19 #[.slice wa wd.length wc] W fun e w' => (∃ v', e = .returned v' ∧ w'.ownsRow W.heap.size 3 1 v' wd.length (wd.map (.int .i64))) ∧ Below W.heap.size W w') := fun W h => CopyInts_r (.slice wa wd.length wc) wd W h (by omega)
      have HOWN := Lib.hid hown
      have HBL := Lib.hid hbl
      clear h0 h1 h2 h3 hown hbl
      have H1C : Hid (∀ u ∈ [Value.string ⟨tx.toArray⟩, .bool it, .slice sa k sc], True) := fun _ _ => trivial
      clear H1C
      go_wp2_with (first
        | (go_at_call 19; refine (HCI.out _ (HR.out.keep (below_alloc _ _))).mono ?_; rintro e w1 ⟨⟨v1, rfl, hown1⟩, hb1⟩; obtain ⟨sa1, sc1, rfl⟩ := owns_form' hown1; obtain ⟨hcc1, hff1⟩ := bcell hb1; obtain ⟨hbw, hown2, hws2⟩ := copy_step (x := ⟨tx, it, wd⟩) HOWN.out hws.out (by omega) hb1 hown1 (by dsimp only; omega); have HBW := Lib.hid hbw; have HWS := Lib.hid hws2; have HO2 := Lib.hid hown2; have hz1 := hb1.size; clear hbw hws2 hown2 hown1)
        | (at_builtin; refine wpList_append_row1 rfl (.tmp 22) (.tmp 24) 22 rfl W0.heap.size 43 i0 _ 3 48 Tryd.underlying22 HI.out (by decide) rfl (by decide) _ k _ rfl HO2.out [.string ⟨tx.toArray⟩, .bool it, .slice sa1 wd.length sc1] rfl (by intro u hu; simp at hu; rcases hu with rfl | rfl | rfl <;> rfl) w1.heap.size (by simp) rfl (by omega) (by have := HBW.out.size; omega) ?_))
      intro v5 w5 hown5 hbe5 hsz5 hcl5 hff5 hob5
      have HRW : Hid (w5.ownsRow W0.heap.size 43 3 v5 (k + 1) (datCells (data.take (k + 1)) (vs ++ [.slice sa1 wd.length sc1]))) := by
        show World.ownsRow _ _ _ _ _ _ _
        rw [HTK.out, datCells_app _ _ _ _ hws.out.1]; dsimp only; exact hown5
      have HWA : Hid (WordsAt W0.heap.size w5 v5 (data.take (k + 1)) (vs ++ [.slice sa1 wd.length sc1])) := by
        show WordsAt _ _ _ _ _
        rw [HTK.out]; exact HWS.out.past hcl5 (by simpa using Nat.le_of_lt hsz5) (by simpa using hob5)
      have HBB : Hid (Below W0.heap.size W0 w5) := hbe5 _ _ (HBL.out.trans (HBW.out.mono hz)) (Nat.le_refl _)
      clear hown5 hbe5 hsz5 hcl5 hff5 hob5 hws HWS HO2 HBW
      go_wp2
      go_roundw
      case rel => exact ⟨k + 1, _, by omega, by go_num, HRW.out, HWA.out, HBB.out⟩
      case measure => simp [intOf]; omega
    · obtain rfl : dl = k := by omega
      have hfull : data.take dl = data := List.take_of_length_le (by rw [← HD.out]; exact Nat.le_refl _)
      rw [hfull] at hown hws
      have HOWN := Lib.hid hown
      have HLR : Hid (Below w.heap.size w wr) := below_thenB' HL0.out hbl (by omega)
      have HZR := Lib.hid (HZ0.out.keep hbl (by omega))
      have fz : ∀ o, wr.frozen? ⟨w.heap.size, o, none⟩ = false := fun o => (hbl.frozen (p := ⟨w.heap.size, o, none⟩) (by show w.heap.size < _; omega)).trans (HF0.out o).1
      have fy : ∀ o, wr.frozen? ⟨w.heap.size + 1, o, none⟩ = false := fun o => (hbl.frozen (p := ⟨w.heap.size + 1, o, none⟩) (by show w.heap.size + 1 < _; omega)).trans (HF0.out o).2
      have f1 := fz 1
      have f2 := fz 2
      have f3 := fz 3
      obtain ⟨e0, e1, e2, e3, e4, e5⟩ := HZR.out
      clear hown hbl hk hlt hfull
      have qz : w.heap.size < wr.heap.size := by omega
      have qz1 : w.heap.size + 1 < wr.heap.size := by omega
      have hsA : (wr.setCell ⟨w.heap.size, 1, none⟩ (.slice sa dl sc)).heap.size = wr.heap.size := by simp
      have HLA : Hid (Below w.heap.size w (wr.setCell ⟨w.heap.size, 1, none⟩ (.slice sa dl sc))) := HLR.out.setCell (p := ⟨w.heap.size, 1, none⟩) (Nat.le_refl _) _
      have OL : Hid (((wr.setCell ⟨w.heap.size, 1, none⟩ (.slice sa dl sc)).alloc (.cells #[] 35)).ownsRow wr.heap.size 35 3 (.slice (some ⟨wr.heap.size, 0, none⟩) 0 0) 0 []) := by
        have := World.ownsRow_lit (base := wr.heap.size) (e := 35) (size := 3) (wr.setCell ⟨w.heap.size, 1, none⟩ (.slice sa dl sc)) #[] 0 (by rw [hsA]; omega) (by unfold maxLen; omega) rfl
        rw [hsA] at this
        exact this
      have SO : Hid (SrcC ((wr.setCell ⟨w.heap.size, 1, none⟩ (.slice sa dl sc)).alloc (.cells #[] 35)) oa ol oc (opCells ops)) := srcC_ops (HC.out.keep (below_then HLA.out (below_alloc _ _))).ops
      have LO : Hid ((opCells ops).length = ol * 3) := by show _ = _; rw [opCells_len, ← HO.out]
      have HSA := Lib.hid hsA
      clear hsA
      go_wp2_with (at_builtin; refine wpList_append_rows rfl (.tmp 28) (.tmp 30) 23 rfl wr.heap.size 35 i1 _ 3 24 Tryd.underlying23 HI1.out (by decide) rfl (by decide) _ 0 _ rfl OL.out oa ol oc (opCells ops) rfl LO.out SO.out (opCells_one ops) (by omega) (by first | (simp; done) | (simp; omega)) ?_)
      intro v2 w2 hown2 hgr2
      have hown2 : w2.ownsRow wr.heap.size 35 3 v2 ol (opCells ops) := by simpa using hown2
      obtain ⟨sb, sbc, rfl⟩ := owns_form' hown2
      obtain ⟨K2, Z2, L2⟩ := lit_kept hgr2 (by rw [HSA.out]; rfl)
      obtain ⟨a0, a1, a2, a3, a4, a5⟩ := box_set (.slice sa dl sc) c0 c1 c2 c3 c4 c5 1 (.inl rfl)
      simp only [if_true, show ((1 : Nat) = 2) = False from by simp, show ((1 : Nat) = 3) = False from by simp, if_false] at a1 a2 a3
      have oB : ∀ (j : Nat) (u : Value), wr.cell? ⟨w.heap.size + 1, j, none⟩ = some u → w2.cell? ⟨w.heap.size + 1, j, none⟩ = some u := fun j u h => K2 _ _ ((set_other _ _ _ _ _ _ (by omega)).trans h)
      have g2 : ∀ o, w2.frozen? ⟨w.heap.size, o, none⟩ = false := fun o => (Z2 ⟨w.heap.size, o, none⟩ (by rw [HSA.out]; exact qz)).trans ((World.frozen?_setCell ..).trans (fz o))
      have y2 : ∀ o, w2.frozen? ⟨w.heap.size + 1, o, none⟩ = false := fun o => (Z2 ⟨w.heap.size + 1, o, none⟩ (by rw [HSA.out]; exact qz1)).trans ((World.frozen?_setCell ..).trans (fy o))
      have HL2 : Hid (Below w.heap.size w w2) := (below_then HLA.out (below_alloc _ _)).grown hgr2 (by simp; omega) (fun kk e => by have := (OL.out.lt kk e).1; omega)
      have HK2 : Hid (Kp W0.heap.size wr w2) := (Kp.set (w := wr) (fun _ _ _ h => h) q1).grown hgr2 (fun B e => by rw [HSA.out]; simp [Value.ownBlock] at e; omega)
      have b0 := K2 _ _ a0
      have b1 := K2 _ _ a1
      have b2 := K2 _ _ a2
      have b3 := K2 _ _ a3
      have b4 := K2 _ _ a4
      have b5 := K2 _ _ a5
      have f2' := g2 2
      have s2 : w.heap.size < w2.heap.size := World.block_lt_of_cell? _ _ b0
      have hsB : (w2.setCell ⟨w.heap.size, 2, none⟩ (.slice sb ol sbc)).heap.size = w2.heap.size := by simp
      have hz2 : wr.heap.size < w2.heap.size := by have := L2; rw [HSA.out] at this; exact this
      have HLB : Hid (Below w.heap.size w (w2.setCell ⟨w.heap.size, 2, none⟩ (.slice sb ol sbc))) := HL2.out.setCell (p := ⟨w.heap.size, 2, none⟩) (Nat.le_refl _) _
      have OLE : Hid (((w2.setCell ⟨w.heap.size, 2, none⟩ (.slice sb ol sbc)).alloc (.cells #[] 68)).ownsRow w2.heap.size 68 2 (.slice (some ⟨w2.heap.size, 0, none⟩) 0 0) 0 []) := by
        have := World.ownsRow_lit (base := w2.heap.size) (e := 68) (size := 2) (w2.setCell ⟨w.heap.size, 2, none⟩ (.slice sb ol sbc)) #[] 0 (by rw [hsB]; omega) (by unfold maxLen; omega) rfl
        rw [hsB] at this
        exact this
      have SG : Hid (SrcC ((w2.setCell ⟨w.heap.size, 2, none⟩ (.slice sb ol sbc)).alloc (.cells #[] 68)) ga gl gc (entCells globals)) := srcC_ents (HC.out.keep (below_then HLB.out (below_alloc _ _))).globals
      have LG : Hid ((entCells globals).length = gl * 2) := by show _ = _; rw [entCells_len, ← HG.out]
      have HSB := Lib.hid hsB
      have HOW2 := Lib.hid hown2
      have HB2 : Hid (w2.cell? ⟨w.heap.size, 0, none⟩ = some (.string ⟨name.toArray⟩) ∧ w2.cell? ⟨w.heap.size, 1, none⟩ = some (.slice sa dl sc) ∧ w2.cell? ⟨w.heap.size, 2, none⟩ = some (.slice oa ol oc) ∧ w2.cell? ⟨w.heap.size, 3, none⟩ = some (.slice ga gl gc) ∧ w2.cell? ⟨w.heap.size, 4, none⟩ = some (.int .i64 procs) ∧ w2.cell? ⟨w.heap.size, 5, none⟩ = some (.int .i64 labels)) := ⟨b0, b1, b2, b3, b4, b5⟩
      have HX2 : Hid (w2.cell? ⟨w.heap.size + 1, 0, none⟩ = some (.string ⟨#[]⟩) ∧ w2.cell? ⟨w.heap.size + 1, 1, none⟩ = some (.slice none 0 0) ∧ w2.cell? ⟨w.heap.size + 1, 2, none⟩ = some (.slice none 0 0) ∧ w2.cell? ⟨w.heap.size + 1, 3, none⟩ = some (.slice none 0 0) ∧ w2.cell? ⟨w.heap.size + 1, 4, none⟩ = some (.int .i64 0) ∧ w2.cell? ⟨w.heap.size + 1, 5, none⟩ = some (.int .i64 0)) := ⟨oB _ _ e0, oB _ _ e1, oB _ _ e2, oB _ _ e3, oB _ _ e4, oB _ _ e5⟩
      have G2 := Lib.hid g2
      have Y2 := Lib.hid y2
      clear c0 c1 c2 c3 c4 c5 e0 e1 e2 e3 e4 e5 a0 a1 a2 a3 a4 a5 K2 Z2 L2 oB g2 y2 hgr2 hown2 hsB f1 f2 f3 fz fy OL SO LO HLA
      go_wp2_with (at_builtin; refine wpList_append_rows rfl (.tmp 33) (.tmp 35) 24 rfl w2.heap.size 68 i2 _ 2 16 Tryd.underlying24 HI2.out (by decide) rfl (by decide) _ 0 _ rfl OLE.out ga gl gc (entCells globals) rfl LG.out SG.out (entCells_one globals) (by omega) (by first | (simp; done) | (simp; omega)) ?_)
      intro v3 w3 hown3 hgr3
      have hown3 : w3.ownsRow w2.heap.size 68 2 v3 gl (entCells globals) := by simpa using hown3
      obtain ⟨sd, sdc, rfl⟩ := owns_form' hown3
      obtain ⟨K3, Z3, L3⟩ := lit_kept hgr3 (by rw [HSB.out]; rfl)
      obtain ⟨b0, b1, b2, b3, b4, b5⟩ := HB2.out
      obtain ⟨a0, a1, a2, a3, a4, a5⟩ := box_set (.slice sb ol sbc) b0 b1 b2 b3 b4 b5 2 (.inr (.inl rfl))
      simp only [if_true, show ((2 : Nat) = 1) = False from by simp, show ((2 : Nat) = 3) = False from by simp, if_false] at a1 a2 a3
      obtain ⟨x0, x1, x2, x3, x4, x5⟩ := HX2.out
      have oB : ∀ (j : Nat) (u : Value), w2.cell? ⟨w.heap.size + 1, j, none⟩ = some u → w3.cell? ⟨w.heap.size + 1, j, none⟩ = some u := fun j u h => K3 _ _ ((set_other _ _ _ _ _ _ (by omega)).trans h)
      have g3 : w3.frozen? ⟨w.heap.size, 3, none⟩ = false := (Z3 ⟨w.heap.size, 3, none⟩ (by rw [HSB.out]; exact s2)).trans ((World.frozen?_setCell ..).trans (G2.out 3))
      have y3 : ∀ o, w3.frozen? ⟨w.heap.size + 1, o, none⟩ = false := fun o => (Z3 ⟨w.heap.size + 1, o, none⟩ (by rw [HSB.out]; show w.heap.size + 1 < _; omega)).trans ((World.frozen?_setCell ..).trans (Y2.out o))
      have HL3 : Hid (Below w.heap.size w w3) := (below_then HLB.out (below_alloc _ _)).grown hgr3 (by simp; omega) (fun kk e => by have := (OLE.out.lt kk e).1; omega)
      have HK3 : Hid (Kp W0.heap.size wr w3) := (HK2.out.set q1).grown hgr3 (fun B e => by rw [HSB.out]; simp [Value.ownBlock] at e; omega)
      have HM3 : Hid (Kb W0.heap.size w2 w3) := (Kb.set (w := w2) ⟨Nat.le_refl _, fun _ _ _ => rfl⟩ q1).grown hgr3 (fun B e => by rw [HSB.out]; simp [Value.ownBlock] at e; omega)
      have c0 := K3 _ _ a0
      have c1 := K3 _ _ a1
      have c2 := K3 _ _ a2
      have c3 := K3 _ _ a3
      have c4 := K3 _ _ a4
      have c5 := K3 _ _ a5
      have e0 := oB _ _ x0
      have e1 := oB _ _ x1
      have e2 := oB _ _ x2
      have e3 := oB _ _ x3
      have e4 := oB _ _ x4
      have e5 := oB _ _ x5
      have y30 := y3 0
      have y31 := y3 1
      have y32 := y3 2
      have y33 := y3 3
      have y34 := y3 4
      have y35 := y3 5
      have s3 : w.heap.size < w3.heap.size := World.block_lt_of_cell? _ _ c0
      have s31 : w.heap.size + 1 < w3.heap.size := World.block_lt_of_cell? _ _ e0
      have HOW3 := Lib.hid hown3
      clear a0 a1 a2 a3 a4 a5 b0 b1 b2 b3 b4 b5 x0 x1 x2 x3 x4 x5 oB K3 Z3 L3 hgr3 hown3 y3 f2' HB2 HX2 HSB OLE SG LG
      go_wp2
      have o3 : ∀ (j : Nat) (u : Value), w3.cell? ⟨w.heap.size + 1, j, none⟩ = some u → (w3.setCell ⟨w.heap.size, 3, none⟩ (.slice sd gl sdc)).cell? ⟨w.heap.size + 1, j, none⟩ = some u := fun j u h => (set_other _ _ _ _ _ _ (by omega)).trans h
      obtain ⟨t0, t1, t2, t3, t4, t5⟩ := six_set (.string ⟨name.toArray⟩) (.slice sa dl sc) (.slice sb ol sbc) (.slice sd gl sdc) (.int .i64 procs) (.int .i64 labels) (o3 _ _ e0) (o3 _ _ e1) (o3 _ _ e2) (o3 _ _ e3) (o3 _ _ e4) (o3 _ _ e5)
      have HKZ := (Kp.set (g := w.heap.size + 1) (j := 5) (u := (.int .i64 labels)) (Kp.set (g := w.heap.size + 1) (j := 4) (u := (.int .i64 procs)) (Kp.set (g := w.heap.size + 1) (j := 3) (u := (.slice sd gl sdc)) (Kp.set (g := w.heap.size + 1) (j := 2) (u := (.slice sb ol sbc)) (Kp.set (g := w.heap.size + 1) (j := 1) (u := (.slice sa dl sc)) (Kp.set (g := w.heap.size + 1) (j := 0) (u := (.string ⟨name.toArray⟩)) (HK3.out.set (j := 3) (u := .slice sd gl sdc) q1) q2) q2) q2) q2) q2) q2)
      have HMZ := (Kb.set (g := w.heap.size + 1) (j := 5) (u := (.int .i64 labels)) (Kb.set (g := w.heap.size + 1) (j := 4) (u := (.int .i64 procs)) (Kb.set (g := w.heap.size + 1) (j := 3) (u := (.slice sd gl sdc)) (Kb.set (g := w.heap.size + 1) (j := 2) (u := (.slice sb ol sbc)) (Kb.set (g := w.heap.size + 1) (j := 1) (u := (.slice sa dl sc)) (Kb.set (g := w.heap.size + 1) (j := 0) (u := (.string ⟨name.toArray⟩)) (HM3.out.set (j := 3) (u := .slice sd gl sdc) q1) q2) q2) q2) q2) q2) q2)
      have HNZ := (Kb.set (g := w.heap.size + 1) (j := 5) (u := (.int .i64 labels)) (Kb.set (g := w.heap.size + 1) (j := 4) (u := (.int .i64 procs)) (Kb.set (g := w.heap.size + 1) (j := 3) (u := (.slice sd gl sdc)) (Kb.set (g := w.heap.size + 1) (j := 2) (u := (.slice sb ol sbc)) (Kb.set (g := w.heap.size + 1) (j := 1) (u := (.slice sa dl sc)) (Kb.set (g := w.heap.size + 1) (j := 0) (u := (.string ⟨name.toArray⟩)) (Kb.set (w := w3) (w' := w3) (j := 3) (u := .slice sd gl sdc) ⟨Nat.le_refl _, fun _ _ _ => rfl⟩ q1) q2) q2) q2) q2) q2) q2)
      have HLZ := (Below.setCell (Below.setCell (Below.setCell (Below.setCell (Below.setCell (Below.setCell (HL3.out.setCell (p := ⟨w.heap.size, 3, none⟩) (Nat.le_refl _) (.slice sd gl sdc)) (p := ⟨w.heap.size + 1, 0, none⟩) (Nat.le_succ _) (.string ⟨name.toArray⟩)) (p := ⟨w.heap.size + 1, 1, none⟩) (Nat.le_succ _) (.slice sa dl sc)) (p := ⟨w.heap.size + 1, 2, none⟩) (Nat.le_succ _) (.slice sb ol sbc)) (p := ⟨w.heap.size + 1, 3, none⟩) (Nat.le_succ _) (.slice sd gl sdc)) (p := ⟨w.heap.size + 1, 4, none⟩) (Nat.le_succ _) (.int .i64 procs)) (p := ⟨w.heap.size + 1, 5, none⟩) (Nat.le_succ _) (.int .i64 labels))
      refine bodyPost_ret (v := .agg #[.string ⟨name.toArray⟩, .slice sa dl sc, .slice sb ol sbc, .slice sd gl sdc, .int .i64 procs, .int .i64 labels]) (by simp [results, Tryd.results13, go_sem, t0, t1, t2, t3, t4, t5]) rfl ?_
      refine ⟨⟨sa, sb, sd, dl, sc, ol, sbc, gl, sdc, rfl, ⟨RdD.kp HOWN.out hws.out HD.out.symm (by omega) HKZ, RdO.of_owns (owns_kb (owns_mono HOW2.out (by omega)) HMZ) (by omega), RdE.of_owns (owns_kb (owns_mono HOW3.out (by omega)) HNZ) (by omega), HC.out.name⟩, ?_, ?_⟩, HLZ⟩
      · have := owns_mono (owns_kb (owns_mono HOW2.out (by omega)) HMZ) (base' := w.heap.size) (by omega)
        rw [HO.out] at this ⊢
        exact this
      · intro wz hwz
        refine ⟨RdD.kp HOWN.out hws.out HD.out.symm (by omega) (fun p x hb hx => hwz p x (by omega) (HKZ p x hb hx) (fun e => ?_)), (RdE.of_owns (owns_kb (owns_mono HOW3.out (by omega)) HNZ) (by omega)).past (u := .slice sb ol sbc) (fun B h1 => by have h3 := (HOW3.out.lt B h1).1; omega) (fun B h1 h2 => ?_) hwz⟩
        · have h1 := (HOW2.out.lt _ e.symm).1
          have h2 := World.block_lt_of_cell? _ _ hx
          omega
        · have h3 := (HOW3.out.lt B h1).1
          have h4 := (HOW2.out.lt B h2).2
          omega
end Go.Proofs.YtfnkafnjpldaoaaDoor
