/- Rows of cells that are one's own: they read as a list; whole lists put behind one. -/
import Derived.Test.YtfnkafnjpldaoaaDoorOcRd
import Derived.Laws.OwnMore
import Derived.OwnWalk
import Derived.Deep.AppendLies
namespace Go.Proofs.YtfnkafnjpldaoaaDoor
open Go.RowKit
set_option linter.unusedVariables false
def opCells : List OC.Op → List Value
  | [] => []
  | o :: r => .int .i64 o.op :: .int .i64 o.n :: .int .i64 o.m :: opCells r
def entCells : List OC.Ent → List Value
  | [] => []
  | e :: r => .int .i64 e.g :: .int .i64 e.p :: entCells r
theorem opCells_len : ∀ (l : List OC.Op), (opCells l).length = l.length * 3
  | [] => rfl
  | o :: r => by rw [opCells, List.length_cons, List.length_cons, List.length_cons, opCells_len r, List.length_cons]; omega
theorem entCells_len : ∀ (l : List OC.Ent), (entCells l).length = l.length * 2
  | [] => rfl
  | o :: r => by rw [entCells, List.length_cons, List.length_cons, entCells_len r, List.length_cons]; omega
theorem opCells_app : ∀ (a b : List OC.Op), opCells (a ++ b) = opCells a ++ opCells b
  | [], _ => rfl
  | o :: r, b => by simp [opCells, opCells_app r b]
theorem entCells_app : ∀ (a b : List OC.Ent), entCells (a ++ b) = entCells a ++ entCells b
  | [], _ => rfl
  | o :: r, b => by simp [entCells, entCells_app r b]
theorem opCells_at : ∀ (l : List OC.Op) (i : Nat), i < l.length → (opCells l)[i * 3]? = some (.int .i64 (l.getD i OC.oz).op) ∧ (opCells l)[i * 3 + 1]? = some (.int .i64 (l.getD i OC.oz).n) ∧ (opCells l)[i * 3 + 2]? = some (.int .i64 (l.getD i OC.oz).m)
  | [], i, h => by simp at h
  | o :: r, 0, _ => ⟨rfl, rfl, rfl⟩
  | o :: r, i + 1, h => by
    obtain ⟨h0, h1, h2⟩ := opCells_at r i (by simpa using h)
    have e : (i + 1) * 3 = i * 3 + 3 := by omega
    have e1 : (i + 1) * 3 + 1 = i * 3 + 1 + 3 := by omega
    have e2 : (i + 1) * 3 + 2 = i * 3 + 2 + 3 := by omega
    simp only [opCells]
    rw [e1, e2, e]
    simp only [List.getElem?_cons_succ, List.getD_cons_succ]
    exact ⟨h0, h1, h2⟩
theorem entCells_at : ∀ (l : List OC.Ent) (i : Nat), i < l.length → (entCells l)[i * 2]? = some (.int .i64 (l.getD i OC.ez).g) ∧ (entCells l)[i * 2 + 1]? = some (.int .i64 (l.getD i OC.ez).p)
  | [], i, h => by simp at h
  | o :: r, 0, _ => ⟨rfl, rfl⟩
  | o :: r, i + 1, h => by
    obtain ⟨h0, h1⟩ := entCells_at r i (by simpa using h)
    have e : (i + 1) * 2 = i * 2 + 2 := by omega
    have e1 : (i + 1) * 2 + 1 = i * 2 + 1 + 2 := by omega
    simp only [entCells]
    rw [e1, e]
    simp only [List.getElem?_cons_succ, List.getD_cons_succ]
    exact ⟨h0, h1⟩
theorem opCells_one : ∀ (l : List OC.Op), ∀ u ∈ opCells l, u.oneCell' = true
  | [], u, h => by simp [opCells] at h
  | o :: r, u, h => by
    simp only [opCells, List.mem_cons] at h
    rcases h with rfl | rfl | rfl | h
    · rfl
    · rfl
    · rfl
    · exact opCells_one r u h
theorem entCells_one : ∀ (l : List OC.Ent), ∀ u ∈ entCells l, u.oneCell' = true
  | [], u, h => by simp [entCells] at h
  | o :: r, u, h => by
    simp only [entCells, List.mem_cons] at h
    rcases h with rfl | rfl | h
    · rfl
    · rfl
    · exact entCells_one r u h
theorem RdO.of_owns {w : World} {base : Nat} {e : TypeId} {v : Value} {n : Nat} {xs : List OC.Op} (h : w.ownsRow base e 3 v n (opCells xs)) (hm : n ≤ 140737488355328) : RdO w v xs := by
  have hn : xs.length = n := by have := h.1; rw [opCells_len] at this; omega
  subst hn
  rcases h.2 with ⟨rfl, h0⟩ | ⟨g, cap, cur, rfl, hb, hg, hle, _⟩
  · have : xs = [] := List.length_eq_zero_iff.1 h0
    subst this; exact RdP.nil w
  · refine ⟨some ⟨g, 0, none⟩, cap, rfl, hle, ⟨hm, fun h => by cases h⟩, .inr ⟨g, 0, rfl, fun i hi => ?_⟩⟩
    obtain ⟨h0, h1, h2⟩ := opCells_at xs i hi
    exact ⟨by rw [Nat.zero_add, h.cellAt _ (by omega)]; exact h0, by rw [Nat.zero_add, h.cellAt _ (by omega)]; exact h1, by rw [Nat.zero_add, h.cellAt _ (by omega)]; exact h2⟩
theorem RdE.of_owns {w : World} {base : Nat} {e : TypeId} {v : Value} {n : Nat} {xs : List OC.Ent} (h : w.ownsRow base e 2 v n (entCells xs)) (hm : n ≤ 140737488355328) : RdE w v xs := by
  have hn : xs.length = n := by have := h.1; rw [entCells_len] at this; omega
  subst hn
  rcases h.2 with ⟨rfl, h0⟩ | ⟨g, cap, cur, rfl, hb, hg, hle, _⟩
  · have : xs = [] := List.length_eq_zero_iff.1 h0
    subst this; exact RdP.nil w
  · refine ⟨some ⟨g, 0, none⟩, cap, rfl, hle, ⟨hm, fun h => by cases h⟩, .inr ⟨g, 0, rfl, fun i hi => ?_⟩⟩
    obtain ⟨h0, h1⟩ := entCells_at xs i hi
    exact ⟨by rw [Nat.zero_add, h.cellAt _ (by omega)]; exact h0, by rw [Nat.zero_add, h.cellAt _ (by omega)]; exact h1⟩
/-- where the cells of a list lie that came in: nowhere, or from an address on -/
def SrcC (w : World) (ad : Option Addr) (m c : Nat) (cs : List Value) : Prop := (ad = none ∧ m = 0 ∧ cs = []) ∨ ∃ p, ad = some p ∧ ∀ j u, cs[j]? = some u → w.cell? (p.add j) = some u
theorem add_plain' (b off j : Nat) : (⟨b, off, none⟩ : Addr).add j = ⟨b, off + j, none⟩ := by unfold Addr.add; split <;> simp_all
theorem srcC_ops {w : World} {a : Option Addr} {m c : Nat} {xs : List OC.Op} (h : RdO w (.slice a m c) xs) : SrcC w a m c (opCells xs) := by
  obtain ⟨a', cap', hv, hl, hc, h⟩ := h
  simp at hv
  obtain ⟨rfl, rfl, rfl⟩ := hv
  rcases h with rfl | ⟨b, off, rfl, hat⟩
  · cases a with
    | none => exact .inl ⟨rfl, rfl, rfl⟩
    | some p => exact .inr ⟨p, rfl, fun j u hu => by simp [opCells] at hu⟩
  · refine .inr ⟨_, rfl, fun j u hu => ?_⟩
    rw [add_plain']
    have hj : j < (opCells xs).length := (List.getElem?_eq_some_iff.1 hu).1
    rw [opCells_len] at hj
    have hi : j / 3 < xs.length := by omega
    obtain ⟨h0, h1, h2⟩ := opCells_at xs (j / 3) hi
    obtain ⟨k0, k1, k2⟩ := hat (j / 3) hi
    have e3 : j = j / 3 * 3 ∨ j = j / 3 * 3 + 1 ∨ j = j / 3 * 3 + 2 := by omega
    rcases e3 with e | e | e
    · rw [← e] at h0; rw [hu] at h0; rw [Nat.add_comm] at k0; rw [← e, Nat.add_comm] at k0; rw [k0, ← h0]
    · rw [← e] at h1; rw [hu] at h1; rw [Nat.add_assoc, ← e] at k1; rw [k1, ← h1]
    · rw [← e] at h2; rw [hu] at h2; rw [Nat.add_assoc, ← e] at k2; rw [k2, ← h2]
theorem srcC_ents {w : World} {a : Option Addr} {m c : Nat} {xs : List OC.Ent} (h : RdE w (.slice a m c) xs) : SrcC w a m c (entCells xs) := by
  obtain ⟨a', cap', hv, hl, hc, h⟩ := h
  simp at hv
  obtain ⟨rfl, rfl, rfl⟩ := hv
  rcases h with rfl | ⟨b, off, rfl, hat⟩
  · cases a with
    | none => exact .inl ⟨rfl, rfl, rfl⟩
    | some p => exact .inr ⟨p, rfl, fun j u hu => by simp [entCells] at hu⟩
  · refine .inr ⟨_, rfl, fun j u hu => ?_⟩
    rw [add_plain']
    have hj : j < (entCells xs).length := (List.getElem?_eq_some_iff.1 hu).1
    rw [entCells_len] at hj
    have hi : j / 2 < xs.length := by omega
    obtain ⟨h0, h1⟩ := entCells_at xs (j / 2) hi
    obtain ⟨k0, k1⟩ := hat (j / 2) hi
    have e3 : j = j / 2 * 2 ∨ j = j / 2 * 2 + 1 := by omega
    rcases e3 with e | e
    · rw [← e] at h0; rw [hu] at h0; rw [Nat.add_comm] at k0; rw [← e, Nat.add_comm] at k0; rw [k0, ← h0]
    · rw [← e] at h1; rw [hu] at h1; rw [Nat.add_assoc, ← e] at k1; rw [k1, ← h1]
theorem run_append_none_cap {P : Program} {w : World} (base : Nat) (t ty e : TypeId) (i : TypeInfo) (size : Nat) (ht : P.underlying t = some (.slice e)) (hi : P.info? e = some i)
    (v : Value) (n : Nat) (xs : List Value) (hown : w.ownsRow base e size v n xs) (c : Nat) :
    (Builtin.append_ #[t, t] ty #[v, .slice none 0 c]).run P w = .ok v w := by
  rcases hown.2 with ⟨rfl, rfl⟩ | ⟨g, cap, cur, rfl, _, _, hnc, _⟩
  · simp [Builtin.append_, run_underlying ht, sizeOf, typeInfo, hi, Builtin.lenOf, Builtin.firstCells]
  · simp [Builtin.append_, run_underlying ht, sizeOf, typeInfo, hi, Builtin.lenOf, Builtin.firstCells, hnc, storeCells]
/-- one row of cells put behind one's own -/
theorem wpList_append_row1 {P : Program} {W : World} {ops : Array Oper} {rest : List Oper} {o : Oper} {a : Act} {Q : Exit → Act → World → Prop} (hgd : o.guard = none) (s x : Operand) (t : TypeId)
    (ho : o.op = .call { callee := .builtin .append, args := #[s, x], argTypes := #[t, t] })
    (base : Nat) (e : TypeId) (i : TypeInfo) (z : Value) (size bytes : Nat) (ht : P.underlying t = some (.slice e)) (hI : P.info? e = some i ∧ i.zero = some z ∧ i.size = size ∧ i.bytes = bytes) (hby : bytes ≤ 64) (hz : z.cells.size = size) (hsz : 0 < size)
    (v : Value) (n : Nat) (xs : List Value) (hs : a.eval s = v) (hown : W.ownsRow base e size v n xs) (cs : List Value) (hcs : cs.length = size) (h1c : ∀ u ∈ cs, u.oneCell' = true) (H : Nat) (hH : W.heap.size = H) (hx : a.eval x = .slice (some ⟨H, 0, none⟩) 1 1)
    (hn : n ≤ 1000000) (hbase : base ≤ W.heap.size)
    (h : ∀ v' w', w'.ownsRow base e size v' (n + 1) (xs ++ cs) → (∀ B w0, Below B w0 W → B ≤ base → Below B w0 w') → W.heap.size < w'.heap.size → (∀ p c, W.cell? p = some c → some p.block ≠ v.ownBlock → w'.cell? p = some c) → (∀ p, p.block < W.heap.size → some p.block ≠ v.ownBlock → w'.frozen? p = W.frozen? p) → (∀ B, B < W.heap.size → v.ownBlock ≠ some B → v'.ownBlock ≠ some B) → wpList P ops Q rest (a.put o.dst v') w') :
    wpList P ops Q (o :: rest) a (W.alloc (.cells cs.toArray e)) := by
  subst hH
  obtain ⟨h1, h2, h3, h4⟩ := hI
  refine wpList_append_lies _ hgd s x t ho base e i z size bytes ht h1 h2 h3 h4 hz hsz v n _ hs (hown.alloc _) ⟨W.heap.size, 0, none⟩ 1 1 cs hx (by omega) ?_ h1c (by decide) ?_ ?_ ?_ _ rfl ?_
  · intro jj y hy
    rw [add_plain', Nat.zero_add]
    refine (World.cell?_alloc_at _ _ _ _ rfl).trans ?_
    simpa using hy
  · unfold maxLen; omega
  · have : (n + 1) * bytes ≤ 1000001 * 64 := Nat.mul_le_mul (by omega) hby
    omega
  · simp; omega
  · intro g cap w' hown' hgr hat _
    have hsz := hgr.size
    refine h _ w' hown' ?_ (by simp at hsz; omega) ?_ ?_ ?_
    · intro B w0 hB hle
      exact (hB.alloc (by have := hB.size; omega) _).grown hgr (by simp; omega) (fun kk e => Nat.le_trans hle ((hown.lt kk e).1))
    · intro p c hc hne
      exact hgr.cell (((Below.refl _ _).alloc (Nat.le_refl _) _ |>.cell (p := p) (World.block_lt_of_cell? _ _ hc)).trans hc) hne
    · intro p hp hne
      have e1 : w'.frozen? p = (W.alloc (.cells cs.toArray e)).frozen? p := World.frozen?_of_block (hgr.block p.block (by simp; omega) hne)
      rw [e1]
      exact ((Below.refl _ _).alloc (Nat.le_refl _) _).frozen hp
    · intro B hB hne e1
      have e2 : g = B := by simpa [Value.ownBlock] using e1
      subst e2
      rcases hat with h3 | h3
      · exact hne h3
      · simp at h3; omega
/-- a whole list put behind one's own, its cells wherever they lie -/
theorem wpList_append_rows {P : Program} {w : World} {ops : Array Oper} {rest : List Oper} {o : Oper} {a : Act} {Q : Exit → Act → World → Prop} (hgd : o.guard = none) (s x : Operand) (t : TypeId)
    (ho : o.op = .call { callee := .builtin .append, args := #[s, x], argTypes := #[t, t] })
    (base : Nat) (e : TypeId) (i : TypeInfo) (z : Value) (size bytes : Nat) (ht : P.underlying t = some (.slice e)) (hI : P.info? e = some i ∧ i.zero = some z ∧ i.size = size ∧ i.bytes = bytes) (hby : bytes ≤ 64) (hz : z.cells.size = size) (hsz : 0 < size)
    (v : Value) (n : Nat) (xs : List Value) (hs : a.eval s = v) (hown : w.ownsRow base e size v n xs) (ad : Option Addr) (m c : Nat) (cs : List Value) (hx : a.eval x = .slice ad m c) (hm : cs.length = m * size)
    (hc : SrcC w ad m c cs) (h1c : ∀ u ∈ cs, u.oneCell' = true)
    (hn : n + m ≤ 1000000) (hbase : base ≤ w.heap.size)
    (h : ∀ v' w', w'.ownsRow base e size v' (n + m) (xs ++ cs) → w.grownBy w' v.ownBlock → wpList P ops Q rest (a.put o.dst v') w') : wpList P ops Q (o :: rest) a w := by
  obtain ⟨h1, h2, h3, h4⟩ := hI
  rcases hc with ⟨rfl, rfl, rfl⟩ | ⟨p, rfl, hc⟩
  · have hrun := run_append_none_cap (P := P) (w := w) base t o.type e i size ht h1 v n _ hown c
    refine wpList_plain hgd fun K hK => ?_
    unfold Oper.wp
    simp [execOp, ho, resolve, invoke, builtin, hs, hx, hrun, Result.andThen]
    exact hK _ _ (h v w (by simpa using hown) ⟨rfl, rfl, rfl, Nat.le_refl _, fun _ _ _ => rfl⟩)
  · refine wpList_append_own w hgd s x t ho base e i z size bytes ht h1 h2 h3 h4 hz hsz v n _ hs hown p m c cs hx hm hc h1c (by unfold maxLen; omega) ?_ hbase ?_
    · have : (n + m) * bytes ≤ 1000000 * 64 := Nat.mul_le_mul hn hby
      omega
    · intro v' w' hown' hgr _
      exact h v' w' hown' hgr
end Go.Proofs.YtfnkafnjpldaoaaDoor
