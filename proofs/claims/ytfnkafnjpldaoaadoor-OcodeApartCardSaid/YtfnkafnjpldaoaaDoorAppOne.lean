/- Appending one number to a list of the call's own, as one law with all its side conditions paid. -/
import Derived.Test.YtfnkafnjpldaoaaDoorRd
import Derived.OwnWalk
import Derived.Deep.AppendLies
namespace Go.Proofs.YtfnkafnjpldaoaaDoor
open Go.RowKit
set_option linter.unusedVariables false

theorem add_plain0 (b off j : Nat) : (⟨b, off, none⟩ : Addr).add j = ⟨b, off + j, none⟩ := by unfold Addr.add; split <;> simp_all
theorem wpList_append_one {P : Program} {W : World} {ops : Array Oper} {rest : List Oper} {o : Oper} {a : Act} {Q : Exit → Act → World → Prop} (hgd : o.guard = none) (s x : Operand) (t : TypeId)
    (ho : o.op = .call { callee := .builtin .append, args := #[s, x], argTypes := #[t, t] })
    (base : Nat) (e : TypeId) (i : TypeInfo) (k : IntKind) (bytes : Nat) (ht : P.underlying t = some (.slice e)) (hI : P.info? e = some i ∧ i.zero = some (.int k 0) ∧ i.size = 1 ∧ i.bytes = bytes) (hby : bytes ≤ 8)
    (v : Value) (n : Nat) (xs : List Int) (hs : a.eval s = v) (hown : W.ownsRow base e 1 v n (xs.map (.int k))) (u : Int) (hx : a.eval x = .slice (some ⟨W.heap.size, 0, none⟩) 1 1)
    (hn : n ≤ 4294967296) (hbase : base ≤ W.heap.size)
    (h : ∀ v' w', w'.ownsRow base e 1 v' (n + 1) ((xs ++ [u]).map (.int k)) → (∀ p c, W.cell? p = some c → some p.block ≠ v.ownBlock → w'.cell? p = some c) → (∀ B w0, Below B w0 W → B ≤ base → Below B w0 w') → W.heap.size < w'.heap.size → (∀ B, B < W.heap.size → v.ownBlock ≠ some B → v'.ownBlock ≠ some B) → wpList P ops Q rest (a.put o.dst v') w') :
    wpList P ops Q (o :: rest) a (W.alloc (.cells #[.int k u] e)) := by
  obtain ⟨h1, h2, h3, h4⟩ := hI
  refine wpList_append_lies _ hgd s x t ho base e i (.int k 0) 1 bytes ht h1 h2 h3 h4 rfl (by decide) v n _ hs (hown.alloc _) ⟨W.heap.size, 0, none⟩ 1 1 [.int k u] hx rfl ?_ ?_ (by decide) ?_ ?_ ?_ _ rfl ?_
  · intro jj y hy
    match jj, hy with
    | 0, hy => simp at hy; subst hy; rw [add_plain0]; exact (World.cell?_alloc_at _ _ _ _ rfl).trans rfl
  · intro y hy; simp at hy; subst hy; rfl
  · unfold maxLen; omega
  · have : (n + 1) * bytes ≤ 4294967297 * 8 := Nat.mul_le_mul (by omega) hby
    omega
  · simp; omega
  · intro g cap w' hown' hgr hat _
    have hsz := hgr.size
    refine h _ w' (by simpa using hown') ?_ ?_ (by simp at hsz; omega) ?_
    · intro p c hc hne
      exact hgr.cell (((below_alloc W _).cell (p := p) (World.block_lt_of_cell? _ _ hc)).trans hc) hne
    · intro B w0 hB hle
      exact (hB.alloc (by omega) _).grown hgr (by simp; omega) (fun kk e => Nat.le_trans hle ((hown.lt kk e).1))
    · intro B hB hne e1
      have e2 : g = B := by simpa [Value.ownBlock] using e1
      subst e2
      rcases hat with h3 | h3
      · exact hne h3
      · simp at h3; omega
theorem step_append_one {P : Program} {W : World} {ops : Array Oper} {o : Oper} {a : Act} {K : Act → World → Prop} {Q : Exit → Act → World → Prop} {E : Prop} (hgd : o.guard = none) (s x : Operand) (t : TypeId)
    (ho : o.op = .call { callee := .builtin .append, args := #[s, x], argTypes := #[t, t] })
    (base : Nat) (e : TypeId) (i : TypeInfo) (k : IntKind) (bytes : Nat) (ht : P.underlying t = some (.slice e)) (hI : P.info? e = some i ∧ i.zero = some (.int k 0) ∧ i.size = 1 ∧ i.bytes = bytes) (hby : bytes ≤ 8)
    (v : Value) (n : Nat) (xs : List Int) (hs : a.eval s = v) (hown : W.ownsRow base e 1 v n (xs.map (.int k))) (u : Int) (hx : a.eval x = .slice (some ⟨W.heap.size, 0, none⟩) 1 1)
    (hn : n ≤ 4294967296) (hbase : base ≤ W.heap.size)
    (h : ∀ v' w', w'.ownsRow base e 1 v' (n + 1) ((xs ++ [u]).map (.int k)) → (∀ p c, W.cell? p = some c → some p.block ≠ v.ownBlock → w'.cell? p = some c) → (∀ B w0, Below B w0 W → B ≤ base → Below B w0 w') → W.heap.size < w'.heap.size → (∀ B, B < W.heap.size → v.ownBlock ≠ some B → v'.ownBlock ≠ some B) → K (a.put o.dst v') w') :
    if Region.wanted o (yielded ops a.tmps) = true then Oper.wp P o a (W.alloc (.cells #[.int k u] e)) K Q else E := by
  obtain ⟨h1, h2, h3, h4⟩ := hI
  refine step_append_lies _ hgd s x t ho base e i (.int k 0) 1 bytes ht h1 h2 h3 h4 rfl (by decide) v n _ hs (hown.alloc _) ⟨W.heap.size, 0, none⟩ 1 1 [.int k u] hx rfl ?_ ?_ (by decide) ?_ ?_ ?_ _ rfl ?_
  · intro jj y hy
    match jj, hy with
    | 0, hy => simp at hy; subst hy; rw [add_plain0]; exact (World.cell?_alloc_at _ _ _ _ rfl).trans rfl
  · intro y hy; simp at hy; subst hy; rfl
  · unfold maxLen; omega
  · have : (n + 1) * bytes ≤ 4294967297 * 8 := Nat.mul_le_mul (by omega) hby
    omega
  · simp; omega
  · intro g cap w' hown' hgr hat _
    have hsz := hgr.size
    refine h _ w' (by simpa using hown') ?_ ?_ (by simp at hsz; omega) ?_
    · intro p c hc hne
      exact hgr.cell (((below_alloc W _).cell (p := p) (World.block_lt_of_cell? _ _ hc)).trans hc) hne
    · intro B w0 hB hle
      exact (hB.alloc (by omega) _).grown hgr (by simp; omega) (fun kk e => Nat.le_trans hle ((hown.lt kk e).1))
    · intro B hB hne e1
      have e2 : g = B := by simpa [Value.ownBlock] using e1
      subst e2
      rcases hat with h3 | h3
      · exact hne h3
      · simp at h3; omega
end Go.Proofs.YtfnkafnjpldaoaaDoor
