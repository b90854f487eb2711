/- What the laws with two or more scans share. -/
import Derived.Test.YtpcepfoebkmbgaaLxScanC
import Derived.Test.YtpcepfoebkmbgaaLxOpen
import Derived.ArgAppend
namespace Go.Proofs.Ytpcepfoebkmbgaa
open Go.RowKit
set_option linter.unusedVariables false
theorem scan_bad_le {l : LX.Bs} {e p : Nat} (h : LX.scan l = .bad e p) : p ≤ l.length := by
  by_cases hl : l.length ≤ 40000
  · have hr := LX.raw_rise (l.length + 1) l 0 (by omega)
    rcases LX.scan_bad_raw h hl with ⟨hi, _, hp⟩ | ⟨_, he⟩ | ⟨_, _, _, hp⟩
    · have := (hr.2.1 _ (List.getElem_mem hi)).2; omega
    · have := (hr.2.2.1 e p he).2; omega
    · omega
  · rw [LX.scan_long (by omega)] at h
    injection h with h1 h2; omega
theorem below_of_grown {w w' : World} (h : w.grownBy w' none) : Below w.heap.size w w' := (Below.refl w.heap.size w).grown h (Nat.le_refl _) (fun k e => by cases e)
theorem wpList_append_fresh {P : Program} {W : World} {ops : Array Oper} {rest : List Oper} {o : Oper} {a : Act} {Q : Exit → Act → World → Prop} (hgd : o.guard = none) (s x : Operand) (t : TypeId)
    (ho : o.op = .call { callee := .builtin .append, args := #[s, x], argTypes := #[t, t] })
    (e : TypeId) (i : TypeInfo) (z : Value) (size bytes : Nat) (ht : P.underlying t = some (.slice e)) (hI : P.info? e = some i ∧ i.zero = some z ∧ i.size = size ∧ i.bytes = bytes) (hby : bytes ≤ 64) (hz : z.cells.size = size) (hsz : 0 < size)
    (hs : a.eval s = .slice none 0 0) (b off m c : Nat) (hx : a.eval x = .slice (some ⟨b, off, none⟩) m c) (news : List Value) (hl : news.length = m * size) (hnews : ∀ j u, news[j]? = some u → W.cell? ⟨b, off + j, none⟩ = some u) (h1c : ∀ u ∈ news, u.oneCell' = true) (hm : m ≤ 1000000)
    (h : ∀ v' w', w'.ownsRow W.heap.size e size v' m news → Below W.heap.size W w' → wpList P ops Q rest (a.put o.dst v') w') : wpList P ops Q (o :: rest) a W := by
  obtain ⟨h1, h2, h3, h4⟩ := hI
  by_cases h0 : m = 0
  · subst h0
    obtain rfl : news = [] := List.eq_nil_of_length_eq_zero (by simpa using hl)
    refine wpList_plain hgd fun K hK => ?_
    have hrun : (Builtin.append_ #[t, t] o.type #[.slice none 0 0, .slice (some ⟨b, off, none⟩) 0 c]).run P W = .ok (.slice none 0 0) W := by
      simp [Builtin.append_, run_underlying ht, sizeOf, typeInfo, h1, Builtin.lenOf, Builtin.firstCells, loadCells, loadCellsFrom]
    unfold Oper.wp
    simp [execOp, ho, resolve, invoke, builtin, hs, hx, hrun, Result.andThen]
    exact hK _ _ (h _ W (World.ownsRow_nil W _ e size) (Below.refl _ _))
  · have hbb : m * bytes ≤ 1000000 * 64 := Nat.mul_le_mul hm hby
    refine wpList_append_grows W hgd s x t ho e i z size bytes ht h1 h2 h3 h4 hz hsz none 0 0 [] hs (fun _ => ⟨rfl, rfl⟩) (by simp) (fun b h => by cases h) ⟨b, off, none⟩ m c news hx hl (fun j u hj => by rw [add_plain]; exact hnews j u hj) h1c (by omega) (by unfold maxLen; omega) (by rw [Nat.zero_add]; omega) ?_
    intro v' w' hown hg
    exact h v' w' (by simpa using hown) (below_of_grown hg)
/-- the cells of a slice's first k tokens -/
theorem rd_cells {w : World} {b off : Nat} {ts : List LX.Tok} (hc : ∀ i, i < ts.length →
    w.cell? ⟨b, off + i * 4, none⟩ = some (.int .i64 ((ts.getD i tz).kind : Int)) ∧ w.cell? ⟨b, off + i * 4 + 1, none⟩ = some (.string ⟨(ts.getD i tz).s.toArray⟩) ∧
    w.cell? ⟨b, off + i * 4 + 2, none⟩ = some (.int .i64 (ts.getD i tz).n) ∧ w.cell? ⟨b, off + i * 4 + 3, none⟩ = some (.int .i64 ((ts.getD i tz).pos : Int))) (k : Nat) (hk : k ≤ ts.length) :
    ∀ j u, ((ts.take k).flatMap tcells)[j]? = some u → w.cell? ⟨b, off + j, none⟩ = some u := by
  intro j u hu
  have hj : j < k * 4 := by
    have := (List.getElem?_eq_some_iff.1 hu).1
    rw [tcells_len, List.length_take] at this; omega
  obtain ⟨i, r, hi, hr, rfl⟩ : ∃ i r, i < k ∧ r < 4 ∧ j = i * 4 + r := ⟨j / 4, j % 4, by omega, by omega, by omega⟩
  rw [tcells_at (ts.take k) i r (by rw [List.length_take]; omega) hr] at hu
  have e : (ts.take k).getD i tz = ts.getD i tz := by simp [List.getD_eq_getElem?_getD, hi]
  rw [e] at hu
  obtain ⟨f0, f1, f2, f3⟩ := hc i (by omega)
  rw [← Nat.add_assoc]
  rcases (by omega : r = 0 ∨ r = 1 ∨ r = 2 ∨ r = 3) with rfl | rfl | rfl | rfl
  · have hu' : some (Value.int .i64 ((ts.getD i tz).kind : Int)) = some u := hu
    rw [← hu']; exact f0
  · have hu' : some (Value.string ⟨(ts.getD i tz).s.toArray⟩) = some u := hu
    rw [← hu']; exact f1
  · have hu' : some (Value.int .i64 (ts.getD i tz).n) = some u := hu
    rw [← hu']; exact f2
  · have hu' : some (Value.int .i64 ((ts.getD i tz).pos : Int)) = some u := hu
    rw [← hu']; exact f3
theorem tcells_one (ts : List LX.Tok) : ∀ u ∈ ts.flatMap tcells, u.oneCell' = true := by
  intro u hu
  rw [List.mem_flatMap] at hu
  obtain ⟨t, _, ht⟩ := hu
  simp [tcells] at ht
  rcases ht with rfl | rfl | rfl | rfl <;> rfl
theorem good_pos {l : ByteArray} {us : List LX.Tok} (h : LX.scan (bs l) = .good us) : ∀ i, i < us.length → (us.getD i tz).pos ≤ l.size := by
  obtain ⟨ts, rfl, _⟩ := LX.scan_good_form h
  obtain ⟨_, hp⟩ := LX.scan_rise h
  intro i hi
  by_cases h0 : i < ts.length
  · have h1 := hp i h0
    rw [bs_len] at h1
    have e : (ts ++ [(⟨0, [], 0, (bs l).length⟩ : LX.Tok)]).getD i tz = ts.getD i ⟨0, [], 0, 0⟩ := by
      simp only [List.getD_eq_getElem?_getD, List.getElem?_append_left h0]; rfl
    rw [e]; omega
  · obtain rfl : i = ts.length := by simp at hi; omega
    simp [List.getD_eq_getElem?_getD, bs_len]
theorem Below.cell2 {w w' : World} (h : Below w.heap.size w w') {p : Addr} {v : Value} (hc : w.cell? p = some v) : w'.cell? p = some v := (h.cell (World.block_lt_of_cell? w p hc)).trans hc
end Go.Proofs.Ytpcepfoebkmbgaa
