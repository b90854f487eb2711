/- What LexBack needs: two rows of tokens that are alike are found so; appending a slice of tokens that came in; how many tokens there are ahead of the end. -/
import Derived.Test.YtpcepfoebkmbgaaDoorLxTxt
import Derived.Test.YtpcepfoebkmbgaaDoorLxAwake
import Derived.Test.YtpcepfoebkmbgaaDoorLxTok
namespace Go.Proofs.YtpcepfoebkmbgaaDoor
open Go.RowKit
set_option linter.unusedVariables false
set_option maxHeartbeats 1000000 in
theorem alike_cells (b1 o1 c1 b2 o2 c2 L : Nat) (K : Nat → Int) (S : Nat → ByteArray) (N : Nat → Int) (w : World) (hl1 : L ≤ 1000001)
    (hc1 : ∀ i, i < L → w.cell? ⟨b1, o1 + i * 4, none⟩ = some (.int .i64 (K i)) ∧ w.cell? ⟨b1, o1 + i * 4 + 1, none⟩ = some (.string (S i)) ∧ w.cell? ⟨b1, o1 + i * 4 + 2, none⟩ = some (.int .i64 (N i)))
    (hc2 : ∀ i, i < L → w.cell? ⟨b2, o2 + i * 4, none⟩ = some (.int .i64 (K i)) ∧ w.cell? ⟨b2, o2 + i * 4 + 1, none⟩ = some (.string (S i)) ∧ w.cell? ⟨b2, o2 + i * 4 + 2, none⟩ = some (.int .i64 (N i))) :
    Calls Tryd.prog 15 #[.slice (some ⟨b1, o1, none⟩) L c1, .slice (some ⟨b2, o2, none⟩) L c2] w fun e w' => e = .returned (.bool true) ∧ Below w.heap.size w w' := by
  go_enter Tryd.func15, Tryd.ntmps15
  go_wp2
  go_loopw [5] (fun i wr => ∃ k : Nat, k ≤ L ∧ i = .int .i64 k ∧ Below w.heap.size w wr) (fun i _ => L - (intOf i).toNat)
  case atStart => exact ⟨0, Nat.zero_le _, rfl, Below.refl _ _⟩
  case round =>
    obtain ⟨k, hk, rfl, hnx⟩ := hrel
    by_cases hlt : k < L
    · obtain ⟨x0, x1, x2⟩ := hc1 k hlt
      obtain ⟨y0, y1, y2⟩ := hc2 k hlt
      have q0 := (hnx.cell (p := ⟨b1, o1 + k * 4, none⟩) (World.block_lt_of_cell? w _ x0)).trans x0
      have q1 := (hnx.cell (p := ⟨b1, o1 + k * 4 + 1, none⟩) (World.block_lt_of_cell? w _ x1)).trans x1
      have q2 := (hnx.cell (p := ⟨b1, o1 + k * 4 + 2, none⟩) (World.block_lt_of_cell? w _ x2)).trans x2
      have p0 := (hnx.cell (p := ⟨b2, o2 + k * 4, none⟩) (World.block_lt_of_cell? w _ y0)).trans y0
      have p1 := (hnx.cell (p := ⟨b2, o2 + k * 4 + 1, none⟩) (World.block_lt_of_cell? w _ y1)).trans y1
      have p2 := (hnx.cell (p := ⟨b2, o2 + k * 4 + 2, none⟩) (World.block_lt_of_cell? w _ y2)).trans y2
      have k0 : (0 : Int) ≤ (k : Int) := by omega
      have k1 : (k : Int) < (L : Int) := by omega
      clear hc1 hc2 x0 x1 x2 y0 y1 y2
      generalize K k = kk at *
      generalize S k = ss at *
      generalize N k = nn at *
      go_wp2
      go_quiet (fail)
      go_wp2
      go_roundw
      case rel => exact ⟨k + 1, by omega, by go_num, below_drewN hnx _⟩
      case measure => simp [intOf]; omega
    · obtain rfl : k = L := by omega
      clear hc1 hc2
      go_wp2
      go_ret
      exact ⟨rfl, hnx⟩
/-- a token's cells -/
def acells (t : LX.ATok) : List Value := [.int .i64 t.kind, .string ⟨t.s.toArray⟩, .int .i64 t.n, .int .i64 t.pos]
theorem acells_len (ts : List LX.ATok) : (ts.flatMap acells).length = ts.length * 4 := by
  induction ts with
  | nil => rfl
  | cons t ts ih => rw [List.flatMap_cons, List.length_append, ih]; simp [acells]; omega
theorem acells_at (ts : List LX.ATok) : ∀ (i j : Nat), i < ts.length → j < 4 → (ts.flatMap acells)[i * 4 + j]? = (acells (ts.getD i az))[j]? := by
  induction ts with
  | nil => intro i j h; simp at h
  | cons t ts ih =>
    intro i j hi hj
    rw [List.flatMap_cons]
    cases i with
    | zero =>
      rw [List.getElem?_append_left (by simp [acells]; omega)]
      simp
    | succ i =>
      have e : (i + 1) * 4 + j = 4 + (i * 4 + j) := by omega
      rw [List.getElem?_append_right (by simp [acells]; omega), e]
      have : 4 + (i * 4 + j) - (acells t).length = i * 4 + j := by simp [acells]
      rw [this, ih i j (by simpa using hi) hj]
      simp
theorem acells_one (ts : List LX.ATok) : ∀ u ∈ ts.flatMap acells, u.oneCell' = true := by
  intro u hu
  rw [List.mem_flatMap] at hu
  obtain ⟨t, _, ht⟩ := hu
  simp [acells] at ht
  rcases ht with rfl | rfl | rfl | rfl <;> rfl
theorem ra_cells {w : World} {b off : Nat} {ts : List LX.ATok} (hc : ∀ i, i < ts.length → TokCells w b (off + i * 4) (ts.getD i az)) (k : Nat) (hk : k ≤ ts.length) :
    ∀ j u, ((ts.take k).flatMap acells)[j]? = some u → w.cell? ⟨b, off + j, none⟩ = some u := by
  intro j u hu
  have hj : j < k * 4 := by
    have := (List.getElem?_eq_some_iff.1 hu).1
    rw [acells_len, List.length_take] at this; omega
  obtain ⟨i, r, hi, hr, rfl⟩ : ∃ i r, i < k ∧ r < 4 ∧ j = i * 4 + r := ⟨j / 4, j % 4, by omega, by omega, by omega⟩
  rw [acells_at (ts.take k) i r (by rw [List.length_take]; omega) hr] at hu
  have e : (ts.take k).getD i az = ts.getD i az := by simp [List.getD_eq_getElem?_getD, hi]
  rw [e] at hu
  obtain ⟨f0, f1, f2, f3⟩ := hc i (by omega)
  rw [← Nat.add_assoc]
  rcases (by omega : r = 0 ∨ r = 1 ∨ r = 2 ∨ r = 3) with rfl | rfl | rfl | rfl
  · have hu' : some (Value.int .i64 (ts.getD i az).kind) = some u := hu
    rw [← hu']; exact f0
  · have hu' : some (Value.string ⟨(ts.getD i az).s.toArray⟩) = some u := hu
    rw [← hu']; exact f1
  · have hu' : some (Value.int .i64 (ts.getD i az).n) = some u := hu
    rw [← hu']; exact f2
  · have hu' : some (Value.int .i64 (ts.getD i az).pos) = some u := hu
    rw [← hu']; exact f3
/-- what a row of the call's own holds, token by token -/
theorem owns_toks {w : World} {base : Nat} {e : TypeId} {v : Value} {n : Nat} {ts : List LX.ATok} (h : w.ownsRow base e 4 v n (ts.flatMap acells)) (hp : 0 < ts.length) : ∃ g c, v = .slice (some ⟨g, 0, none⟩) ts.length c ∧ ∀ i, i < ts.length → TokCells w g (0 + i * 4) (ts.getD i az) := by
  have hn : ts.length = n := by have := h.1; rw [acells_len] at this; omega
  subst hn
  rcases h.2 with ⟨rfl, h0⟩ | ⟨g, cap, cur, rfl, hb, hg, h1, h2, h3, h4⟩
  · omega
  · refine ⟨g, cap, rfl, fun i hi => ?_⟩
    have key : ∀ j, j < 4 → w.cell? ⟨g, 0 + i * 4 + j, none⟩ = (acells (ts.getD i az))[j]? := by
      intro j hj
      have h5 := h.cellAt (i * 4 + j) (by omega)
      rw [show 0 + i * 4 + j = i * 4 + j from by omega, h5, ← acells_at ts i j hi hj]
    exact ⟨(key 0 (by omega)).trans rfl, (key 1 (by omega)).trans rfl, (key 2 (by omega)).trans rfl, (key 3 (by omega)).trans rfl⟩
theorem wpList_append_none {P : Program} {W : World} {ops : Array Oper} {rest : List Oper} {o : Oper} {a : Act} {Q : Exit → Act → World → Prop} (hgd : o.guard = none) (s x : Operand) (t : TypeId)
    (ho : o.op = .call { callee := .builtin .append, args := #[s, x], argTypes := #[t, t] }) (e : TypeId) (i : TypeInfo) (ht : P.underlying t = some (.slice e)) (hI : P.info? e = some i)
    (hs : a.eval s = .slice none 0 0) (ad : Option Addr) (c : Nat) (hx : a.eval x = .slice ad 0 c)
    (h : wpList P ops Q rest (a.put o.dst (.slice none 0 0)) W) : wpList P ops Q (o :: rest) a W := by
  refine wpList_plain hgd fun K hK => ?_
  have hrun : (Builtin.append_ #[t, t] o.type #[.slice none 0 0, .slice ad 0 c]).run P W = .ok (.slice none 0 0) W := by
    cases ad <;> simp [Builtin.append_, run_underlying ht, sizeOf, typeInfo, hI, Builtin.lenOf, Builtin.firstCells, loadCells, loadCellsFrom]
  unfold Oper.wp
  simp [execOp, ho, resolve, invoke, builtin, hs, hx, hrun, Result.andThen]
  exact hK _ _ h
namespace LX
def CountAt (ts : List ATok) (k : Nat) : Prop := count ts = k + count (ts.drop k)
theorem CountAt.start (ts : List ATok) : CountAt ts 0 := by simp [CountAt]
theorem CountAt.more {ts : List ATok} {k : Nat} (h : CountAt ts k) (hk : k < ts.length) {d : ATok} (h0 : (ts.getD k d).kind ≠ 0) : CountAt ts (k + 1) := by
  unfold CountAt at h ⊢; rw [h, drop_at hk d, count, if_neg h0]; omega
theorem CountAt.stop {ts : List ATok} {k : Nat} (h : CountAt ts k) (hk : k < ts.length) {d : ATok} (h0 : (ts.getD k d).kind = 0) : count ts = k := by
  unfold CountAt at h; rw [h, drop_at hk d, count, if_pos h0]; omega
theorem CountAt.ends {ts : List ATok} {k : Nat} (h : CountAt ts k) (hk : k = ts.length) : count ts = k := by
  unfold CountAt at h; rw [h, hk, List.drop_length]; simp [count]
end LX
end Go.Proofs.YtpcepfoebkmbgaaDoor
namespace Go.Proofs.YtpcepfoebkmbgaaDoor
open Go.RowKit
set_option linter.unusedVariables false
theorem below_of_grown {w w' : World} (h : w.grownBy w' none) : Below w.heap.size w w' := (Below.refl w.heap.size w).grown h (Nat.le_refl _) (fun k e => by cases e)
theorem wpList_append_fresh {P : Program} {W : World} {ops : Array Oper} {rest : List Oper} {o : Oper} {a : Act} {Q : Exit → Act → World → Prop} (hgd : o.guard = none) (s x : Operand) (t : TypeId)
    (ho : o.op = .call { callee := .builtin .append, args := #[s, x], argTypes := #[t, t] })
    (e : TypeId) (i : TypeInfo) (z : Value) (size bytes : Nat) (ht : P.underlying t = some (.slice e)) (hI : P.info? e = some i ∧ i.zero = some z ∧ i.size = size ∧ i.bytes = bytes) (hby : bytes ≤ 64) (hz : z.cells.size = size) (hsz : 0 < size)
    (hs : a.eval s = .slice none 0 0) (b off m c : Nat) (hx : a.eval x = .slice (some ⟨b, off, none⟩) m c) (news : List Value) (hl : news.length = m * size) (hnews : ∀ j u, news[j]? = some u → W.cell? ⟨b, off + j, none⟩ = some u) (h1c : ∀ u ∈ news, u.oneCell' = true) (hm : m ≤ 1000000)
    (h : ∀ v' w', w'.ownsRow W.heap.size e size v' m news → Below W.heap.size W w' → wpList P ops Q rest (a.put o.dst v') w') : wpList P ops Q (o :: rest) a W := by
  obtain ⟨h1, h2, h3, h4⟩ := hI
  by_cases h0 : m = 0
  · subst h0
    obtain rfl : news = [] := List.eq_nil_of_length_eq_zero (by simpa using hl)
    refine wpList_plain hgd fun K hK => ?_
    have hrun : (Builtin.append_ #[t, t] o.type #[.slice none 0 0, .slice (some ⟨b, off, none⟩) 0 c]).run P W = .ok (.slice none 0 0) W := by
      simp [Builtin.append_, run_underlying ht, sizeOf, typeInfo, h1, Builtin.lenOf, Builtin.firstCells, loadCells, loadCellsFrom]
    unfold Oper.wp
    simp [execOp, ho, resolve, invoke, builtin, hs, hx, hrun, Result.andThen]
    exact hK _ _ (h _ W (World.ownsRow_nil W _ e size) (Below.refl _ _))
  · have hbb : m * bytes ≤ 1000000 * 64 := Nat.mul_le_mul hm hby
    refine wpList_append_grows W hgd s x t ho e i z size bytes ht h1 h2 h3 h4 hz hsz none 0 0 [] hs (fun _ => ⟨rfl, rfl⟩) (by simp) (fun b h => by cases h) ⟨b, off, none⟩ m c news hx hl (fun j u hj => by rw [add_plain]; exact hnews j u hj) h1c (by omega) (by unfold maxLen; omega) (by rw [Nat.zero_add]; omega) ?_
    intro v' w' hown hg
    exact h v' w' (by simpa using hown) (below_of_grown hg)
theorem wpList_unguard {P : Program} {ops : Array Oper} {Q : Exit → Act → World → Prop} {a : Act} {w : World} {rest : List Oper} {d : Option Tmp} {op : Op} {ty : TypeId} {pos : String} {af : Array Edge} {g : Option (Nat × Bool)} (hw : Region.wanted ⟨d, op, ty, pos, af, g⟩ (yielded ops a.tmps) = true) (h : wpList P ops Q (⟨d, op, ty, pos, af, none⟩ :: rest) a w) : wpList P ops Q (⟨d, op, ty, pos, af, g⟩ :: rest) a w := by
  simp only [wpList, hw, if_true]
  simp only [wpList, Region.wanted, if_true] at h
  exact h
/-- what a scan of a text gave: the tokens that came in, as far as the end, and the end -/
def ScanB (w : World) (b1 o1 k : Nat) (ts : List LX.ATok) : Prop :=
  ∀ i, i < k + 1 → w.cell? ⟨b1, o1 + i * 4, none⟩ = some (.int .i64 ((ts.take k ++ [az]).getD i az).kind) ∧ w.cell? ⟨b1, o1 + i * 4 + 1, none⟩ = some (.string ⟨((ts.take k ++ [az]).getD i az).s.toArray⟩) ∧ w.cell? ⟨b1, o1 + i * 4 + 2, none⟩ = some (.int .i64 ((ts.take k ++ [az]).getD i az).n)
theorem Scan_back {x : LX.Bs} {ts : List LX.ATok} {k : Nat} (h : LX.text false ts = some x) (hx : x.length ≤ 40000) (hc : LX.count ts = k) (hk : k < 20000) (W : World) :
    Calls Tryd.prog 14 #[.string ⟨x.toArray⟩] W fun e w' => ∃ b1 o1 c1, e = .returned (.tuple #[.slice (some ⟨b1, o1, none⟩) (k + 1) c1, .int .i64 0, .int .i64 0]) ∧ ScanB w' b1 o1 k ts ∧ Below W.heap.size W w' := by
  obtain ⟨us, hsc, hsl, hsame⟩ := LX.text_scan h hx (by omega)
  have husl : us.length = k := by rw [hsl, hc]
  have hkl : k ≤ ts.length := by have := LX.count_le ts; omega
  refine (Scan_good (s := ⟨x.toArray⟩) hsc W).mono ?_
  rintro e w' ⟨v, rfl, hr, hb⟩
  have hl1 : (us ++ [(⟨0, [], 0, x.length⟩ : LX.Tok)]).length = k + 1 := by simp [husl]
  obtain ⟨a, c, rfl, _, hrr⟩ := hr
  obtain ⟨b1, o1, rfl, hc1⟩ := hrr.resolve_left (by simp)
  rw [hl1] at hc1 ⊢
  refine ⟨b1, o1, c, rfl, ?_, hb⟩
  intro i hi
  obtain ⟨y0, y1, y2, _⟩ := hc1 i hi
  by_cases hik : i < k
  · have e1 : (us ++ [(⟨0, [], 0, x.length⟩ : LX.Tok)]).getD i tz = us.getD i tz := by
      simp only [List.getD_eq_getElem?_getD]; rw [List.getElem?_append_left (by omega)]
    have e2 : (ts.take k ++ [az]).getD i az = ts.getD i az := by
      simp only [List.getD_eq_getElem?_getD]; rw [List.getElem?_append_left (by rw [List.length_take]; omega)]; simp [hik]
    rw [e1] at y0 y1 y2
    obtain ⟨s0, s1, s2⟩ : ((us.getD i tz).kind : Int) = (ts.getD i az).kind ∧ (us.getD i tz).s = (ts.getD i az).s ∧ (us.getD i tz).n = (ts.getD i az).n := hsame i (by omega)
    rw [s0] at y0
    rw [s1] at y1
    rw [s2] at y2
    rw [e2]
    exact ⟨y0, y1, y2⟩
  · obtain rfl : i = k := by omega
    have e1 : (us ++ [(⟨0, [], 0, x.length⟩ : LX.Tok)]).getD i tz = ⟨0, [], 0, x.length⟩ := by
      simp only [List.getD_eq_getElem?_getD]; rw [List.getElem?_append_right (by omega), husl]; simp
    have e2 : (ts.take i ++ [az]).getD i az = az := by
      simp only [List.getD_eq_getElem?_getD]; rw [List.getElem?_append_right (by rw [List.length_take]; omega), List.length_take, Nat.min_eq_left hkl]; simp
    rw [e1] at y0 y1 y2
    rw [e2]
    exact ⟨y0, y1, y2⟩
theorem alike_back {w W : World} {b1 o1 c1 k base : Nat} {ts : List LX.ATok} {v5 : Value} {e : TypeId} (hr : ScanB w b1 o1 k ts) (hb : Below w.heap.size w W)
    (hown : W.ownsRow base e 4 v5 (k + 1) ((ts.take k).flatMap acells ++ [.int .i64 0, .string ⟨#[]⟩, .int .i64 0, .int .i64 0])) (hk : k ≤ ts.length) (hk2 : k < 20000) :
    ∃ g c2, v5 = .slice (some ⟨g, 0, none⟩) (k + 1) c2 ∧ Calls Tryd.prog 15 #[.slice (some ⟨b1, o1, none⟩) (k + 1) c1, .slice (some ⟨g, 0, none⟩) (k + 1) c2] W fun e w' => e = .returned (.bool true) ∧ Below W.heap.size W w' := by
  have hown2 : W.ownsRow base e 4 v5 (k + 1) ((ts.take k ++ [az]).flatMap acells) := by
    rw [List.flatMap_append]; exact hown
  have hl2 : (ts.take k ++ [az]).length = k + 1 := by simp [List.length_take]; omega
  obtain ⟨g, c2, rfl, hc2⟩ := owns_toks hown2 (by omega)
  rw [hl2] at hc2 ⊢
  refine ⟨g, c2, rfl, ?_⟩
  refine alike_cells b1 o1 c1 g 0 c2 (k + 1) (fun i => ((ts.take k ++ [az]).getD i az).kind) (fun i => ⟨((ts.take k ++ [az]).getD i az).s.toArray⟩) (fun i => ((ts.take k ++ [az]).getD i az).n) W (by omega) ?_ (fun i hi => ⟨(hc2 i hi).1, (hc2 i hi).2.1, (hc2 i hi).2.2.1⟩)
  intro i hi
  obtain ⟨x0, x1, x2⟩ := hr i hi
  exact ⟨(hb.cell (p := ⟨b1, o1 + i * 4, none⟩) (World.block_lt_of_cell? w _ x0)).trans x0, (hb.cell (p := ⟨b1, o1 + i * 4 + 1, none⟩) (World.block_lt_of_cell? w _ x1)).trans x1, (hb.cell (p := ⟨b1, o1 + i * 4 + 2, none⟩) (World.block_lt_of_cell? w _ x2)).trans x2⟩
end Go.Proofs.YtpcepfoebkmbgaaDoor
