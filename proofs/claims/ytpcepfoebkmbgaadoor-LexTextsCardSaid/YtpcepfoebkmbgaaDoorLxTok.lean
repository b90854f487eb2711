/- A slice of tokens that reads as a list; appending one token; what a scan answers. -/
import Derived.Test.YtpcepfoebkmbgaaDoorLxAt
import Derived.Test.YtpcepfoebkmbgaaDoorLxRaw
import Derived.OwnWalk
import Derived.Deep.AppendLies
namespace Go.Proofs.YtpcepfoebkmbgaaDoor
open Go.RowKit
set_option linter.unusedVariables false
theorem add_plain (b off j : Nat) : (⟨b, off, none⟩ : Addr).add j = ⟨b, off + j, none⟩ := by unfold Addr.add; split <;> simp_all
theorem wpList_append_row {P : Program} {W : World} {ops : Array Oper} {rest : List Oper} {o : Oper} {a : Act} {Q : Exit → Act → World → Prop} (hgd : o.guard = none) (s x : Operand) (t : TypeId)
    (ho : o.op = .call { callee := .builtin .append, args := #[s, x], argTypes := #[t, t] })
    (base : Nat) (e : TypeId) (i : TypeInfo) (z : Value) (size bytes : Nat) (ht : P.underlying t = some (.slice e)) (hI : P.info? e = some i ∧ i.zero = some z ∧ i.size = size ∧ i.bytes = bytes) (hby : bytes ≤ 64) (hz : z.cells.size = size) (hsz : 0 < size)
    (v : Value) (n : Nat) (xs : List Value) (hs : a.eval s = v) (hown : W.ownsRow base e size v n xs) (cs : List Value) (hcs : cs.length = size) (h1c : ∀ u ∈ cs, u.oneCell' = true) (H : Nat) (hH : W.heap.size = H) (hx : a.eval x = .slice (some ⟨H, 0, none⟩) 1 1)
    (hn : n ≤ 1000000) (hbase : base ≤ W.heap.size)
    (h : ∀ v' w', w'.ownsRow base e size v' (n + 1) (xs ++ cs) → (∀ B w0, Below B w0 W → B ≤ base → Below B w0 w') → W.heap.size < w'.heap.size → (∀ p c, W.cell? p = some c → some p.block ≠ v.ownBlock → w'.cell? p = some c) → (∀ p, p.block < W.heap.size → some p.block ≠ v.ownBlock → w'.frozen? p = W.frozen? p) → (∀ B, B < W.heap.size → v.ownBlock ≠ some B → v'.ownBlock ≠ some B) → wpList P ops Q rest (a.put o.dst v') w') :
    wpList P ops Q (o :: rest) a (W.alloc (.cells cs.toArray e)) := by
  subst hH
  obtain ⟨h1, h2, h3, h4⟩ := hI
  refine wpList_append_lies _ hgd s x t ho base e i z size bytes ht h1 h2 h3 h4 hz hsz v n _ hs (hown.alloc _) ⟨W.heap.size, 0, none⟩ 1 1 cs hx (by omega) ?_ h1c (by decide) ?_ ?_ ?_ _ rfl ?_
  · intro jj y hy
    rw [add_plain, Nat.zero_add]
    refine (World.cell?_alloc_at _ _ _ _ rfl).trans ?_
    simpa using hy
  · unfold maxLen; omega
  · have : (n + 1) * bytes ≤ 1000001 * 64 := Nat.mul_le_mul (by omega) hby
    omega
  · simp; omega
  · intro g cap w' hown' hgr hat _
    have hsz := hgr.size
    refine h _ w' hown' ?_ (by simp at hsz; omega) ?_ ?_ ?_
    · intro B w0 hB hle
      exact (hB.alloc (by have := hB.size; omega) _).grown hgr (by simp; omega) (fun kk e => Nat.le_trans hle ((hown.lt kk e).1))
    · intro p c hc hne
      exact hgr.cell (((Below.refl _ _).alloc (Nat.le_refl _) _ |>.cell (p := p) (World.block_lt_of_cell? _ _ hc)).trans hc) hne
    · intro p hp hne
      have e1 : w'.frozen? p = (W.alloc (.cells cs.toArray e)).frozen? p := World.frozen?_of_block (hgr.block p.block (by simp; omega) hne)
      rw [e1]
      exact ((Below.refl _ _).alloc (Nat.le_refl _) _).frozen hp
    · intro B hB hne e1
      have e2 : g = B := by simpa [Value.ownBlock] using e1
      subst e2
      rcases hat with h3 | h3
      · exact hne h3
      · simp at h3; omega
/-- a token's cells -/
def tcells (t : LX.Tok) : List Value := [.int .i64 (t.kind : Int), .string ⟨t.s.toArray⟩, .int .i64 t.n, .int .i64 (t.pos : Int)]
def tz : LX.Tok := ⟨0, [], 0, 0⟩
/-- v is a slice of tokens that reads as ts -/
def RdT (w : World) (v : Value) (ts : List LX.Tok) : Prop :=
  ∃ a cap, v = .slice a ts.length cap ∧ ts.length ≤ 1000001 ∧ (ts = [] ∨ ∃ b off, a = some ⟨b, off, none⟩ ∧ ∀ i, i < ts.length →
    w.cell? ⟨b, off + i * 4, none⟩ = some (.int .i64 ((ts.getD i tz).kind : Int)) ∧ w.cell? ⟨b, off + i * 4 + 1, none⟩ = some (.string ⟨(ts.getD i tz).s.toArray⟩) ∧
    w.cell? ⟨b, off + i * 4 + 2, none⟩ = some (.int .i64 (ts.getD i tz).n) ∧ w.cell? ⟨b, off + i * 4 + 3, none⟩ = some (.int .i64 ((ts.getD i tz).pos : Int)))
theorem RdT.keep {w w' : World} {v : Value} {ts : List LX.Tok} (h : RdT w v ts) (hb : Below w.heap.size w w') : RdT w' v ts := by
  obtain ⟨a, cap, hv, hl, h⟩ := h
  refine ⟨a, cap, hv, hl, ?_⟩
  rcases h with h | ⟨b, off, ha, hc⟩
  · exact .inl h
  · refine .inr ⟨b, off, ha, fun i hi => ?_⟩
    obtain ⟨h0, h1, h2, h3⟩ := hc i hi
    refine ⟨?_, ?_, ?_, ?_⟩
    · rw [hb.cell (p := ⟨b, off + i * 4, none⟩) (World.block_lt_of_cell? w _ h0)]; exact h0
    · rw [hb.cell (p := ⟨b, off + i * 4 + 1, none⟩) (World.block_lt_of_cell? w _ h1)]; exact h1
    · rw [hb.cell (p := ⟨b, off + i * 4 + 2, none⟩) (World.block_lt_of_cell? w _ h2)]; exact h2
    · rw [hb.cell (p := ⟨b, off + i * 4 + 3, none⟩) (World.block_lt_of_cell? w _ h3)]; exact h3
theorem RdT.nil (w : World) : RdT w (.slice none 0 0) [] := ⟨none, 0, rfl, by simp, .inl rfl⟩
theorem tcells_at (ts : List LX.Tok) : ∀ (i j : Nat), i < ts.length → j < 4 → (ts.flatMap tcells)[i * 4 + j]? = (tcells (ts.getD i tz))[j]? := by
  induction ts with
  | nil => intro i j h; simp at h
  | cons t ts ih =>
    intro i j hi hj
    rw [List.flatMap_cons]
    cases i with
    | zero =>
      rw [List.getElem?_append_left (by simp [tcells]; omega)]
      simp
    | succ i =>
      have e : (i + 1) * 4 + j = 4 + (i * 4 + j) := by omega
      rw [List.getElem?_append_right (by simp [tcells]; omega), e]
      have : 4 + (i * 4 + j) - (tcells t).length = i * 4 + j := by simp [tcells]
      rw [this, ih i j (by simpa using hi) hj]
      simp
theorem tcells_len (ts : List LX.Tok) : (ts.flatMap tcells).length = ts.length * 4 := by
  induction ts with
  | nil => rfl
  | cons t ts ih => rw [List.flatMap_cons, List.length_append, ih]; simp [tcells]; omega
theorem RdT.of_owns {w : World} {base : Nat} {e : TypeId} {v : Value} {n : Nat} {ts : List LX.Tok} (h : w.ownsRow base e 4 v n (ts.flatMap tcells)) (hl : ts.length ≤ 1000001) : RdT w v ts := by
  have hn : ts.length = n := by have := h.1; rw [tcells_len] at this; omega
  subst hn
  rcases h.2 with ⟨rfl, h0⟩ | ⟨g, cap, cur, rfl, hb, hg, h1, h2, h3, h4⟩
  · have : ts = [] := List.length_eq_zero_iff.1 h0
    subst this; exact RdT.nil w
  · refine ⟨some ⟨g, 0, none⟩, cap, rfl, hl, .inr ⟨g, 0, rfl, fun i hi => ?_⟩⟩
    have key : ∀ j, j < 4 → w.cell? ⟨g, 0 + i * 4 + j, none⟩ = (tcells (ts.getD i tz))[j]? := by
      intro j hj
      have h5 := h.cellAt (i * 4 + j) (by omega)
      rw [Nat.zero_add, h5, ← tcells_at ts i j hi hj]
    exact ⟨(key 0 (by omega)).trans rfl, (key 1 (by omega)).trans rfl, (key 2 (by omega)).trans rfl, (key 3 (by omega)).trans rfl⟩
/-- what a scan answers -/
def ScanR (r : LX.Scanned) (e : Ending) (w : World) : Prop :=
  match r with
  | .bad er p => e = .returned (.tuple #[.slice none 0 0, .int .i64 (er : Int), .int .i64 (p : Int)])
  | .good ts => ∃ v, e = .returned (.tuple #[v, .int .i64 0, .int .i64 0]) ∧ RdT w v ts
theorem ScanR.bad {r : LX.Scanned} {er p : Nat} (h : r = .bad er p) {w : World} {a b : Int} (ha : a = (er : Int)) (hb : b = (p : Int)) : ScanR r (.returned (.tuple #[.slice none 0 0, .int .i64 a, .int .i64 b])) w := by
  subst h ha hb; rfl
theorem ScanR.good {r : LX.Scanned} {ts : List LX.Tok} (h : r = .good ts) {w : World} {v : Value} (hv : RdT w v ts) : ScanR r (.returned (.tuple #[v, .int .i64 0, .int .i64 0])) w := by
  subst h; exact ⟨v, rfl, hv⟩
/-- a scan on its way: ts have been read, up to byte q -/
def ScanAt (s : ByteArray) (q : Nat) (ts : List LX.Tok) : Prop :=
  q ≤ s.size ∧ ts.length ≤ q ∧ LX.raw 0 (bs s) = (ts ++ (LX.raw q (tl s q)).1, (LX.raw q (tl s q)).2)
theorem ScanAt.start (s : ByteArray) : ScanAt s 0 [] := ⟨Nat.zero_le _, Nat.le_refl _, by rw [List.nil_append]; rfl⟩
theorem tl_skip {s : ByteArray} {q p : Nat} (hp : p = q + LX.skipG false (tl s q)) (h : p < s.size) : (tl s q).drop (LX.skipG false (tl s q)) = s[p] :: tl s (p + 1) := by
  subst hp; rw [tl_drop, tl_cons s _ h]
theorem ScanAt.bad {s : ByteArray} {q p : Nat} {ts : List LX.Tok} (h : ScanAt s q ts) (hs : s.size ≤ 40000) (hp : p = q + LX.skipG false (tl s q)) (hlt : p < s.size) {er : Nat} (ht : LX.tok s[p] (tl s (p + 1)) = .bad er) (hl : ts.length ≤ 20000) :
    LX.scan (bs s) = .bad er p := by
  have hr := LX.raw_bad (at_ := q) (tl_skip hp hlt) ht
  have h3 := h.2.2
  rw [hr, List.append_nil, ← hp] at h3
  unfold LX.scan
  rw [if_neg (by rw [bs_len]; omega), h3]
  simp only
  rw [dif_neg (by omega)]
theorem ScanAt.full {s : ByteArray} {q p : Nat} {ts : List LX.Tok} (h : ScanAt s q ts) (hs : s.size ≤ 40000) (hp : p = q + LX.skipG false (tl s q)) (hlt : p < s.size) {k : Nat} {x : LX.Bs} {n : Int} {len : Nat} (ht : LX.tok s[p] (tl s (p + 1)) = .good k x n len) (hl : ts.length = 20000) :
    LX.scan (bs s) = .bad 2 p := by
  have hr := LX.raw_good (at_ := q) (tl_skip hp hlt) ht
  have h3 := h.2.2
  rw [hr] at h3
  unfold LX.scan
  rw [if_neg (by rw [bs_len]; omega)]
  have hlen : 20000 < (LX.raw 0 (bs s)).1.length := by rw [h3]; simp; omega
  rw [dif_pos hlen]
  congr 1
  have e : (LX.raw 0 (bs s)).1[20000]? = some ⟨k, x, n, q + LX.skipG false (tl s q)⟩ := by
    rw [h3]; simp only
    rw [List.getElem?_append_right (by omega), hl]; rfl
  rw [List.getElem?_eq_getElem hlen] at e
  injection e with e
  rw [e, hp]
theorem ScanAt.more {s : ByteArray} {q p : Nat} {ts : List LX.Tok} (h : ScanAt s q ts) (hp : p = q + LX.skipG false (tl s q)) (hlt : p < s.size) {k : Nat} {x : LX.Bs} {n : Int} {len : Nat} (ht : LX.tok s[p] (tl s (p + 1)) = .good k x n len) :
    ScanAt s (p + len) (ts ++ [⟨k, x, n, p⟩]) ∧ p + len ≤ s.size ∧ 1 ≤ len := by
  have hr := LX.raw_good (at_ := q) (tl_skip hp hlt) ht
  have hl := LX.tok_len ht
  rw [tl_len] at hl
  have h3 := h.2.2
  rw [hr, ← hp] at h3
  have e : (s[p] :: tl s (p + 1)).drop len = tl s (p + len) := by rw [← tl_cons s p hlt, tl_drop]
  rw [e] at h3
  refine ⟨⟨by omega, ?_, ?_⟩, by omega, hl.1⟩
  · have := h.2.1; simp; omega
  · rw [h3]; simp
theorem ScanAt.fin_full {s : ByteArray} {q : Nat} {ts : List LX.Tok} (h : ScanAt s q ts) (hs : s.size ≤ 40000) (hp : q + LX.skipG false (tl s q) = s.size) (hl : ts.length = 20000) :
    LX.scan (bs s) = .bad 2 s.size := by
  have h0 := h.1
  have hr := LX.raw_end (at_ := q) (l := tl s q) (by rw [tl_len]; omega)
  have h3 := h.2.2
  rw [hr, List.append_nil] at h3
  unfold LX.scan
  rw [if_neg (by rw [bs_len]; omega), h3]
  simp only
  rw [dif_neg (by omega), if_pos hl, bs_len]
theorem ScanAt.fin {s : ByteArray} {q : Nat} {ts : List LX.Tok} (h : ScanAt s q ts) (hs : s.size ≤ 40000) (hp : q + LX.skipG false (tl s q) = s.size) (hl : ts.length < 20000) :
    LX.scan (bs s) = .good (ts ++ [⟨0, [], 0, s.size⟩]) := by
  have h0 := h.1
  have hr := LX.raw_end (at_ := q) (l := tl s q) (by rw [tl_len]; omega)
  have h3 := h.2.2
  rw [hr, List.append_nil] at h3
  unfold LX.scan
  rw [if_neg (by rw [bs_len]; omega), h3]
  simp only
  rw [dif_neg (by omega), if_neg (by omega), bs_len]
theorem scan_long {s : ByteArray} (h : 40000 < s.size) : LX.scan (bs s) = .bad 2 0 := by
  unfold LX.scan; rw [if_pos (by rw [bs_len]; omega)]
theorem owns_form {w : World} {base : Nat} {e : TypeId} {size : Nat} {v : Value} {n : Nat} {xs : List Value} (h : w.ownsRow base e size v n xs) : ∃ a cap, v = .slice a n cap := by
  rcases h.2 with ⟨rfl, rfl⟩ | ⟨g, cap, cur, rfl, _⟩
  · exact ⟨_, _, rfl⟩
  · exact ⟨_, _, rfl⟩
theorem owns_below {w w' : World} {base : Nat} {e : TypeId} {size : Nat} {v : Value} {n : Nat} {xs : List Value} (h : w.ownsRow base e size v n xs) (hb : Below w.heap.size w w') : w'.ownsRow base e size v n xs :=
  h.kept (row := none) ⟨hb.os, hb.tape, hb.output, hb.size, fun i hi _ => hb.block i hi⟩ (by cases v.ownBlock <;> simp)
theorem tok_bad {c : UInt8} {r : LX.Bs} {e : Nat} (h : LX.tok c r = .bad e) : 1 ≤ e := by
  unfold LX.tok at h
  split at h
  · unfold LX.wordR at h
    split at h
    · injection h with h; omega
    · split at h <;> cases h
  · split at h
    · unfold LX.numR at h
      split at h
      · injection h with h; omega
      · cases h
    · split at h
      · unfold LX.hexR at h
        split at h
        · injection h with h; omega
        · split at h
          · unfold LX.numR at h
            split at h
            · injection h with h; omega
            · cases h
          · injection h with h; omega
      · split at h
        · unfold LX.charR at h
          split at h
          · injection h with h; omega
          · split at h
            · cases h
            · injection h with h; omega
        · split at h
          · unfold LX.textR at h
            split at h
            · injection h with h; omega
            · split at h
              · injection h with h; omega
              · cases h
          · unfold LX.signR at h
            split at h
            · cases h
            · split at h
              · cases h
              · injection h with h; omega
end Go.Proofs.YtpcepfoebkmbgaaDoor
