/- A slice of tokens that came in: what it reads as. -/
import Derived.Test.YtpcepfoebkmbgaaDoorLxTxM
import Derived.Test.YtpcepfoebkmbgaaDoorFrame
import Derived.Deep.Slices
import Derived.ChangeSame
import Derived.SizedLaws
namespace Go.Proofs.YtpcepfoebkmbgaaDoor
open Go.ChangeShapes Go.WideShapes Go.ChangeAt Go.RowKit Go.Deep
set_option linter.unusedVariables false
def az : LX.ATok := ⟨0, [], 0, 0⟩
def TokCells (w : World) (b o : Nat) (t : LX.ATok) : Prop :=
  w.cell? ⟨b, o, none⟩ = some (.int .i64 t.kind) ∧ w.cell? ⟨b, o + 1, none⟩ = some (.string ⟨t.s.toArray⟩) ∧ w.cell? ⟨b, o + 2, none⟩ = some (.int .i64 t.n) ∧ w.cell? ⟨b, o + 3, none⟩ = some (.int .i64 t.pos)
def okTok (t : LX.ATok) : Prop := t.s.length ≤ 140737488351232 ∧ -9223372036854775808 ≤ t.n ∧ t.n ≤ 9223372036854775807
/-- a slice of tokens: its cells, as far as its length -/
def IsToks (w : World) (a : Option Addr) (len cap : Nat) (ts : List LX.ATok) : Prop :=
  ts.length = len ∧ len ≤ cap ∧ cap ≤ 9223372036854775807 ∧ (∀ t ∈ ts, okTok t) ∧ (cap = 0 ∨ ∃ b off, a = some ⟨b, off, none⟩ ∧ ∀ i, i < len → TokCells w b (off + i * 4) (ts.getD i az))
theorem TokCells.keep {w w' : World} {b o : Nat} {t : LX.ATok} (h : TokCells w b o t) (hb : Below w.heap.size w w') : TokCells w' b o t :=
  ⟨(hb.cell (p := ⟨b, o, none⟩) (World.block_lt_of_cell? _ _ h.1)).trans h.1, (hb.cell (p := ⟨b, o + 1, none⟩) (World.block_lt_of_cell? _ _ h.2.1)).trans h.2.1, (hb.cell (p := ⟨b, o + 2, none⟩) (World.block_lt_of_cell? _ _ h.2.2.1)).trans h.2.2.1, (hb.cell (p := ⟨b, o + 3, none⟩) (World.block_lt_of_cell? _ _ h.2.2.2)).trans h.2.2.2⟩
theorem IsToks.keep {w w' : World} {a : Option Addr} {len cap : Nat} {ts : List LX.ATok} (h : IsToks w a len cap ts) (hb : Below w.heap.size w w') : IsToks w' a len cap ts := by
  obtain ⟨h1, h2, h3, h4, h5⟩ := h
  refine ⟨h1, h2, h3, h4, ?_⟩
  rcases h5 with h | ⟨b, off, ha, hc⟩
  · exact .inl h
  · exact .inr ⟨b, off, ha, fun i hi => (hc i hi).keep hb⟩
theorem weights_all {H : Type} {P : Program} {e : TypeId} : ∀ {ds : List (DataW H)} {d : DataW H}, d ∈ ds → ∀ n ∈ d.weights P e, n ∈ DataW.weightsAll P e ds
  | [], d, h, _, _ => by simp at h
  | x :: r, d, h, n, hn => by
    rw [DataW.weightsAll, List.mem_append]
    rcases List.mem_cons.1 h with rfl | h
    · exact .inl hn
    · exact .inr (weights_all h n hn)
theorem tok_one {k : Nat} {l : List Value} {v : Value} (h : (l.drop k).take 1 = [v]) : l[k]? = some v := by
  cases hd : l.drop k with
  | nil => rw [hd] at h; cases h
  | cons x r =>
    rw [hd] at h
    injection h with h _
    subst h
    rw [← List.head?_drop, hd]; rfl
theorem trod_tok {H : Type} {enc : TypeId × Value → H} {W : World} {base : Nat} {spare : Nat → Bool} {held : Bool} {n : Nat} {cs : List Value} {d : DataW H} {p : List MemPlace}
    (h : DataW.trod enc Tryd.prog W base spare held n 32 cs = some (d, p)) :
    ∃ (k : Int) (s : ByteArray) (m q : Int), cs[0]? = some (.int .i64 k) ∧ cs[1]? = some (.string s) ∧ cs[2]? = some (.int .i64 m) ∧ cs[3]? = some (.int .i64 q) ∧ (Lit.int .i64 m).wf = true ∧ d = .agg [.lit (.int .i64 k), .lit (.string s.data.toList), .lit (.int .i64 m), .lit (.int .i64 q)] := by
  obtain ⟨xs, n', _, hx, hl, hxl, hf⟩ := DataW.trod_struct Tryd.underlying32 h
  match xs, hxl with
  | [x0, x1, x2, x3], _ =>
    have c3 : Tryd.prog.cellsOf 3 = 1 := by kernel_rfl
    have c9 : Tryd.prog.cellsOf 9 = 1 := by kernel_rfl
    have h0 : DataW.trod enc Tryd.prog W base spare held n' 3 ((cs.drop 0).take (Tryd.prog.cellsOf 3)) = some x0 := hf 0 _ rfl
    have h1 : DataW.trod enc Tryd.prog W base spare held n' 9 ((cs.drop 1).take (Tryd.prog.cellsOf 9)) = some x1 := hf 1 _ rfl
    have h2 : DataW.trod enc Tryd.prog W base spare held n' 3 ((cs.drop 2).take (Tryd.prog.cellsOf 3)) = some x2 := hf 2 _ rfl
    have h3 : DataW.trod enc Tryd.prog W base spare held n' 3 ((cs.drop 3).take (Tryd.prog.cellsOf 3)) = some x3 := hf 3 _ rfl
    rw [c3] at h0 h2 h3
    rw [c9] at h1
    obtain ⟨k, e0, y0, _⟩ := DataW.trod_int Tryd.underlying3 h0
    obtain ⟨s, e1, y1, _⟩ := DataW.trod_string Tryd.underlying9 h1
    obtain ⟨m, e2, y2, w2⟩ := DataW.trod_int Tryd.underlying3 h2
    obtain ⟨q, e3, y3, _⟩ := DataW.trod_int Tryd.underlying3 h3
    refine ⟨k, s, m, q, tok_one e0, tok_one e1, tok_one e2, tok_one e3, w2, ?_⟩
    simp only [Prod.mk.injEq] at hx
    rw [hx.1, y0, y1, y2, y3]; rfl
theorem isToks_of_trod {H : Type} {enc : TypeId × Value → H} {W : World} {a : Option Addr} {len cap : Nat} {d : DataW H} {p : List MemPlace}
    (h : DataW.Trod enc Tryd.prog W 0 (fun _ => true) true 28 (.slice a len cap) d p) (hw : ∀ n ∈ d.weights Tryd.prog 28, n ≤ reachBytes) : ∃ ts, IsToks W a len cap ts := by
  obtain ⟨fuel, hf⟩ := h
  have hC : Tryd.prog.cellsOf 32 = 4 := by kernel_rfl
  rcases open_slice Tryd.underlying28 hf with ⟨hcs, _⟩ | ⟨x, l, c, m, n, D, Pl, hcs, _, hl, hm, hmm, hx, hi⟩
  · simp [Value.cells] at hcs
    obtain ⟨rfl, rfl, rfl⟩ := hcs
    exact ⟨[], rfl, Nat.le_refl _, by omega, fun t ht => by simp at ht, .inl rfl⟩
  · simp [Value.cells] at hcs
    obtain ⟨rfl, rfl, rfl⟩ := hcs
    simp only [if_true] at hmm
    subst hmm
    rw [hC] at hi
    simp only [Prod.mk.injEq] at hx
    have key : ∀ i, i < len → ∃ t : LX.ATok, okTok t ∧ ∀ j v, (v, j) ∈ [(Value.int .i64 t.kind, 0), (.string ⟨t.s.toArray⟩, 1), (.int .i64 t.n, 2), (.int .i64 t.pos, 3)] → W.cell? (x.add (i * 4 + j)) = some v := by
      intro i hil
      obtain ⟨cs', hc, ht⟩ := hi i (by omega)
      obtain ⟨k, s, mm, q, e0, e1, e2, e3, w2, hd⟩ := trod_tok ht
      obtain ⟨_, hcl, hat⟩ := World.cells?_some hc
      have hsl : s.data.toList.length ≤ reachBytes := by
        refine hw _ ?_
        rw [hx.1]
        simp only [DataW.weights, Tryd.underlying28]
        refine List.mem_cons_of_mem _ (List.mem_append_left _ ?_)
        refine weights_all (d := D i) (List.mem_map.2 ⟨i, by simpa using hil, rfl⟩) _ ?_
        rw [hd]
        simp only [DataW.weights, Tryd.underlying32]
        simp [DataW.weightsEach, DataW.weights]
      have w2' := wf_i64_bd w2
      refine ⟨⟨k, s.data.toList, mm, q⟩, ⟨by simp only [reachBytes] at hsl; exact Nat.le_trans hsl (by decide), w2'.1, w2'.2⟩, ?_⟩
      intro j v hv
      have hj : j < 4 := by simp at hv; omega
      have hcell := hat j hj
      rw [Go.Deep.add_add] at hcell
      rw [hcell]
      simp at hv
      rcases hv with ⟨rfl, rfl⟩ | ⟨rfl, rfl⟩ | ⟨rfl, rfl⟩ | ⟨rfl, rfl⟩
      · exact e0
      · exact e1
      · exact e2
      · exact e3
    obtain ⟨f, hfk⟩ : ∃ f : Nat → LX.ATok, ∀ i, i < len → okTok (f i) ∧ ∀ j v, (v, j) ∈ [(Value.int .i64 (f i).kind, 0), (.string ⟨(f i).s.toArray⟩, 1), (.int .i64 (f i).n, 2), (.int .i64 (f i).pos, 3)] → W.cell? (x.add (i * 4 + j)) = some v := by
      refine ⟨fun i => if h : i < len then Classical.choose (key i h) else az, fun i hil => ?_⟩
      simp only [dif_pos hil]
      exact Classical.choose_spec (key i hil)
    refine ⟨(List.range len).map f, by simp, hl, by unfold maxLen at hm; exact hm, ?_, ?_⟩
    · intro t ht
      simp only [List.mem_map, List.mem_range] at ht
      obtain ⟨i, hil, rfl⟩ := ht
      exact (hfk i hil).1
    · by_cases h0 : m = 0
      · exact .inl h0
      · refine .inr ?_
        obtain ⟨b, off, spot⟩ := x
        have hspot : spot = none := by
          obtain ⟨cs', hc, ht⟩ := hi 0 (by omega)
          obtain ⟨k, s, mm, q, e0, _⟩ := trod_tok ht
          obtain ⟨_, hcl, hat⟩ := World.cells?_some hc
          have := (hat 0 (by omega)).trans e0
          simpa [Addr.add] using World.cell?_spot this
        subst hspot
        refine ⟨b, off, rfl, fun i hil => ?_⟩
        have e : ((List.range len).map f).getD i az = f i := by simp [hil]
        rw [e]
        have h2 := (hfk i hil).2
        have g : ∀ j, (⟨b, off, none⟩ : Addr).add (i * 4 + j) = ⟨b, off + i * 4 + j, none⟩ := fun j => by rw [add_plain]; congr 1; omega
        refine ⟨?_, ?_, ?_, ?_⟩
        · have := h2 0 (.int .i64 (f i).kind) (by simp); rw [g] at this; exact this
        · have := h2 1 (.string ⟨(f i).s.toArray⟩) (by simp); rw [g] at this; exact this
        · have := h2 2 (.int .i64 (f i).n) (by simp); rw [g] at this; exact this
        · have := h2 3 (.int .i64 (f i).pos) (by simp); rw [g] at this; exact this
end Go.Proofs.YtpcepfoebkmbgaaDoor
