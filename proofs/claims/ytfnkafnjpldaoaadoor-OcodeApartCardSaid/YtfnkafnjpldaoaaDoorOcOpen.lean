/- Code that came in: what it reads as. -/
import Derived.Test.YtfnkafnjpldaoaaDoorOcRd
import Derived.Test.YtfnkafnjpldaoaaDoorFrame
import Derived.Deep.Slices
import Derived.ChangeSame
import Derived.SizedLaws
namespace Go.Proofs.YtfnkafnjpldaoaaDoor
open Go.ChangeShapes Go.WideShapes Go.ChangeAt Go.RowKit Go.Deep
set_option linter.unusedVariables false
theorem weightsAll_mem {H : Type} {P : Program} {e : TypeId} : ∀ {ds : List (DataW H)} {d : DataW H}, d ∈ ds → ∀ n ∈ d.weights P e, n ∈ DataW.weightsAll P e ds
  | [], d, h, _, _ => by simp at h
  | x :: r, d, h, n, hn => by
    rw [DataW.weightsAll, List.mem_append]
    rcases List.mem_cons.1 h with rfl | h
    · exact .inl hn
    · exact .inr (weightsAll_mem h n hn)
theorem one_at {k : Nat} {l : List Value} {v : Value} (h : (l.drop k).take 1 = [v]) : l[k]? = some v := by
  cases hd : l.drop k with
  | nil => rw [hd] at h; cases h
  | cons x r =>
    rw [hd] at h
    injection h with h _
    subst h
    rw [← List.head?_drop, hd]; rfl
theorem cap_of_weights {H : Type} {enc : TypeId × Value → H} {W : World} {a : Option Addr} {len cap fuel : Nat} {d : DataW H} {p : List MemPlace} {T E : TypeId}
    (hT : Tryd.prog.underlying T = some (.slice E)) (hB : 0 < Tryd.prog.bytesOf E)
    (h : DataW.trod enc Tryd.prog W 0 (fun _ => true) true fuel T [.slice a len cap] = some (d, p)) (hw : ∀ n ∈ d.weights Tryd.prog T, n ≤ reachBytes) : cap ≤ 140737488355328 := by
  rcases open_slice hT h with ⟨hcs, _⟩ | ⟨x, l, c, m, n, D, Pl, hcs, _, hl, hm, hmm, hx, hi⟩
  · simp at hcs; omega
  · simp at hcs
    obtain ⟨rfl, rfl, rfl⟩ := hcs
    simp only [if_true] at hmm
    simp only [Prod.mk.injEq] at hx
    have h1 := hw ((len + (m - len)) * Tryd.prog.bytesOf E) (by rw [hx.1]; simp [DataW.weights, hT])
    have h2 : len + (m - len) ≤ (len + (m - len)) * Tryd.prog.bytesOf E := Nat.le_mul_of_pos_right _ hB
    have h3 : reachBytes ≤ 140737488355328 := by decide
    omega
/-- a slice of structs that came in reads as a list, if each struct does -/
theorem rdP_of_trod {α H : Type} {enc : TypeId × Value → H} {W : World} {a : Option Addr} {len cap fuel sz : Nat} {d : DataW H} {p : List MemPlace} {T E : TypeId} (Pt : World → Nat → Nat → α → Prop) (x0 : α) (ok : α → Prop)
    (hT : Tryd.prog.underlying T = some (.slice E)) (hC : Tryd.prog.cellsOf E = sz) (hsz : 0 < sz) (hB : 0 < Tryd.prog.bytesOf E)
    (hrow : ∀ n cs (x : DataW H × List MemPlace), DataW.trod enc Tryd.prog W 0 (fun _ => true) true n E cs = some x → (∀ n ∈ x.1.weights Tryd.prog E, n ≤ reachBytes) →
      ∃ y : α, ok y ∧ (∃ v, cs[0]? = some v) ∧ ∀ b o, (∀ j, j < sz → W.cell? ⟨b, o + j, none⟩ = cs[j]?) → Pt W b o y)
    (h : DataW.trod enc Tryd.prog W 0 (fun _ => true) true fuel T [.slice a len cap] = some (d, p)) (hw : ∀ n ∈ d.weights Tryd.prog T, n ≤ reachBytes) : ∃ xs : List α, RdP sz Pt x0 W (.slice a len cap) xs ∧ ∀ x ∈ xs, ok x := by
  have hcap := cap_of_weights hT hB h hw
  rcases open_slice hT h with ⟨hcs, _⟩ | ⟨x, l, c, m, n, D, Pl, hcs, _, hl, hm, hmm, hx, hi⟩
  · simp at hcs
    obtain ⟨rfl, rfl, rfl⟩ := hcs
    exact ⟨[], RdP.nil W, fun x hx => by simp at hx⟩
  · simp at hcs
    obtain ⟨rfl, rfl, rfl⟩ := hcs
    simp only [if_true] at hmm
    subst hmm
    rw [hC] at hi
    simp only [Prod.mk.injEq] at hx
    have key : ∀ i, i < len → ∃ y : α, ok y ∧ (∃ v, W.cell? (x.add (i * sz)) = some v) ∧ ∀ b o, (∀ j, j < sz → W.cell? ⟨b, o + j, none⟩ = W.cell? (x.add (i * sz + j))) → Pt W b o y := by
      intro i hil
      obtain ⟨cs', hc, ht⟩ := hi i (by omega)
      obtain ⟨_, hcl, hat⟩ := World.cells?_some hc
      obtain ⟨y, hok, ⟨v, hv⟩, hp⟩ := hrow _ _ _ ht (by
        intro k hk
        refine hw _ ?_
        rw [hx.1]
        simp only [DataW.weights, hT]
        refine List.mem_cons_of_mem _ (List.mem_append_left _ ?_)
        exact weightsAll_mem (d := D i) (List.mem_map.2 ⟨i, by simpa using hil, rfl⟩) _ hk)
      refine ⟨y, hok, ⟨v, ?_⟩, fun b o hbo => hp b o fun j hj => ?_⟩
      · have := hat 0 (by omega)
        rw [Go.Deep.add_add, Nat.add_zero] at this
        rw [this, hv]
      · rw [hbo j hj]
        have := hat j (by omega)
        rw [Go.Deep.add_add] at this
        exact this
    obtain ⟨f, hfk⟩ : ∃ f : Nat → α, ∀ i, i < len → ok (f i) ∧ (∃ v, W.cell? (x.add (i * sz)) = some v) ∧ ∀ b o, (∀ j, j < sz → W.cell? ⟨b, o + j, none⟩ = W.cell? (x.add (i * sz + j))) → Pt W b o (f i) := by
      refine ⟨fun i => if h : i < len then Classical.choose (key i h) else x0, fun i hil => ?_⟩
      simp only [dif_pos hil]
      exact Classical.choose_spec (key i hil)
    refine ⟨(List.range len).map f, ⟨some x, m, (by simp), by simpa using hl, ⟨by simp; omega, fun h => by cases h⟩, ?_⟩, ?_⟩
    · by_cases h0 : len = 0
      · subst h0; exact .inl (by simp)
      · refine .inr ?_
        obtain ⟨b, off, spot⟩ := x
        have hspot : spot = none := by
          obtain ⟨_, ⟨v, hv⟩, _⟩ := hfk 0 (by omega)
          simpa [Addr.add] using World.cell?_spot hv
        subst hspot
        refine ⟨b, off, rfl, fun i hil => ?_⟩
        have hil' : i < len := by simpa using hil
        have e : ((List.range len).map f).getD i x0 = f i := by simp [hil']
        rw [e]
        refine (hfk i hil').2.2 b (off + i * sz) fun j _ => ?_
        have g : (⟨b, off, none⟩ : Addr).add (i * sz + j) = ⟨b, off + i * sz + j, none⟩ := by
          unfold Addr.add; split <;> simp_all <;> omega
        rw [g]
    · intro y hy
      simp only [List.mem_map, List.mem_range] at hy
      obtain ⟨i, hil, rfl⟩ := hy
      exact (hfk i hil).1
def okI (n : Int) : Prop := -9223372036854775808 ≤ n ∧ n ≤ 9223372036854775807
def okOp (o : OC.Op) : Prop := okI o.op ∧ okI o.n ∧ okI o.m
def okEnt (e : OC.Ent) : Prop := okI e.g ∧ okI e.p
def okDat (d : OC.Dat) : Prop := d.text.length ≤ 140737488351232 ∧ ∀ n ∈ d.words, okI n
theorem trod_opRow {H : Type} {enc : TypeId × Value → H} {W : World} {base : Nat} {spare : Nat → Bool} {held : Bool} (n : Nat) (cs : List Value) (x : DataW H × List MemPlace)
    (h : DataW.trod enc Tryd.prog W base spare held n 35 cs = some x) : ∃ y : OC.Op, okOp y ∧ (∃ v, cs[0]? = some v) ∧ ∀ b o, (∀ j, j < 3 → W.cell? ⟨b, o + j, none⟩ = cs[j]?) → OpAt W b o y := by
  obtain ⟨xs, n', _, hx, hl, hxl, hf⟩ := DataW.trod_struct Tryd.underlying35 h
  match xs, hxl with
  | [x0, x1, x2], _ =>
    have c3 : Tryd.prog.cellsOf 3 = 1 := by kernel_rfl
    have h0 : DataW.trod enc Tryd.prog W base spare held n' 3 ((cs.drop 0).take (Tryd.prog.cellsOf 3)) = some x0 := hf 0 _ rfl
    have h1 : DataW.trod enc Tryd.prog W base spare held n' 3 ((cs.drop 1).take (Tryd.prog.cellsOf 3)) = some x1 := hf 1 _ rfl
    have h2 : DataW.trod enc Tryd.prog W base spare held n' 3 ((cs.drop 2).take (Tryd.prog.cellsOf 3)) = some x2 := hf 2 _ rfl
    rw [c3] at h0 h1 h2
    obtain ⟨a0, e0, _, w0⟩ := DataW.trod_int Tryd.underlying3 h0
    obtain ⟨a1, e1, _, w1⟩ := DataW.trod_int Tryd.underlying3 h1
    obtain ⟨a2, e2, _, w2⟩ := DataW.trod_int Tryd.underlying3 h2
    have e0' := one_at e0
    exact ⟨⟨a0, a1, a2⟩, ⟨wf_i64_bd w0, wf_i64_bd w1, wf_i64_bd w2⟩, ⟨_, e0'⟩, fun b o hc => ⟨(hc 0 (by omega)).trans e0', (hc 1 (by omega)).trans (one_at e1), (hc 2 (by omega)).trans (one_at e2)⟩⟩
theorem trod_entRow {H : Type} {enc : TypeId × Value → H} {W : World} {base : Nat} {spare : Nat → Bool} {held : Bool} (n : Nat) (cs : List Value) (x : DataW H × List MemPlace)
    (h : DataW.trod enc Tryd.prog W base spare held n 68 cs = some x) : ∃ y : OC.Ent, okEnt y ∧ (∃ v, cs[0]? = some v) ∧ ∀ b o, (∀ j, j < 2 → W.cell? ⟨b, o + j, none⟩ = cs[j]?) → EntAt W b o y := by
  obtain ⟨xs, n', _, hx, hl, hxl, hf⟩ := DataW.trod_struct Tryd.underlying68 h
  match xs, hxl with
  | [x0, x1], _ =>
    have c3 : Tryd.prog.cellsOf 3 = 1 := by kernel_rfl
    have h0 : DataW.trod enc Tryd.prog W base spare held n' 3 ((cs.drop 0).take (Tryd.prog.cellsOf 3)) = some x0 := hf 0 _ rfl
    have h1 : DataW.trod enc Tryd.prog W base spare held n' 3 ((cs.drop 1).take (Tryd.prog.cellsOf 3)) = some x1 := hf 1 _ rfl
    rw [c3] at h0 h1
    obtain ⟨a0, e0, _, w0⟩ := DataW.trod_int Tryd.underlying3 h0
    obtain ⟨a1, e1, _, w1⟩ := DataW.trod_int Tryd.underlying3 h1
    have e0' := one_at e0
    exact ⟨⟨a0, a1⟩, ⟨wf_i64_bd w0, wf_i64_bd w1⟩, ⟨_, e0'⟩, fun b o hc => ⟨(hc 0 (by omega)).trans e0', (hc 1 (by omega)).trans (one_at e1)⟩⟩
theorem trod_datRow {H : Type} {enc : TypeId × Value → H} {W : World} (n : Nat) (cs : List Value) (x : DataW H × List MemPlace)
    (h : DataW.trod enc Tryd.prog W 0 (fun _ => true) true n 43 cs = some x) (hw : ∀ n ∈ x.1.weights Tryd.prog 43, n ≤ reachBytes) : ∃ y : OC.Dat, okDat y ∧ (∃ v, cs[0]? = some v) ∧ ∀ b o, (∀ j, j < 3 → W.cell? ⟨b, o + j, none⟩ = cs[j]?) → DatAt W b o y := by
  obtain ⟨xs, n', _, hx, hl, hxl, hf⟩ := DataW.trod_struct Tryd.underlying43 h
  match xs, hxl with
  | [x0, x1, x2], _ =>
    have c3 : Tryd.prog.cellsOf 9 = 1 := by kernel_rfl
    have c4 : Tryd.prog.cellsOf 4 = 1 := by kernel_rfl
    have c5 : Tryd.prog.cellsOf 29 = 1 := by kernel_rfl
    have c6 : Tryd.prog.cellsOf 3 = 1 := by kernel_rfl
    have h0 : DataW.trod enc Tryd.prog W 0 (fun _ => true) true n' 9 ((cs.drop 0).take (Tryd.prog.cellsOf 9)) = some x0 := hf 0 _ rfl
    have h1 : DataW.trod enc Tryd.prog W 0 (fun _ => true) true n' 4 ((cs.drop 1).take (Tryd.prog.cellsOf 4)) = some x1 := hf 1 _ rfl
    have h2 : DataW.trod enc Tryd.prog W 0 (fun _ => true) true n' 29 ((cs.drop 2).take (Tryd.prog.cellsOf 29)) = some x2 := hf 2 _ rfl
    rw [c3] at h0
    rw [c4] at h1
    rw [c5] at h2
    obtain ⟨s, e0, y0, _⟩ := DataW.trod_string Tryd.underlying9 h0
    obtain ⟨f, e1, _, _⟩ := DataW.trod_bool Tryd.underlying4 h1
    have hsl : s.data.toList.length ≤ reachBytes := by
      refine hw _ ?_
      rw [hx]
      simp only [DataW.weights, Tryd.underlying43]
      simp [y0, DataW.weightsEach, DataW.weights]
    obtain ⟨v, ev⟩ : ∃ v, (cs.drop 2).take 1 = [v] := by
      rcases open_ints Tryd.underlying29 Tryd.underlying3 c6 h2 with ⟨hcs, _⟩ | ⟨x, l, c, zs, hcs, _⟩ <;> exact ⟨_, hcs⟩
    rw [ev] at h2
    have e0' := one_at e0
    obtain ⟨a, len, cap, rfl⟩ : ∃ a len cap, v = .slice a len cap := by
      rcases open_ints Tryd.underlying29 Tryd.underlying3 c6 h2 with ⟨hcs, _⟩ | ⟨x, l, c, zs, hcs, _⟩ <;> simp at hcs <;> exact ⟨_, _, _, hcs⟩
    obtain ⟨zs, hz⟩ := isRow_of_trod (d := x2.1) (p := x2.2) Tryd.underlying29 Tryd.underlying3 c6 ⟨n', by simpa [Value.cells] using h2⟩
    have hcap := cap_of_weights (d := x2.1) (p := x2.2) Tryd.underlying29 (by rw [show Tryd.prog.bytesOf 3 = 8 by kernel_rfl]; decide) h2 (by
      intro k hk
      refine hw _ ?_
      rw [hx]
      simp only [DataW.weights, Tryd.underlying43]
      simp only [List.map_cons, List.map_nil, DataW.weightsEach, List.mem_append]
      simp [hk])
    have hlen : len ≤ 140737488355328 := by
      rcases hz with ⟨_, rfl, _⟩ | ⟨_, _, h1, h2, _⟩
      · omega
      · omega
    refine ⟨⟨s.data.toList, f, zs.take len⟩, ⟨by simp only [reachBytes] at hsl; exact Nat.le_trans hsl (by decide), fun n hn => wf_i64_bd (hz.bd n hn)⟩, ⟨_, e0'⟩, fun b o hc => ⟨(hc 0 (by omega)).trans e0', (hc 1 (by omega)).trans (one_at e1), _, (hc 2 (by omega)).trans (one_at ev), hz.rd hlen⟩⟩
end Go.Proofs.YtfnkafnjpldaoaaDoor
