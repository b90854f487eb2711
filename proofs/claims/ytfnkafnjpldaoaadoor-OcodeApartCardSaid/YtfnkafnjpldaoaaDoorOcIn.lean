/- The program's table of instructions: what stands in it. -/
import Derived.Test.YtfnkafnjpldaoaaDoorOcQd
import Derived.Test.YtfnkafnjpldaoaaDoorOcLw
import Derived.Test.YtfnkafnjpldaoaaDoorRows
import Derived.Lib.LaidTab
namespace Go.Proofs.YtfnkafnjpldaoaaDoor
open Go.RowKit
set_option linter.unusedVariables false
set_option linter.unusedSimpArgs false
def instL : List (List UInt8 × Int × Int) := [([], 0, 0), ([110, 117, 109], 1, 0), ([108, 111, 99, 97, 108], 2, 0), ([112, 117, 116, 108], 2, 0), ([97, 100, 100, 114, 108], 2, 0), ([103, 108, 111, 98, 97, 108], 3, 0), ([112, 117, 116, 103], 3, 0), ([97, 100, 100, 114, 103], 3, 0), ([115, 116, 97, 116, 105, 99], 4, 0), ([112, 117, 116, 115], 4, 0), ([97, 100, 100, 114, 115], 4, 0), ([112, 114, 111, 99], 5, 0), ([108, 111, 97, 100], 0, 0), ([115, 116, 111, 114, 101], 0, 0), ([103, 101, 116, 98], 0, 0), ([112, 117, 116, 98], 0, 0), ([98, 105, 110], 7, 0), ([117, 110], 8, 0), ([115, 116, 97, 99, 107], 2, 0), ([108, 97, 98, 101, 108], 6, 0), ([106, 117, 109, 112], 6, 0), ([116, 114, 117, 101], 6, 0), ([102, 97, 108, 115, 101], 6, 0), ([99, 97, 108, 108], 2, 0), ([101, 110, 116, 101, 114], 5, 9), ([114, 101, 116, 117, 114, 110], 0, 0), ([98, 97, 99, 107], 0, 0), ([114, 101, 115, 117, 108, 116], 6, 0), ([116, 97, 107, 101], 2, 0), ([115, 119, 105, 116, 99, 104], 6, 10), ([99, 97, 115, 101], 1, 6)]
abbrev instG : Nat := 0
/-- the world holds the table -/
def InstAt (W : World) : Prop := ∀ k : Nat, k < 31 → (∃ s, W.cell? ⟨instG, k * 3, none⟩ = some (.string s)) ∧ W.cell? ⟨instG, k * 3 + 1, none⟩ = some (.int .i64 (OC.kindN k)) ∧ W.cell? ⟨instG, k * 3 + 2, none⟩ = some (.int .i64 (OC.kindM k))
theorem InstAt.keep {w w' : World} {B : Nat} (h : InstAt w) (hb : Below B w w') (hB : w.heap.size ≤ B) : InstAt w' := fun k hk => by
  obtain ⟨⟨s, h0⟩, h1, h2⟩ := h k hk
  exact ⟨⟨s, (hb.cell (p := ⟨instG, k * 3, none⟩) (Nat.lt_of_lt_of_le (World.block_lt_of_cell? _ _ h0) hB)).trans h0⟩, (hb.cell (p := ⟨instG, k * 3 + 1, none⟩) (Nat.lt_of_lt_of_le (World.block_lt_of_cell? _ _ h1) hB)).trans h1, (hb.cell (p := ⟨instG, k * 3 + 2, none⟩) (Nat.lt_of_lt_of_le (World.block_lt_of_cell? _ _ h2) hB)).trans h2⟩
theorem InstAt.lt {w : World} (h : InstAt w) : instG < w.heap.size := by
  obtain ⟨⟨s, h0⟩, -⟩ := h 0 (by omega)
  exact World.block_lt_of_cell? _ _ h0
theorem InstAt.at {W : World} (h : InstAt W) {op : Int} (h0 : 0 ≤ op) (h1 : op ≤ 30) : ∃ s, W.cell? ⟨instG, op.toNat * 3, none⟩ = some (.string s) ∧ W.cell? ⟨instG, op.toNat * 3 + 1, none⟩ = some (.int .i64 (OC.kindN op)) ∧ W.cell? ⟨instG, op.toNat * 3 + 2, none⟩ = some (.int .i64 (OC.kindM op)) := by
  obtain ⟨⟨s, a⟩, b, c⟩ := h op.toNat (by omega)
  rw [show ((op.toNat : Nat) : Int) = op by omega] at b c
  exact ⟨s, a, b, c⟩
theorem inst_kinds : ∀ k : Nat, k < 31 → ∃ s, instL[k]? = some (s, OC.kindN k, OC.kindM k) := by
  intro k hk
  match k, hk with
  | 0, _ => exact ⟨_, rfl⟩
  | 1, _ => exact ⟨_, rfl⟩
  | 2, _ => exact ⟨_, rfl⟩
  | 3, _ => exact ⟨_, rfl⟩
  | 4, _ => exact ⟨_, rfl⟩
  | 5, _ => exact ⟨_, rfl⟩
  | 6, _ => exact ⟨_, rfl⟩
  | 7, _ => exact ⟨_, rfl⟩
  | 8, _ => exact ⟨_, rfl⟩
  | 9, _ => exact ⟨_, rfl⟩
  | 10, _ => exact ⟨_, rfl⟩
  | 11, _ => exact ⟨_, rfl⟩
  | 12, _ => exact ⟨_, rfl⟩
  | 13, _ => exact ⟨_, rfl⟩
  | 14, _ => exact ⟨_, rfl⟩
  | 15, _ => exact ⟨_, rfl⟩
  | 16, _ => exact ⟨_, rfl⟩
  | 17, _ => exact ⟨_, rfl⟩
  | 18, _ => exact ⟨_, rfl⟩
  | 19, _ => exact ⟨_, rfl⟩
  | 20, _ => exact ⟨_, rfl⟩
  | 21, _ => exact ⟨_, rfl⟩
  | 22, _ => exact ⟨_, rfl⟩
  | 23, _ => exact ⟨_, rfl⟩
  | 24, _ => exact ⟨_, rfl⟩
  | 25, _ => exact ⟨_, rfl⟩
  | 26, _ => exact ⟨_, rfl⟩
  | 27, _ => exact ⟨_, rfl⟩
  | 28, _ => exact ⟨_, rfl⟩
  | 29, _ => exact ⟨_, rfl⟩
  | 30, _ => exact ⟨_, rfl⟩
  | n + 31, h => exact absurd h (by omega)
theorem laid_inst {H : Type} : (Rows.laid_bluebell_ocode_instructions : DataW H) = .agg (instL.map fun r => .agg [.lit (.string r.1), .lit (.int .i64 r.2.1), .lit (.int .i64 r.2.2)]) := rfl
theorem gInst : Tryd.prog.globalNamed "bluebell/ocode.instructions" = some instG := by kernel_rfl
theorem gInstType : (Tryd.prog.globals[instG]?).map (·.type) = some 63 := by kernel_rfl
theorem trod_instRow {H : Type} {enc : TypeId × Value → H} {W : World} {base : Nat} {spare : Nat → Bool} {held : Bool} (n : Nat) (cs : List Value) (x : DataW H × List MemPlace) (s : List UInt8) (a b : Int)
    (h : DataW.trod enc Tryd.prog W base spare held n 62 cs = some x) (hx : x.1 = .agg [.lit (.string s), .lit (.int .i64 a), .lit (.int .i64 b)]) :
    (∃ u, cs[0]? = some (.string u)) ∧ cs[1]? = some (.int .i64 a) ∧ cs[2]? = some (.int .i64 b) := by
  obtain ⟨xs, n', _, hx', hl, hxl, hf⟩ := DataW.trod_struct Tryd.underlying62 h
  match xs, hxl with
  | [x0, x1, x2], _ =>
    have c1 : Tryd.prog.cellsOf 9 = 1 := by kernel_rfl
    have c2 : Tryd.prog.cellsOf 60 = 1 := by kernel_rfl
    have h0 : DataW.trod enc Tryd.prog W base spare held n' 9 ((cs.drop 0).take (Tryd.prog.cellsOf 9)) = some x0 := hf 0 _ rfl
    have h1 : DataW.trod enc Tryd.prog W base spare held n' 60 ((cs.drop 1).take (Tryd.prog.cellsOf 60)) = some x1 := hf 1 _ rfl
    have h2 : DataW.trod enc Tryd.prog W base spare held n' 60 ((cs.drop 2).take (Tryd.prog.cellsOf 60)) = some x2 := hf 2 _ rfl
    rw [c1] at h0
    rw [c2] at h1 h2
    obtain ⟨u, e0, y0, _⟩ := DataW.trod_string Tryd.underlying9 h0
    obtain ⟨a1, e1, y1, _⟩ := DataW.trod_int Tryd.underlying60 h1
    obtain ⟨a2, e2, y2, _⟩ := DataW.trod_int Tryd.underlying60 h2
    rw [hx'] at hx
    simp [y1, y2] at hx
    obtain ⟨-, rfl, rfl⟩ := hx
    exact ⟨⟨u, one_at e0⟩, one_at e1, one_at e2⟩
theorem instAt_of {W : World} (h : laidMet Tryd.prog [("bluebell/ocode.instructions", Rows.laid_bluebell_ocode_instructions)] W) : InstAt W := by
  obtain ⟨ps, ⟨g', t', cs, fuel, p, q, hg', ht', hvar, hd, _, _⟩, _⟩ := h
  obtain rfl := Option.some.inj (gInst.symm.trans hg')
  obtain rfl := Option.some.inj (gInstType.symm.trans ht')
  rw [laid_inst] at hd
  cases fuel with
  | zero => simp [DataW.trod] at hd
  | succ fuel =>
    have hct : Tryd.prog.cellsOf 62 = 3 := by kernel_rfl
    simp only [DataW.trod, Tryd.underlying63, hct] at hd
    split at hd
    · rename_i hl
      obtain ⟨xs, hm, hx⟩ := Option.map_eq_some_iff.1 hd
      have hxs : xs.map (·.1) = instL.map fun r => (.agg [.lit (.string r.1), .lit (.int .i64 r.2.1), .lit (.int .i64 r.2.2)] : DataW Unit) := by
        have := congrArg Prod.fst hx
        simpa using this
      intro k hk
      obtain ⟨b, hb, hf⟩ := Lib.mapM_at hm k k (by simp [hk])
      obtain ⟨s, hs⟩ := inst_kinds k hk
      have hb2 : b.1 = (.agg [.lit (.string s), .lit (.int .i64 (OC.kindN k)), .lit (.int .i64 (OC.kindM k))] : DataW Unit) := by
        have e1 : (xs.map (·.1))[k]? = some b.1 := by rw [List.getElem?_map, hb]; rfl
        rw [hxs, List.getElem?_map, hs] at e1
        exact (Option.some.inj e1).symm
      obtain ⟨⟨u, r0⟩, r1, r2⟩ := trod_instRow fuel _ b s _ _ hf hb2
      have at_ : ∀ j v, j < 3 → ((cs.toList.drop (k * 3)).take 3)[j]? = some v → W.cell? ⟨instG, k * 3 + j, none⟩ = some v := by
        intro j v hj hv
        have := World.var?_cell gInst hvar (k * 3 + j)
        rw [this]
        simpa [List.getElem?_take, List.getElem?_drop, hj] using hv
      exact ⟨⟨u, at_ 0 _ (by omega) r0⟩, at_ 1 _ (by omega) r1, at_ 2 _ (by omega) r2⟩
    · cases hd
end Go.Proofs.YtfnkafnjpldaoaaDoor
