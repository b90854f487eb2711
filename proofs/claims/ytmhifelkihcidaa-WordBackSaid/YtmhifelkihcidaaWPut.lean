/- PutByte of package word by its contract. -/
import Derived.Test.YtmhifelkihcidaaWRgb
import Derived.Test.YtmhifelkihcidaaWBMath2
import Derived.Laws.CopyOwn
import Derived.Lib.Hide
namespace Go.Proofs.Ytmhifelkihcidaa
open Go.RowKit WM
set_option linter.unusedVariables false

theorem info_size : (Try.prog.info? 3).map (·.size) = some 1 := by kernel_rfl
/-- a row of its own that is full, as a block -/
theorem own_full {w : World} {base : Nat} {e : TypeId} {g m : Nat} {xs : List Value} (h : w.ownsRow base e 1 (.slice (some ⟨g, 0, none⟩) m m) m xs) : w.heap[g]? = some (.cells xs.toArray e (0, 0)) ∧ base ≤ g := by
  rcases h.2 with ⟨h', _⟩ | ⟨g', cap', cur, h', hbg, hg, _, _, hs, ht⟩
  · simp at h'
  · simp only [Value.slice.injEq, Option.some.injEq, Addr.mk.injEq, and_true, true_and] at h'
    obtain ⟨rfl, rfl⟩ := h'
    have e1 : cur = xs.toArray := by
      apply Array.ext'
      rw [← ht, List.take_of_length_le (by simp; omega)]
    rw [← e1]; exact ⟨hg, hbg⟩
theorem own_of_block {w : World} {base : Nat} {e : TypeId} {g m : Nat} {xs : List Value} (hg : w.heap[g]? = some (.cells xs.toArray e (0, 0))) (hb : base ≤ g) (hm : m ≤ maxLen) (hl : xs.length = m) : w.ownsRow base e 1 (.slice (some ⟨g, 0, none⟩) m m) m xs :=
  ⟨by omega, .inr ⟨g, m, xs.toArray, rfl, hb, hg, Nat.le_refl _, hm, by simp; omega, by rw [List.take_of_length_le (by simp; omega)]⟩⟩
theorem splice_all {α : Type} (L cs : List α) (h : cs.length = L.length) : splice L 0 cs = cs := by
  unfold splice; simp [h]
theorem add_none (b off j : Nat) : (⟨b, off, none⟩ : Addr).add j = ⟨b, off + j, none⟩ := by unfold Addr.add; split <;> simp_all
theorem cells_nth {w : World} {b off : Nat} {k : IntKind} {xs : List Int} (hc : ∀ i, i < xs.length → w.cell? ⟨b, off + i, none⟩ = some (.int k (xs.getD i 0))) : ∀ j v, (xs.map (Value.int k))[j]? = some v → w.cell? ((⟨b, off, none⟩ : Addr).add j) = some v := by
  intro j v hv
  rw [List.getElem?_map] at hv
  by_cases hj : j < xs.length
  · rw [List.getElem?_eq_getElem hj] at hv
    simp at hv
    have := hc j hj
    rw [List.getD_eq_getElem?_getD, List.getElem?_eq_getElem hj, Option.getD_some, hv] at this
    rw [add_none]; exact this
  · rw [List.getElem?_eq_none (by omega)] at hv; simp at hv
set_option maxHeartbeats 400000 in
theorem PutByte_form (a : Option Addr) (len cap : Nat) (i v n : Int) (g : Bool) (hb : ¬ IsBits n) (w : World) :
    Calls Try.prog 28 #[.slice a len cap, .int .i64 (i), .int .i64 (v), .agg #[.int .i64 n, .bool g]] w (GivesInts2 [] 3 w) := by
  go_enter Try.func28, Try.ntmps28
  go_wp2_with (first | (go_at_call 58; refine (cb_form _ _ _ _ _ _ hb _).mono ?_; rintro e w1 ⟨rfl, hb1⟩))
  go_ret2
  exact ⟨_, rfl, Rd.nil _ _, (by repeat (first | exact Below.refl _ _ | exact below_alloc _ _ | refine below_back (by assumption) ?_ | refine Below.drew ?_ | refine below_drewN ?_ _ | refine Below.alloc ?_ (by first | exact Nat.le_refl _ | (simp; done) | (simp; omega)) _))⟩
set_option maxHeartbeats 400000 in
theorem PutByte_neg (a : Option Addr) (len cap : Nat) (i v n : Int) (g : Bool) (hb : IsBits n) (hi : i < 0) (w : World) :
    Calls Try.prog 28 #[.slice a len cap, .int .i64 (i), .int .i64 (v), .agg #[.int .i64 n, .bool g]] w (GivesInts2 [] 1 w) := by
  go_enter Try.func28, Try.ntmps28
  go_wp2_with (first | (go_at_call 58; refine (cb_neg _ _ _ _ _ _ hb hi _).mono ?_; rintro e w1 ⟨rfl, hb1⟩))
  go_ret2
  exact ⟨_, rfl, Rd.nil _ _, (by repeat (first | exact Below.refl _ _ | exact below_alloc _ _ | refine below_back (by assumption) ?_ | refine Below.drew ?_ | refine below_drewN ?_ _ | refine Below.alloc ?_ (by first | exact Nat.le_refl _ | (simp; done) | (simp; omega)) _))⟩
set_option maxHeartbeats 400000 in
theorem PutByte_out (a : Option Addr) (len cap : Nat) (k : Nat) (v n : Int) (g : Bool) (hb : IsBits n) (hk : k ≤ 9223372036854775807) (hi : len ≤ wi n k) (w : World) :
    Calls Try.prog 28 #[.slice a len cap, .int .i64 (k), .int .i64 (v), .agg #[.int .i64 n, .bool g]] w (GivesInts2 [] 1 w) := by
  go_enter Try.func28, Try.ntmps28
  go_wp2_with (first | (go_at_call 58; refine (cb_out _ _ _ k _ _ hb hk hi _).mono ?_; rintro e w1 ⟨rfl, hb1⟩))
  go_ret2
  exact ⟨_, rfl, Rd.nil _ _, (by repeat (first | exact Below.refl _ _ | exact below_alloc _ _ | refine below_back (by assumption) ?_ | refine Below.drew ?_ | refine below_drewN ?_ _ | refine Below.alloc ?_ (by first | exact Nat.le_refl _ | (simp; done) | (simp; omega)) _))⟩
set_option maxHeartbeats 1600000 in
theorem PutByte_in (b off cap : Nat) (xs : List Int) (k : Nat) (v n : Int) (g : Bool) (hb : IsBits n) (hk : k < 140737488355328) (hi : wi n k < xs.length) (hm : xs.length ≤ 2147483647) (w : World) (hc : ∀ i, i < xs.length → w.cell? ⟨b, off + i, none⟩ = some (.int .i64 (xs.getD i 0))) :
    Calls Try.prog 28 #[.slice (some ⟨b, off, none⟩) xs.length cap, .int .i64 (k), .int .i64 (v), .agg #[.int .i64 n, .bool g]] w (GivesInts2 (pbl n g xs k v) 0 w) := by
  obtain ⟨i0, hii, hz0, hz1, hz2⟩ := info_parts info_int
  have hbB := World.block_lt_of_cell? w _ (hc _ hi)
  have hs24 := ws_le hb g k
  obtain ⟨m, hmx⟩ : ∃ m, m = xs.length := ⟨_, rfl⟩
  rw [← hmx] at hi hm ⊢
  have HM : Hid (m = xs.length) := hmx
  have HC : Hid (∀ i, i < xs.length → w.cell? ⟨b, off + i, none⟩ = some (.int .i64 (xs.getD i 0))) := hc
  clear hmx hc
  go_enter Try.func28, Try.ntmps28
  go_wp2_with (first | (go_at_call 58; refine (cb_in _ _ _ k _ _ hb (by omega) hi _).mono ?_; rintro e w1 ⟨rfl, hb1⟩; have hf0 : w1.cell? ⟨w.heap.size, 0, none⟩ = some (.int .i64 n) := (hb1.cell (p := ⟨w.heap.size, 0, none⟩) (by simp)).trans ((World.cell?_alloc_at _ _ _ _ rfl).trans rfl); have hf1 : w1.cell? ⟨w.heap.size, 1, none⟩ = some (.bool g) := (hb1.cell (p := ⟨w.heap.size, 1, none⟩) (by simp)).trans ((World.cell?_alloc_at _ _ _ _ rfl).trans rfl)) | (go_at_call 62; refine (place_c k n g hb hk _).mono ?_; rintro e w2 ⟨rfl, hb2⟩; have hg0 : w2.cell? ⟨w.heap.size, 0, none⟩ = some (.int .i64 n) := (hb2.cell (p := ⟨w.heap.size, 0, none⟩) (World.block_lt_of_cell? _ _ hf0)).trans hf0; have hg1 : w2.cell? ⟨w.heap.size, 1, none⟩ = some (.bool g) := (hb2.cell (p := ⟨w.heap.size, 1, none⟩) (World.block_lt_of_cell? _ _ hf1)).trans hf1) | (at_make; refine wpList_make_full _ rfl _ _ 37 rfl (w.heap.size + 1) 3 i0 (.int .i64 0) 1 Try.underlying37 hii hz0 hz1 .i64 .i64 _ _ m rfl rfl rfl rfl ?_ ?_ ?_ ?_))
  · rw [hz2]; omega
  · unfold maxLen; omega
  · have := hb1.size; have h2 := hb2.size; simp at this; omega
  · intro w3 hown3 hgrow3
    rw [toList_madeCells_one] at hown3
    have hs1 : w.heap.size < w1.heap.size := by have := hb1.size; simp at this; omega
    have hs2 := hb2.size
    have hs3 := hgrow3.size
    have h2 : Below w.heap.size w w2 := (by repeat (first | exact Below.refl _ _ | exact below_alloc _ _ | refine below_back (by assumption) ?_ | refine Below.drew ?_ | refine below_drewN ?_ _ | refine Below.alloc ?_ (by first | exact Nat.le_refl _ | (simp; done) | (simp; omega)) _))
    have hnx3 : Below w.heap.size w w3 := h2.grown hgrow3 (by omega) (by simp)
    have hh0 : w3.cell? ⟨w.heap.size, 0, none⟩ = some (.int .i64 n) := hgrow3.cell hg0 (by simp)
    have hh1 : w3.cell? ⟨w.heap.size, 1, none⟩ = some (.bool g) := hgrow3.cell hg1 (by simp)
    generalize hw2 : w2.heap.size = W at *
    clear hw2 hgrow3 h2 hg0 hg1 hf0 hf1 hb1
    have hfull := own_full hown3
    have hln : (xs.map (Value.int .i64)).length = m := by rw [List.length_map]; exact HM.symm
    have hcells := cells_nth (xs := xs) (b := b) (off := off) (k := .i64) (w := w3) (fun i hi => (hnx3.cell (p := ⟨b, off + i, none⟩) hbB).trans ((show ∀ i, _ from HC) i hi))
    have HCELLS : Hid (∀ j v, (xs.map (Value.int .i64))[j]? = some v → w3.cell? ((⟨b, off, none⟩ : Addr).add j) = some v) := hcells
    have HFULL : Hid (w3.heap[W]? = some (.cells ((List.replicate m (Value.int .i64 0))).toArray 3 (0, 0))) := hfull.1
    have HLN : Hid ((xs.map (Value.int .i64)).length = m) := hln
    have HONE : Hid (∀ v ∈ xs.map (Value.int .i64), v.oneCell' = true) := ints_oneCell _ _
    have HHH : Hid (w3.cell? ⟨w.heap.size, 0, none⟩ = some (.int .i64 n) ∧ w3.cell? ⟨w.heap.size, 1, none⟩ = some (.bool g)) := ⟨hh0, hh1⟩
    clear hfull hln hcells hh0 hh1 hown3 hii hz0 hz1 hz2
    go_wp2_with (with_reducible refine wpList_copy_splice rfl (.tmp 30) (.tmp 31) 37 37 rfl 3 Try.underlying37 info_size (some ⟨W, 0, none⟩) (some ⟨b, off, none⟩) m m m cap rfl rfl W 0 (List.replicate m (Value.int .i64 0)) 3 HFULL.out (xs.map (Value.int .i64)) ?_ ?_ ?_ HONE.out W w3 (Below.refl _ _) (Nat.le_refl _) ?_)
    · rw [show (xs.map (Value.int .i64)).length = m from HLN]; simp
    · intro _ j a ha; have h := HCELLS.out j (.int .i64 a) (by rw [List.getElem?_map, ha]; rfl); rwa [add_none] at h
    · rw [show (xs.map (Value.int .i64)).length = m from HLN]; simp
    · intro w4 hg4 hb4
      rw [splice_all _ _ (by rw [show (xs.map (Value.int .i64)).length = m from HLN]; simp)] at hg4
      have hown4 : w4.ownsRow (w.heap.size + 1) 3 1 (.slice (some ⟨W, 0, none⟩) m m) m (xs.map (.int .i64)) := own_of_block hg4 (by omega) (by unfold maxLen; omega) HLN
      have hk0 : w4.cell? ⟨w.heap.size, 0, none⟩ = some (.int .i64 n) := (hb4.cell (p := ⟨w.heap.size, 0, none⟩) (by show w.heap.size < W; omega)).trans HHH.out.1
      have hk1 : w4.cell? ⟨w.heap.size, 1, none⟩ = some (.bool g) := (hb4.cell (p := ⟨w.heap.size, 1, none⟩) (by show w.heap.size < W; omega)).trans HHH.out.2
      have hnx4 : Below w.heap.size w w4 := hnx3.trans (hb4.mono (by omega))
      have hs4 := hb4.size
      have q2 := own_cell hown4 (wi n k) hi
      have q3 := hown4.frozenAt (wi n k)
      have hi1 : (0 : Int) ≤ (wi n k : Int) := Int.natCast_nonneg _
      have hi2 : (wi n k : Int) < (m : Int) := by omega
      have HOWN : Hid (w4.ownsRow (w.heap.size + 1) 3 1 (.slice (some ⟨W, 0, none⟩) m m) m (xs.map (.int .i64))) := hown4
      clear hg4 hb4 hown4
      generalize hx : xs.getD (wi n k) 0 = x at *
      have HX := Lib.hid hx
      clear hx
      go_wp2
      go_region
      go_wp2_with fail
      have hown5 := (setAt_own HOWN.out (wi n k) (pw1 x v (ws n g k))).drew
      refine (normAll_c W (w.heap.size + 1) m m _ n g hb (by omega) _ hown5).mono ?_
      rintro e w6 ⟨rfl, hown6, hb6⟩
      clear hown5
      go_wp2
      go_ret2
      refine ⟨_, rfl, ?_, ?_⟩
      · have hr := Rd.of_owns hown6 (by simp; have := HM.out; omega)
        unfold pbl
        rw [HX.out]
        exact hr
      · exact ((hnx4.setCell (by show w.heap.size ≤ W; omega) _).drew).trans (hb6.mono (by omega))
end Go.Proofs.Ytmhifelkihcidaa
