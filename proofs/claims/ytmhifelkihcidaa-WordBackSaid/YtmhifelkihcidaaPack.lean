/- Words joined from bytes, and Pack, of package word, each by its contract. -/
import Derived.Test.YtmhifelkihcidaaWByte
import Derived.Test.YtmhifelkihcidaaEq
import Derived.RegionTactic
import Derived.BigRegion
namespace Go.Proofs.Ytmhifelkihcidaa
open Go.RowKit WM
set_option linter.unusedVariables false

theorem info_int : (Try.prog.info? 3).map (fun i => (i.zero, i.size, i.bytes)) = some (some (.int .i64 0), 1, 8) := by kernel_rfl
theorem setAt_own {w : World} {base : Nat} {e : TypeId} {g cap : Nat} {xs : List Int} {n : Nat} (h : w.ownsRow base e 1 (.slice (some ⟨g, 0, none⟩) n cap) n (xs.map (.int .i64))) (j : Nat) (u : Int) :
    (w.setCell ⟨g, j, none⟩ (.int .i64 u)).ownsRow base e 1 (.slice (some ⟨g, 0, none⟩) n cap) n ((xs.set j u).map (.int .i64)) := by
  rw [List.map_set]; exact (h.stored j _).1
theorem own_cell {w : World} {base : Nat} {e : TypeId} {g cap : Nat} {xs : List Int} {n : Nat} (h : w.ownsRow base e 1 (.slice (some ⟨g, 0, none⟩) n cap) n (xs.map (.int .i64))) (j : Nat) (hj : j < n) : w.cell? ⟨g, j, none⟩ = some (.int .i64 (xs.getD j 0)) := by
  rw [h.cellAt j (by omega)]
  have := h.1; simp at this
  simp [this, hj]
set_option maxHeartbeats 800000 in
theorem normAll_c (b base cap m : Nat) (xs : List Int) (n : Int) (g : Bool) (hb : IsBits n) (hm : m ≤ 140737488355328) (w : World) (hown : w.ownsRow base 3 1 (.slice (some ⟨b, 0, none⟩) m cap) m (xs.map (.int .i64))) :
    Calls Try.prog 63 #[.slice (some ⟨b, 0, none⟩) m cap, .agg #[.int .i64 n, .bool g]] w fun e w' => e = .returned (.slice (some ⟨b, 0, none⟩) m cap) ∧ w'.ownsRow base 3 1 (.slice (some ⟨b, 0, none⟩) m cap) m ((xs.map (nm n)).map (.int .i64)) ∧ Below base w w' := by
  have hbb : base ≤ b ∧ b < w.heap.size := hown.lt b rfl
  have hlen : xs.length = m := by have := hown.1; simp at this; omega
  have HL : Hid (xs.length = m) := hlen
  clear hlen
  go_enter Try.func63, Try.ntmps63
  go_wp2
  go_loopw [9] (fun i wr => ∃ k : Nat, k ≤ m ∧ i = .int .i64 k ∧ wr.ownsRow base 3 1 (.slice (some ⟨b, 0, none⟩) m cap) m ((upTo n xs k).map (.int .i64)) ∧ wr.cell? ⟨w.heap.size, 0, none⟩ = some (.int .i64 n) ∧ Below base w wr ∧ w.heap.size < wr.heap.size) (fun i _ => m - (intOf i).toNat)
  case atStart => exact ⟨0, Nat.zero_le _, rfl, by rw [upTo_0]; exact hown.alloc _, (World.cell?_alloc_at _ _ _ _ rfl).trans rfl, (Below.refl _ _).alloc (by omega) _, by simp⟩
  case round =>
    obtain ⟨k, hk, rfl, hownr, hf, hnx, hsz⟩ := hrel
    by_cases hlt : k < m
    · have q1 := own_cell hownr k hlt
      have q2 := hownr.frozenAt k
      have hs := setAt_own hownr k (nm n ((upTo n xs k).getD k 0))
      have hnb : b ≠ w.heap.size := by omega
      have hg2 := (hownr.stored k (.int .i64 (nm n ((upTo n xs k).getD k 0)))).2
      have hl2 : xs.length = m := HL
      rw [upTo_at, upTo_succ n xs k (by omega)] at hs
      rw [upTo_at] at q1 hg2
      clear hl2
      generalize hx : xs.getD k 0 = x at *
      clear hx
      go_wp2_with (first | (go_at_call 45; refine (norm_c _ _ hb _).mono ?_; rintro e w' ⟨rfl, rfl⟩))
      go_roundw
      case rel => exact ⟨k + 1, by omega, by go_num, hs, hg2.cell hf (by simp; omega), hnx.setCell (by simp; omega) _, by simp; omega⟩
      case measure => simp [intOf]; omega
    · obtain rfl : k = m := by omega
      go_wp2
      go_ret
      exact ⟨rfl, by rw [← upTo_all n xs k HL]; exact hownr, hnx⟩
/-- the call returns a list of integers in new memory -/
def GivesInts (ys : List Int) (w : World) (e : Ending) (w' : World) : Prop := ∃ v, e = .returned v ∧ Rd .i64 w' v ys ∧ Below w.heap.size w w'
theorem grown_of_below {w w' : World} (h : Below w.heap.size w w') (row : Option Nat) : w.grownBy w' row := ⟨h.os, h.tape, h.output, h.size, fun k hk _ => h.block k hk⟩
theorem own_base {w : World} {base base' : Nat} {e : TypeId} {size : Nat} {v : Value} {n : Nat} {xs : List Value} (h : w.ownsRow base e size v n xs) (hb : base' ≤ base) : w.ownsRow base' e size v n xs := by
  refine ⟨h.1, ?_⟩
  rcases h.2 with h | ⟨g, cap, cur, hv, hg, rest⟩
  · exact .inl h
  · exact .inr ⟨g, cap, cur, hv, Nat.le_trans hb hg, rest⟩
theorem own_keep {w w' : World} {base : Nat} {e : TypeId} {size : Nat} {v : Value} {n : Nat} {xs : List Value} (h : w.ownsRow base e size v n xs) (hb : Below w.heap.size w w') : w'.ownsRow base e size v n xs :=
  h.kept (grown_of_below hb none) (by cases hv : v.ownBlock <;> simp)
set_option maxHeartbeats 1600000 in
theorem join_c (v : Value) (bs : List Int) (n : Int) (g : Bool) (hb : IsBits n) (hl : bs.length ≤ 2147483647) (hbd : ∀ j, 0 ≤ bs.getD j 0 ∧ bs.getD j 0 ≤ 255) (w : World) (hv : Rd .u8 w v bs) :
    Calls Try.prog 65 #[v, .agg #[.int .i64 n, .bool g]] w (GivesInts (jn n g bs) w) := by
  obtain ⟨a, cap, rfl, hl1, h1⟩ := hv
  obtain ⟨i0, hi, hz0, hz1, hz2⟩ := info_parts info_int
  have hnb := nb_bd hb
  have hcast := cnt_cast bs.length (nb n) (by omega)
  have hcb : (bs.length + nb n - 1) / nb n ≤ 2147483650 := Nat.le_trans (Nat.div_le_self _ _) (by omega)
  generalize hcnt : (bs.length + nb n - 1) / nb n = cnt at *
  have HC : Hid ((bs.length + nb n - 1) / nb n = cnt) := hcnt
  have HCAST : Hid (((bs.length : Int) + (nb n : Int) - 1) / (nb n : Int) = (cnt : Int)) := hcast
  clear hcnt hcast
  go_enter Try.func65, Try.ntmps65
  go_wp2_with (first | (go_at_call 66; refine (wordBytes_c n g hb _).mono ?_; rintro e w1 ⟨rfl, hb1⟩) | (at_make; refine wpList_make_full _ rfl _ _ 37 rfl (w.heap.size + 1) 3 i0 (.int .i64 0) 1 Try.underlying37 hi hz0 hz1 .i64 .i64 _ _ cnt rfl rfl HCAST HCAST ?_ ?_ ?_ ?_))
  · rw [hz2]; omega
  · unfold maxLen; omega
  · have := hb1.size; simp at this; omega
  · intro w2 hown2 hgrow2
    rw [toList_madeCells_one] at hown2
    have hs1 : w.heap.size < w1.heap.size := by have := hb1.size; simp at this; omega
    have hs2 := hgrow2.size
    have hB := w1.heap.size
    have hf0 : w2.cell? ⟨w.heap.size, 0, none⟩ = some (.int .i64 n) := hgrow2.cell ((hb1.cell (p := ⟨w.heap.size, 0, none⟩) (by simp)).trans ((World.cell?_alloc_at _ _ _ _ rfl).trans rfl)) (by simp)
    have hf1 : w2.cell? ⟨w.heap.size, 1, none⟩ = some (.bool g) := hgrow2.cell ((hb1.cell (p := ⟨w.heap.size, 1, none⟩) (by simp)).trans ((World.cell?_alloc_at _ _ _ _ rfl).trans rfl)) (by simp)
    have hnx2 : Below w.heap.size w w2 := ((below_alloc w _).trans (hb1.mono (by simp))).grown hgrow2 (by omega) (by simp)
    clear hgrow2 hb1
    generalize hw1 : w1.heap.size = W at *
    clear hw1
    go_wp2_with fail
    have HBD : Hid (∀ j, 0 ≤ bs.getD j 0 ∧ bs.getD j 0 ≤ 255) := hbd
    have H1 : Hid (bs = [] ∨ ∃ b off, a = some ⟨b, off, none⟩ ∧ ∀ i, i < bs.length → w.cell? ⟨b, off + i, none⟩ = some (.int .u8 (bs.getD i 0))) := h1
    clear hbd h1 HCAST hi hz0 hz1 hz2
    go_loopw [22] (fun i wr => ∃ k : Nat, k ≤ bs.length ∧ i = .int .i64 k ∧ wr.ownsRow (w.heap.size + 1) 3 1 (.slice (some ⟨W, 0, none⟩) cnt cnt) cnt ((jl n g bs cnt k).map (.int .i64)) ∧ wr.cell? ⟨w.heap.size, 0, none⟩ = some (.int .i64 n) ∧ wr.cell? ⟨w.heap.size, 1, none⟩ = some (.bool g) ∧ Below w.heap.size w wr ∧ W < wr.heap.size) (fun i _ => bs.length - (intOf i).toNat)
    case atStart => exact ⟨0, Nat.zero_le _, rfl, by simpa [jl] using hown2, hf0, hf1, hnx2, hown2.lt W rfl |>.2⟩
    case round =>
      obtain ⟨k, hk, rfl, hownr, hr0, hr1, hnx, hsz⟩ := hrel
      clear hown2 hf0 hf1 hnx2
      by_cases hlt : k < bs.length
      · rcases (show _ ∨ _ from H1) with h | ⟨b, off, rfl, hc⟩
        · rw [h] at hlt; simp at hlt
        · have hbk := (show ∀ j, 0 ≤ bs.getD j 0 ∧ bs.getD j 0 ≤ 255 from HBD) k
          have hbB := World.block_lt_of_cell? w _ (hc k hlt)
          have q1 := (hnx.cell (p := ⟨b, off + k, none⟩) hbB).trans (hc k hlt)
          have hwl : wi n k < cnt := wi_lt_cnt hb HC hlt
          have hs24 := ws_le hb g k
          generalize hx : bs.getD k 0 = x at *
          have EX : Hid (bs.getD k 0 = x) := hx
          clear hx hc
          have HREL : Hid (∀ i, jl n g bs cnt (i + 1) = (jl n g bs cnt i).set (wi n i) (bits .or .i64 ((jl n g bs cnt i).getD (wi n i) 0) (bs.getD i 0 * 2 ^ ws n g i))) := fun i => rfl
          go_wp2_with (go_at_call 62; refine (place_c k n g hb (by omega) _).mono ?_; rintro e w3 ⟨rfl, hb3⟩; have hown3 := own_keep hownr hb3; have q2 := own_cell hown3 (wi n k) hwl; have q3 := hown3.frozenAt (wi n k); have q4 := (hb3.cell (p := ⟨b, off + k, none⟩) (World.block_lt_of_cell? _ _ q1)).trans q1; have hi1 : (0 : Int) ≤ (wi n k : Int) := Int.natCast_nonneg _; have hi2 : (wi n k : Int) < (cnt : Int) := by omega)
          go_region
          go_wp2
          go_roundw
          case rel =>
            have e1 : wrap64 (x * 2 ^ ws n g k) = x * 2 ^ ws n g k := mul24_fit hbk hs24
            have h1 := setAt_own hown3 (wi n k) (bits .or .i64 ((jl n g bs cnt k).getD (wi n k) 0) (x * 2 ^ ws n g k))
            have h2 := (hown3.stored (wi n k) (.int .i64 (bits .or .i64 ((jl n g bs cnt k).getD (wi n k) 0) (x * 2 ^ ws n g k)))).2
            have hq := (show ∀ i, _ from HREL) k
            rw [show bs.getD k 0 = x from EX] at hq
            rw [e1]
            refine ⟨k + 1, by omega, by go_num, ?_, ?_, ?_, ?_, ?_⟩
            · rw [hq]; exact h1.drew
            · exact h2.cell ((hb3.cell (p := ⟨w.heap.size, 0, none⟩) (by show w.heap.size < _; omega)).trans hr0) (by simp; omega)
            · exact h2.cell ((hb3.cell (p := ⟨w.heap.size, 1, none⟩) (by show w.heap.size < _; omega)).trans hr1) (by simp; omega)
            · exact ((hnx.trans (hb3.mono (by omega))).setCell (by show w.heap.size ≤ W; omega) _).drew
            · have := hb3.size; show W < (w3.setCell _ _).heap.size; simp; omega
          case measure => simp [intOf]; omega
      · obtain rfl : k = bs.length := by omega
        clear hlt hk
        go_wp2_with (go_at_call 63; refine (normAll_c W (w.heap.size + 1) cnt cnt _ n g hb (by omega) _ hownr).mono ?_; rintro e w4 ⟨rfl, hown4, hb4⟩)
        go_ret
        exact ⟨_, rfl, by have hj := Rd.of_owns hown4 (by simp [jl_length]; omega); rw [show jn n g bs = List.map (nm n) (jl n g bs cnt bs.length) from by unfold jn; rw [show (bs.length + nb n - 1) / nb n = cnt from HC]]; exact hj, hnx.trans (hb4.mono (by omega))⟩
end Go.Proofs.Ytmhifelkihcidaa
