/- Comparing lists of integers. -/
import Derived.Test.YtfnkafnjpldaoaaDoorRd
import Derived.Deep.QuietTactic
import Derived.BigQuiet
namespace Go.Proofs.YtfnkafnjpldaoaaDoor
open Go.RowKit
set_option linter.unusedVariables false

theorem take_eq_succ {xs ys : List Int} {k : Nat} (hx : k < xs.length) (hy : k < ys.length) (h : xs.take k = ys.take k) (he : xs.getD k 0 = ys.getD k 0) : xs.take (k + 1) = ys.take (k + 1) := by
  rw [List.take_succ_eq_append_getElem hx, List.take_succ_eq_append_getElem hy, h]
  simp only [List.getD_eq_getElem?_getD, List.getElem?_eq_getElem hx, List.getElem?_eq_getElem hy, Option.getD_some] at he
  rw [he]
set_option maxHeartbeats 400000 in
theorem EqInts_c (v1 v2 : Value) (xs ys : List Int) (w : World) (h1 : Rd .i64 w v1 xs) (h2 : Rd .i64 w v2 ys) :
    Calls Tryd.prog 9 #[v1, v2] w fun e w' => e = .returned (.bool (decide (xs = ys))) ∧ Below w.heap.size w w' := by
  obtain ⟨a1, c1, rfl, hl1, h1⟩ := h1
  obtain ⟨a2, c2, rfl, hl2, h2⟩ := h2
  by_cases hlen : xs.length = ys.length
  · rcases h1 with rfl | ⟨b1, o1, rfl, hc1⟩
    · have : ys = [] := List.length_eq_zero_iff.1 hlen.symm
      subst this
      go_enter Tryd.func9, Tryd.ntmps9
      go_wp2
      refine wp_loop_rounds 1 ?_
      rw [rounds_succ]
      go_wp2
      go_ret
      exact ⟨rfl, Below.refl _ _⟩
    · rcases h2 with rfl | ⟨b2, o2, rfl, hc2⟩
      · have : xs = [] := List.length_eq_zero_iff.1 hlen
        subst this
        go_enter Tryd.func9, Tryd.ntmps9
        go_wp2
        refine wp_loop_rounds 1 ?_
        rw [rounds_succ]
        go_wp2
        go_ret
        exact ⟨rfl, Below.refl _ _⟩
      · obtain ⟨L, hL⟩ : ∃ L, L = ys.length := ⟨_, rfl⟩
        rw [hlen, ← hL]
        rw [hlen, ← hL] at hc1
        rw [← hL] at hc2 hl2
        have HX : Hid (xs.length = L) := by rw [hL]; exact hlen
        have HY : Hid (ys.length = L) := hL.symm
        clear hlen hL hl1
        go_enter Tryd.func9, Tryd.ntmps9
        go_wp2
        go_loopw [5] (fun i wr => ∃ k : Nat, k ≤ L ∧ i = .int .i64 k ∧ Hid (xs.take k = ys.take k) ∧ Below w.heap.size w wr) (fun i _ => L - (intOf i).toNat)
        case atStart => exact ⟨0, Nat.zero_le _, rfl, (show Hid _ from (rfl : xs.take 0 = ys.take 0)), Below.refl _ _⟩
        case round =>
          obtain ⟨k, hk, rfl, hq, hnx⟩ := hrel
          by_cases hlt : k < L
          · have q1 := (hnx.cell (p := ⟨b1, o1 + k, none⟩) (World.block_lt_of_cell? w _ (hc1 k hlt))).trans (hc1 k hlt)
            have q2 := (hnx.cell (p := ⟨b2, o2 + k, none⟩) (World.block_lt_of_cell? w _ (hc2 k hlt))).trans (hc2 k hlt)
            have k0 : (0 : Int) ≤ (k : Int) := by omega
            have k1 : (k : Int) < (L : Int) := by omega
            clear hc1 hc2
            generalize hx : xs.getD k 0 = x at *
            generalize hy : ys.getD k 0 = y at *
            have EX : Hid (xs.getD k 0 = x) := hx
            have EY : Hid (ys.getD k 0 = y) := hy
            clear hx hy
            by_cases he : x = y
            · subst he
              go_wp2
              go_quiet (fail)
              go_wp2
              go_roundw
              case rel => exact ⟨k + 1, by omega, by go_num, (show Hid _ from take_eq_succ (by have : xs.length = L := HX; omega) (by have : ys.length = L := HY; omega) hq ((show xs.getD k 0 = x from EX).trans (show ys.getD k 0 = x from EY).symm)), below_drewN hnx _⟩
              case measure => simp [intOf]; omega
            · have hn : (x != y) = true := by simpa using he
              have hd : Hid (decide (xs = ys) = false) := by
                show decide (xs = ys) = false
                rw [decide_eq_false_iff_not]; intro h; subst h
                exact he ((show xs.getD k 0 = x from EX).symm.trans EY)
              go_wp2
              go_quiet (fail)
              go_wp2
              go_ret
              exact ⟨by rw [show decide (xs = ys) = false from hd]; rfl, below_drewN hnx _⟩
          · obtain rfl : k = L := by omega
            have hd : Hid (decide (xs = ys) = true) := by
              show decide (xs = ys) = true
              rw [decide_eq_true_iff]
              have e1 : xs.length = k := HX
              have e2 : ys.length = k := HY
              have e3 : xs.take k = ys.take k := hq
              rwa [List.take_of_length_le (by omega), List.take_of_length_le (by omega)] at e3
            clear hc1 hc2
            go_wp2
            go_ret
            exact ⟨by rw [show decide (xs = ys) = true from hd]; rfl, hnx⟩
  · have hd : decide (xs = ys) = false := by rw [decide_eq_false_iff_not]; intro h; rw [h] at hlen; exact hlen rfl
    rw [hd]; clear hd
    have hn : ((xs.length : Int) != (ys.length : Int)) = true := by simp; omega
    clear h1 h2 hlen
    go_enter Tryd.func9, Tryd.ntmps9
    go_wp2
    go_ret
    exact ⟨rfl, Below.refl _ _⟩
end Go.Proofs.YtfnkafnjpldaoaaDoor
