/- Comparing lists of instructions. -/
import Derived.Test.YthlakfgpmggceaaDoorOcRd
import Derived.Test.YthlakfgpmggceaaDoorEq
import Derived.Laws.StructEq
import Derived.Outline
namespace Go.Proofs.YthlakfgpmggceaaDoor
open Go.RowKit
set_option linter.unusedVariables false
theorem take_step {α : Type} {d : α} {xs ys : List α} {k : Nat} (hx : k < xs.length) (hy : k < ys.length) (h : xs.take k = ys.take k) (he : xs.getD k d = ys.getD k d) : xs.take (k + 1) = ys.take (k + 1) := by
  rw [List.take_succ_eq_append_getElem hx, List.take_succ_eq_append_getElem hy, h]
  simp only [List.getD_eq_getElem?_getD, List.getElem?_eq_getElem hx, List.getElem?_eq_getElem hy, Option.getD_some] at he
  rw [he]
set_option maxHeartbeats 2000000 in
theorem EqOps_c (a1 a2 : Option Addr) (n1 n2 c1 c2 : Nat) (xs ys : List OC.Op) (w : World) (h1 : RdO w (.slice a1 n1 c1) xs) (h2 : RdO w (.slice a2 n2 c2) ys) :
    Calls Tryd.prog 66 #[.slice a1 n1 c1, .slice a2 n2 c2] w fun e w' => (∃ t, e = .returned (.bool t) ∧ (t = true ↔ xs = ys)) ∧ Below w.heap.size w w' := by
  obtain ⟨hl1, hk1, hm1⟩ := h1.len
  obtain ⟨hl2, hk2, hm2⟩ := h2.len
  have H1 := Lib.hid h1
  have H2 := Lib.hid h2
  have HX := Lib.hid hl1
  have HY := Lib.hid hl2
  have hb1 : n1 ≤ 140737488355328 := by omega
  clear h1 h2 hl1 hl2
  by_cases hlen : n1 = n2
  · subst hlen
    clear hk2
    go_enter Tryd.func66, Tryd.ntmps66
    go_wp2
    go_loopw [5] (fun i wr => ∃ k : Nat, k ≤ n1 ∧ i = .int .i64 k ∧ Hid (xs.take k = ys.take k) ∧ Below w.heap.size w wr) (fun i _ => n1 - (intOf i).toNat)
    case atStart => exact ⟨0, Nat.zero_le _, rfl, (show Hid _ from (rfl : xs.take 0 = ys.take 0)), Below.refl _ _⟩
    case round =>
      obtain ⟨k, hk, rfl, hq, hnx⟩ := hrel
      by_cases hlt : k < n1
      · obtain ⟨hz1, b1, o1, rfl, hat1⟩ := H1.out.get hlt
        obtain ⟨hz2, b2, o2, rfl, hat2⟩ := H2.out.get hlt
        clear hz1 hz2
        obtain ⟨p0, p1, p2⟩ := hat1.keep hnx
        obtain ⟨q0, q1, q2⟩ := hat2.keep hnx
        have EX : Hid (∃ x, xs.getD k OC.oz = x) := ⟨_, rfl⟩
        have k0 : (0 : Int) ≤ (k : Int) := by omega
        have k1 : (k : Int) < (n1 : Int) := by omega
        clear hat1 hat2
        obtain ⟨x, hx⟩ : ∃ x, xs.getD k OC.oz = x := ⟨_, rfl⟩
        obtain ⟨y, hy⟩ : ∃ y, ys.getD k OC.oz = y := ⟨_, rfl⟩
        rw [hx] at p0 p1 p2
        rw [hy] at q0 q1 q2
        have GX := Lib.hid hx
        have GY := Lib.hid hy
        clear hx hy EX
        obtain ⟨x0, x1, x2⟩ := x
        obtain ⟨y0, y1, y2⟩ := y
        dsimp only at p0 p1 p2 q0 q1 q2
        by_cases he : x0 = y0 ∧ x1 = y1 ∧ x2 = y2
        · obtain ⟨rfl, rfl, rfl⟩ := he
          go_wp2
          go_quiet (fail)
          go_wp2
          go_roundw
          case rel => exact ⟨k + 1, by omega, by go_num, (show Hid _ from take_step (by have := HX.out; omega) (by have := HY.out; omega) hq.out (GX.out.trans GY.out.symm)), below_drewN hnx _⟩
          case measure => simp [intOf]; omega
        · have hd : Hid (¬ xs = ys) := by
            intro h
            rw [h] at GX
            have := GX.out.symm.trans GY.out
            simp at this
            exact he this
          by_cases e0 : x0 = y0
          · subst e0
            by_cases e1 : x1 = y1
            · subst e1
              have f2 : (x2 == y2) = false := by simp at he; simpa using he
              clear he
              go_wp2
              go_quiet (fail)
              go_wp2
              go_ret
              exact ⟨⟨_, rfl, by simp; exact hd.out⟩, below_drewN hnx _⟩
            · have f1 : (x1 == y1) = false := by simpa using e1
              clear he e1
              go_wp2
              go_quiet (fail)
              go_wp2
              go_ret
              exact ⟨⟨_, rfl, by simp; exact hd.out⟩, below_drewN hnx _⟩
          · have f0 : (x0 == y0) = false := by simpa using e0
            clear he e0
            go_wp2
            go_quiet (fail)
            go_wp2
            go_ret
            exact ⟨⟨_, rfl, by simp; exact hd.out⟩, below_drewN hnx _⟩
      · obtain rfl : k = n1 := by omega
        have hd : Hid (xs = ys) := by
          have e := hq.out
          rwa [List.take_of_length_le (by have := HX.out; omega), List.take_of_length_le (by have := HY.out; omega)] at e
        go_wp2
        go_ret
        exact ⟨⟨_, rfl, by simp; exact hd.out⟩, hnx⟩
  · have hd : Hid (¬ xs = ys) := by
      intro h; subst h; exact hlen (HX.out.trans HY.out.symm)
    have hne : ((n1 : Int) != (n2 : Int)) = true := by simp; omega
    go_enter Tryd.func66, Tryd.ntmps66
    go_wp2
    go_ret
    exact ⟨⟨_, rfl, by simp; exact hd.out⟩, Below.refl _ _⟩
end Go.Proofs.YthlakfgpmggceaaDoor
