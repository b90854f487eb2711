/- Whether a list of strings has a string; whether two lists of strings are the same. -/
import Derived.Test.YtpcepfoebkmbgaaDoorLxRd
import Derived.Outline
namespace Go.Proofs.YtpcepfoebkmbgaaDoor
open Go.RowKit
set_option linter.unusedVariables false
set_option maxHeartbeats 400000 in
theorem has_c (v : Value) (xs : List LX.Bs) (l : LX.Bs) (w : World) (h : RdS w v xs) :
    Calls Tryd.prog 36 #[v, .string ⟨l.toArray⟩] w fun e w' => e = .returned (.bool (decide (l ∈ xs))) ∧ w = w' := by
  obtain ⟨a, cap, rfl, hl, h⟩ := h
  obtain ⟨L, hL⟩ : ∃ L, L = xs.length := ⟨_, rfl⟩
  rw [← hL] at h hl ⊢
  have HX : Hid (xs.length = L) := hL.symm
  clear hL
  rcases h with rfl | ⟨b, o, rfl, hc⟩
  · have : L = 0 := HX.symm
    subst this
    go_enter Tryd.func36, Tryd.ntmps36
    go_wp2
    refine wp_loop_rounds 1 ?_
    rw [rounds_succ]
    go_wp2
    go_ret
    exact ⟨rfl, rfl⟩
  go_enter Tryd.func36, Tryd.ntmps36
  go_wp2
  go_loop [5] (fun i => ∃ k : Nat, k ≤ L ∧ i = .int .i64 k ∧ Hid (l ∉ xs.take k)) (fun i => L - (intOf i).toNat)
  case atStart => exact ⟨0, Nat.zero_le _, rfl, (show Hid _ from by show l ∉ xs.take 0; simp)⟩
  case round =>
    obtain ⟨k, hk, rfl, hq⟩ := hrel
    by_cases hlt : k < L
    · have q1 := hc k hlt
      have k0 : (0 : Int) ≤ (k : Int) := by omega
      have k1 : (k : Int) < (L : Int) := by omega
      clear hc
      generalize hx : xs.getD k [] = x at *
      have EX := Lib.hid hx
      clear hx
      by_cases he : x = l
      · subst he
        have hm : Hid (decide (x ∈ xs) = true) := by
          show decide (x ∈ xs) = true
          rw [decide_eq_true_iff, ← EX.out]
          have : k < xs.length := by rw [HX.out]; exact hlt
          simp [this]
        go_wp2
        go_ret
        exact ⟨by rw [hm.out]; rfl, rfl⟩
      · have hn : (x == l) = false := by simpa using he
        have hq2 : Hid (l ∉ xs.take (k + 1)) := mem_succ (by rw [HX.out]; exact hlt) hq.out (by rw [EX.out]; exact he)
        have hn' := Lib.hid he
        clear he
        go_wp2
        go_round
        case rel => exact ⟨k + 1, by omega, by go_num, hq2⟩
        case measure => simp [intOf]; omega
    · obtain rfl : k = L := by omega
      have hm : Hid (decide (l ∈ xs) = false) := by
        show decide (l ∈ xs) = false
        rw [decide_eq_false_iff_not]
        have := hq.out
        rwa [List.take_of_length_le (by rw [HX.out]; exact Nat.le_refl _)] at this
      clear hc
      go_wp2
      go_ret
      exact ⟨by rw [hm.out]; rfl, rfl⟩
theorem takeS_eq_succ {xs ys : List LX.Bs} {k : Nat} (hx : k < xs.length) (hy : k < ys.length) (h : xs.take k = ys.take k) (he : xs.getD k [] = ys.getD k []) : xs.take (k + 1) = ys.take (k + 1) := by
  rw [List.take_succ_eq_append_getElem hx, List.take_succ_eq_append_getElem hy, h]
  simp only [List.getD_eq_getElem?_getD, List.getElem?_eq_getElem hx, List.getElem?_eq_getElem hy, Option.getD_some] at he
  rw [he]
end Go.Proofs.YtpcepfoebkmbgaaDoor
