/- The document's answer: signs. -/
import Derived.Test.YtpcepfoebkmbgaaDoorLxRefC
import Derived.Deep.RegionHeld3
import Derived.Deep.DrawnRows
import Derived.IntWalk
namespace Go.Proofs.YtpcepfoebkmbgaaDoor
open Go.RowKit
set_option linter.unusedVariables false
theorem take_short (s : ByteArray) (k n : Nat) (h : s.size ≤ k + n) : (tl s k).take n = tl s k := List.take_of_length_le (by rw [tl_len]; omega)
theorem sign_two {s : ByteArray} {k : Nat} (h : k + 2 ≤ s.size) (hin : (tl s k).take 2 ∈ LX.signL) : LX.signR (tl s k) = .good 5 ((tl s k).take 2) 0 2 := by
  unfold LX.signR; rw [if_pos hin]
  have : ((tl s k).take 2).length = 2 := by rw [List.length_take, tl_len]; omega
  rw [this]
theorem sign_one {s : ByteArray} {k : Nat} (hk : k < s.size) (h : (tl s k).take 2 ∉ LX.signL ∨ ¬ k + 2 ≤ s.size) (hin : (tl s k).take 1 ∈ LX.signL) : LX.signR (tl s k) = .good 5 ((tl s k).take 1) 0 1 := by
  unfold LX.signR
  rcases h with h | h
  · rw [if_neg h, if_pos hin]
  · have e : (tl s k).take 2 = (tl s k).take 1 := by rw [take_short s k 2 (by omega), take_short s k 1 (by omega)]
    rw [e, if_pos hin]
    have : ((tl s k).take 1).length = 1 := by rw [List.length_take, tl_len]; omega
    rw [this]
theorem sign_bad {s : ByteArray} {k : Nat} (hk : k < s.size) (h : (tl s k).take 2 ∉ LX.signL ∨ ¬ k + 2 ≤ s.size) (hin : (tl s k).take 1 ∉ LX.signL) : LX.signR (tl s k) = .bad 20 := by
  unfold LX.signR
  rcases h with h | h
  · rw [if_neg h, if_neg hin]
  · have e : (tl s k).take 2 = (tl s k).take 1 := by rw [take_short s k 2 (by omega), take_short s k 1 (by omega)]
    rw [e, if_neg hin, if_neg hin]
attribute [local go_sem ↓] Go.wp_at_zero Go.wp_at_succ
end Go.Proofs.YtpcepfoebkmbgaaDoor
