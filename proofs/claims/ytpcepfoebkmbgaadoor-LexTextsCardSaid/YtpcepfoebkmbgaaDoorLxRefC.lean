/- The document's answer: characters. -/
import Derived.Test.YtpcepfoebkmbgaaDoorLxRefN
namespace Go.Proofs.YtpcepfoebkmbgaaDoor
open Go.RowKit
set_option linter.unusedVariables false
theorem letter_fits {q : UInt8} {s : ByteArray} {k : Nat} {d : UInt8} {n : Nat} (h : LX.letter q (tl s k) = some (d, n)) : 1 ≤ n ∧ k + n ≤ s.size := by
  have := LX.letter_len h
  rw [tl_len] at this; omega
theorem char_none {r : LX.Bs} (h : LX.letter 39 r = none) : LX.charR r = .bad 21 := by unfold LX.charR; rw [h]
theorem char_good {s : ByteArray} {k : Nat} {d : UInt8} {n : Nat} (h : LX.letter 39 (tl s k) = some (d, n)) (hk : k + n < s.size) (h39 : s[k + n].toNat = 39) : LX.charR (tl s k) = .good 2 [] d.toNat (n + 2) := by
  unfold LX.charR; rw [h]; simp only
  rw [tl_drop, tl_head, dif_pos hk, if_pos]
  rw [u8_ext (c := s[k + n]) (d := 39) h39]
theorem char_bad {s : ByteArray} {k : Nat} {d : UInt8} {n : Nat} (h : LX.letter 39 (tl s k) = some (d, n)) (h39 : ∀ hk : k + n < s.size, s[k + n].toNat ≠ 39) : LX.charR (tl s k) = .bad 21 := by
  unfold LX.charR; rw [h]; simp only
  rw [tl_drop, tl_head, if_neg]
  split
  · rename_i hk
    intro he
    injection he with he
    exact h39 hk (by rw [he]; rfl)
  · simp
end Go.Proofs.YtpcepfoebkmbgaaDoor
