/- The document's answer: a byte or an escape. -/
import Derived.Test.YtpcepfoebkmbgaaDoorLxRefA
namespace Go.Proofs.YtpcepfoebkmbgaaDoor
open Go.RowKit
set_option linter.unusedVariables false
theorem letter_nil (q : UInt8) (s : ByteArray) (k : Nat) (h : s.size ≤ k) : LX.letter q (tl s k) = none := by rw [tl_nil s k h]; rfl
theorem letter_plain (q : UInt8) (s : ByteArray) (k : Nat) (h : k < s.size) (h42 : s[k].toNat ≠ 42) : LX.letter q (tl s k) = if LX.plain s[k] ∧ s[k] ≠ q then some (s[k], 1) else none := by
  rw [tl_cons s k h]; simp only [LX.letter]; rw [if_neg h42]
theorem letter_star (q : UInt8) (s : ByteArray) (k : Nat) (h : k < s.size) (h42 : s[k].toNat = 42) (h2 : ¬ k + 1 < s.size) : LX.letter q (tl s k) = none := by
  rw [tl_cons s k h, tl_nil s (k + 1) (by omega)]; simp only [LX.letter]; rw [if_pos h42]
theorem letter_esc (q : UInt8) (s : ByteArray) (k : Nat) (h : k < s.size) (h42 : s[k].toNat = 42) (h2 : k + 1 < s.size) : LX.letter q (tl s k) = (LX.esc s[k + 1]).map (fun x => (x, 2)) := by
  rw [tl_cons s k h, tl_cons s (k + 1) h2]; simp only [LX.letter]; rw [if_pos h42]
theorem plain_iff (c : UInt8) : LX.plain c = true ↔ 32 ≤ (c.toNat : Int) ∧ (c.toNat : Int) ≤ 126 := by simp [LX.plain]; omega
/-- what 'letter' answers: of a byte that is not as said, nothing but false -/
def LetR (q : UInt8) (s : ByteArray) (k : Nat) (e : Ending) : Prop :=
  match LX.letter q (tl s k) with
  | some (d, n) => e = .returned (.tuple #[.int .u8 (d.toNat : Int), .int .i64 ((k + n : Nat)), .bool true])
  | none => ∃ a b : Int, e = .returned (.tuple #[.int .u8 a, .int .i64 b, .bool false])
theorem LetR.no {q : UInt8} {s : ByteArray} {k : Nat} (h : LX.letter q (tl s k) = none) (a b : Int) : LetR q s k (.returned (.tuple #[.int .u8 a, .int .i64 b, .bool false])) := by
  unfold LetR; rw [h]; exact ⟨a, b, rfl⟩
theorem LetR.yes {q : UInt8} {s : ByteArray} {k : Nat} {d : UInt8} {n : Nat} (h : LX.letter q (tl s k) = some (d, n)) {a b : Int} (ha : a = (d.toNat : Int)) (hb : b = ((k + n : Nat) : Int)) : LetR q s k (.returned (.tuple #[.int .u8 a, .int .i64 b, .bool true])) := by
  unfold LetR; rw [h, ha, hb]
end Go.Proofs.YtpcepfoebkmbgaaDoor
