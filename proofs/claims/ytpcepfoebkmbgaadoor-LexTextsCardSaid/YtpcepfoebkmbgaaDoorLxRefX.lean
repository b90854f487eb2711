/- The document's answer: the next token. -/
import Derived.Test.YtpcepfoebkmbgaaDoorLxRefS
import Derived.Test.YtpcepfoebkmbgaaDoorLxRefT
namespace Go.Proofs.YtpcepfoebkmbgaaDoor
open Go.RowKit
set_option linter.unusedVariables false
theorem TokR.form {r : LX.Res} {k : Nat} {e : Ending} (h : TokR r k e) : ∃ (a : Int) (b : ByteArray) (c d x y : Int), e = .returned (.tuple #[.agg #[.int .i64 a, .string b, .int .i64 c, .int .i64 d], .int .i64 x, .int .i64 y]) := by
  unfold TokR at h
  split at h <;> exact ⟨_, _, _, _, _, _, h⟩
theorem tok_word {c : UInt8} {r : LX.Bs} (h : LX.small c = true) : LX.tok c r = LX.wordR (c :: r) := by unfold LX.tok; rw [if_pos h]
theorem tok_dec {c : UInt8} {r : LX.Bs} (h : LX.small c = false) (h2 : LX.isDig c = true) : LX.tok c r = LX.numR 10 2147483647 0 (c :: r) := by unfold LX.tok; rw [if_neg (by simp [h]), if_pos h2]
theorem tok_hex {c : UInt8} {r : LX.Bs} (h : LX.small c = false) (h2 : LX.isDig c = false) (h3 : c.toNat = 35) : LX.tok c r = LX.hexR r := by unfold LX.tok; rw [if_neg (by simp [h]), if_neg (by simp [h2]), if_pos h3]
theorem tok_char {c : UInt8} {r : LX.Bs} (h : LX.small c = false) (h2 : LX.isDig c = false) (h3 : c.toNat = 39) : LX.tok c r = LX.charR r := by unfold LX.tok; rw [if_neg (by simp [h]), if_neg (by simp [h2]), if_neg (by omega), if_pos h3]
theorem tok_text {c : UInt8} {r : LX.Bs} (h : LX.small c = false) (h2 : LX.isDig c = false) (h3 : c.toNat = 34) : LX.tok c r = LX.textR r := by unfold LX.tok; rw [if_neg (by simp [h]), if_neg (by simp [h2]), if_neg (by omega), if_neg (by omega), if_pos h3]
theorem tok_sign {c : UInt8} {r : LX.Bs} (h : LX.small c = false) (h2 : LX.isDig c = false) (h3 : c.toNat ≠ 35 ∧ c.toNat ≠ 39 ∧ c.toNat ≠ 34) : LX.tok c r = LX.signR (c :: r) := by unfold LX.tok; rw [if_neg (by simp [h]), if_neg (by simp [h2]), if_neg h3.1, if_neg h3.2.1, if_neg h3.2.2]
theorem hex_none {s : ByteArray} {k : Nat} (h : ∀ hk : k < s.size, ¬ LX.nib s[k] < 16) : LX.hexR (tl s k) = .bad 20 := by
  by_cases hk : k < s.size
  · rw [tl_cons s k hk]; simp only [LX.hexR]; rw [if_neg (h hk)]
  · rw [tl_nil s k (by omega)]; rfl
theorem hex_some {s : ByteArray} {k : Nat} (hk : k < s.size) (h : LX.nib s[k] < 16) : LX.hexR (tl s k) = LX.numR 16 4294967295 1 (tl s k) := by
  conv => lhs; rw [tl_cons s k hk]
  simp only [LX.hexR]; rw [if_pos h, ← tl_cons s k hk]
end Go.Proofs.YtpcepfoebkmbgaaDoor
