/- Tests on one byte: each function of both sides by its contract. -/
import Derived.Test.YtfnkafnjpldaoaaDoorLxRd
namespace Go.Proofs.YtfnkafnjpldaoaaDoor
open Go.RowKit
set_option linter.unusedVariables false

theorem u8_bd (c : UInt8) : (0 : Int) ≤ (c.toNat : Int) ∧ (c.toNat : Int) ≤ 255 := by have := c.toNat_lt; omega
theorem ret_bool {a b : Bool} (h : a = b) : Ending.returned (.bool a) = .returned (.bool b) := by rw [h]
theorem ret_int {k : IntKind} {a b : Int} (h : a = b) : Ending.returned (.int k a) = .returned (.int k b) := by rw [h]
set_option maxHeartbeats 400000 in
theorem isPlain_c (c : UInt8) (w : World) : Calls Tryd.prog 34 #[.int .u8 (c.toNat : Int)] w fun e w' => e = .returned (.bool (LX.plain c)) ∧ w = w' := by
  have hb := u8_bd c
  have hs : LX.plain c = (decide ((32 : Int) ≤ (c.toNat : Int)) && decide ((c.toNat : Int) ≤ 126)) := by
    rw [Bool.eq_iff_iff]; simp [LX.plain]; omega
  rw [hs]
  clear hs
  generalize (c.toNat : Int) = m at *
  obtain ⟨b1, b2⟩ := hb
  by_cases h1 : 32 ≤ m
  · by_cases h2 : m ≤ 126
    · have hh : Hid ((decide (32 ≤ m) && decide (m ≤ 126)) = true) := by show _ = true; simp [h1, h2]
      go_enter Tryd.func34, Tryd.ntmps34
      go_wp2
      go_ret
      exact ⟨ret_bool hh.out.symm, rfl⟩
    · have hh : Hid ((decide (32 ≤ m) && decide (m ≤ 126)) = false) := by show _ = false; simp [h1, h2]
      have h2' : ¬ m ≤ 126 := h2
      go_enter Tryd.func34, Tryd.ntmps34
      go_wp2
      go_ret
      exact ⟨ret_bool (by simp; omega), rfl⟩
  · have hh : Hid ((decide (32 ≤ m) && decide (m ≤ 126)) = false) := by show _ = false; simp [h1]
    go_enter Tryd.func34, Tryd.ntmps34
    go_wp2
    go_ret
    exact ⟨ret_bool hh.out.symm, rfl⟩
def nibI (c : UInt8) : Int := if LX.nib c = 16 then -1 else ((LX.nib c : Nat) : Int)
def escV (c : UInt8) : Int := match LX.esc c with | some d => (d.toNat : Int) | none => 0
def escB (c : UInt8) : Bool := (LX.esc c).isSome
end Go.Proofs.YtfnkafnjpldaoaaDoor
