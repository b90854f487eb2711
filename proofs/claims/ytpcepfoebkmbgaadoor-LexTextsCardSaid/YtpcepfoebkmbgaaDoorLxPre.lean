/- Whether a text begins with another one. -/
import Derived.Test.YtpcepfoebkmbgaaDoorLxAt
namespace Go.Proofs.YtpcepfoebkmbgaaDoor
open Go.RowKit
set_option linter.unusedVariables false
theorem ext_zero (a : ByteArray) (n : Nat) : (a.extract 0 n).toList = (bs a).take n := by
  have := ext_take a 0 n n (by omega)
  rw [bs_toList, this]; rfl
set_option maxHeartbeats 400000 in
theorem liteHas_c (a b : ByteArray) (w : World) (ha : a.size ≤ 9223372036854775807) (r : Bool) (hr : r = decide ((bs a).take (bs b).length = bs b)) :
    Calls Tryd.prog 69 #[.string a, .string b] w fun e w' => e = .returned (.bool r) ∧ w = w' := by
  have hla := bs_len a
  have hlb := bs_len b
  by_cases hlt : b.size ≤ a.size
  · have HR : Hid (((a.extract 0 b.size).toList == b.toList) = r) := by
      show _ = _
      rw [hr, ext_zero, bs_toList, hlb, Bool.eq_iff_iff]; simp
    have g1 : decide ((b.size : Int) ≤ (a.size : Int)) = true := by rw [decide_eq_true_iff]; omega
    have g2 : (b.size : Int) ≤ (a.size : Int) := by omega
    cases r with
    | true =>
      have g3 := HR.out
      clear hr hla hlb
      go_enter Tryd.func69, Tryd.ntmps69
      go_wp2
      go_ret
      exact ⟨rfl, rfl⟩
    | false =>
      have g3 := HR.out
      clear hr hla hlb
      go_enter Tryd.func69, Tryd.ntmps69
      go_wp2
      go_ret
      exact ⟨rfl, rfl⟩
  · have hr2 : r = false := by
      rw [hr, decide_eq_false_iff_not]
      intro h
      have := congrArg List.length h
      simp at this; omega
    subst hr2
    have g1 : decide ((b.size : Int) ≤ (a.size : Int)) = false := by rw [decide_eq_false_iff_not]; omega
    clear hr hla hlb
    go_enter Tryd.func69, Tryd.ntmps69
    go_wp2
    go_ret
    exact ⟨rfl, rfl⟩
theorem HasPrefix_c (a b : ByteArray) (w : World) (ha : a.size ≤ 9223372036854775807) (r : Bool) (hr : r = decide ((bs a).take (bs b).length = bs b)) :
    Calls Tryd.prog 59 #[.string a, .string b] w fun e w' => e = .returned (.bool r) ∧ w = w' := by
  have HC := Lib.hid (fun W => liteHas_c a b W ha r hr)
  clear hr
  go_enter Tryd.func59, Tryd.ntmps59
  go_wp2_with (go_at_call 69; refine (HC.out _).mono ?_; rintro e w' ⟨rfl, rfl⟩)
  go_ret
  exact ⟨rfl, rfl⟩
theorem ext_rest (s : ByteArray) (q : Nat) : bs (s.extract q s.size) = tl s q := by
  by_cases h : q ≤ s.size
  · rw [ext_take s q s.size (s.size - q) (by omega)]
    exact List.take_of_length_le (by rw [tl_len]; omega)
  · rw [tl_nil s q (by omega)]
    apply List.length_eq_zero_iff.1
    rw [bs_len]; simp; omega
theorem ext_size (s : ByteArray) (q : Nat) : (s.extract q s.size).size = s.size - q := by rw [← bs_len, ext_rest, tl_len]
theorem ext_head (s : ByteArray) (q : Nat) (h : q < s.size) (h0 : 0 < (s.extract q s.size).size) : (s.extract q s.size)[0] = s[q] := by
  have e1 := bs_head (s.extract q s.size) h0
  rw [ext_rest, tl_head, dif_pos h] at e1
  injection e1 with e1
  exact e1.symm
end Go.Proofs.YtpcepfoebkmbgaaDoor
