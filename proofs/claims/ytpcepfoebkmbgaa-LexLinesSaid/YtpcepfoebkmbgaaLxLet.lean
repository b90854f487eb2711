/- The document's answer: a byte or an escape. -/
import Derived.Test.YtpcepfoebkmbgaaLxRefA
namespace Go.Proofs.Ytpcepfoebkmbgaa
open Go.RowKit
set_option linter.unusedVariables false
theorem letter_nil (q : UInt8) (s : ByteArray) (k : Nat) (h : s.size ≤ k) : LX.letter q (tl s k) = none := by rw [tl_nil s k h]; rfl
theorem letter_plain (q : UInt8) (s : ByteArray) (k : Nat) (h : k < s.size) (h42 : s[k].toNat ≠ 42) : LX.letter q (tl s k) = if LX.plain s[k] ∧ s[k] ≠ q then some (s[k], 1) else none := by
  rw [tl_cons s k h]; simp only [LX.letter]; rw [if_neg h42]
theorem letter_star (q : UInt8) (s : ByteArray) (k : Nat) (h : k < s.size) (h42 : s[k].toNat = 42) (h2 : ¬ k + 1 < s.size) : LX.letter q (tl s k) = none := by
  rw [tl_cons s k h, tl_nil s (k + 1) (by omega)]; simp only [LX.letter]; rw [if_pos h42]
theorem letter_esc (q : UInt8) (s : ByteArray) (k : Nat) (h : k < s.size) (h42 : s[k].toNat = 42) (h2 : k + 1 < s.size) : LX.letter q (tl s k) = (LX.esc s[k + 1]).map (fun x => (x, 2)) := by
  rw [tl_cons s k h, tl_cons s (k + 1) h2]; simp only [LX.letter]; rw [if_pos h42]
theorem plain_iff (c : UInt8) : LX.plain c = true ↔ 32 ≤ (c.toNat : Int) ∧ (c.toNat : Int) ≤ 126 := by simp [LX.plain]; omega
/-- what 'letter' answers: of a byte that is not as said, nothing but false -/
def LetR (q : UInt8) (s : ByteArray) (k : Nat) (e : Ending) : Prop :=
  match LX.letter q (tl s k) with
  | some (d, n) => e = .returned (.tuple #[.int .u8 (d.toNat : Int), .int .i64 ((k + n : Nat)), .bool true])
  | none => ∃ a b : Int, e = .returned (.tuple #[.int .u8 a, .int .i64 b, .bool false])
theorem LetR.no {q : UInt8} {s : ByteArray} {k : Nat} (h : LX.letter q (tl s k) = none) (a b : Int) : LetR q s k (.returned (.tuple #[.int .u8 a, .int .i64 b, .bool false])) := by
  unfold LetR; rw [h]; exact ⟨a, b, rfl⟩
theorem LetR.yes {q : UInt8} {s : ByteArray} {k : Nat} {d : UInt8} {n : Nat} (h : LX.letter q (tl s k) = some (d, n)) {a b : Int} (ha : a = (d.toNat : Int)) (hb : b = ((k + n : Nat) : Int)) : LetR q s k (.returned (.tuple #[.int .u8 a, .int .i64 b, .bool true])) := by
  unfold LetR; rw [h, ha, hb]
set_option maxHeartbeats 1000000 in
theorem letter_c (q : UInt8) (m : Int) (hm : (q.toNat : Int) = m) (s : ByteArray) (k : Nat) (w : World) (hs : s.size ≤ 1000000) (hk : k ≤ s.size) :
    Calls Try.prog 63 #[.string s, .int .i64 (k : Nat), .int .u8 m] w fun e w' => LetR q s k e ∧ w = w' := by
  by_cases hlt : k < s.size
  rotate_left
  · have hn : Hid (LX.letter q (tl s k) = none) := letter_nil q s k (by omega)
    have hg : decide ((s.size : Int) ≤ (k : Int)) = true := by rw [decide_eq_true_iff]; omega
    clear hm
    go_enter Try.func63, Try.ntmps63
    go_wp2
    go_ret3
    exact ⟨.no hn.out _ _, rfl⟩
  have hg : decide ((s.size : Int) ≤ (k : Int)) = false := by rw [decide_eq_false_iff_not]; omega
  have hb := u8_bd s[k]
  obtain ⟨hb1, hb2⟩ := hb
  by_cases h42 : s[k].toNat = 42
  rotate_left
  · have HL : Hid (LX.letter q (tl s k) = if LX.plain s[k] ∧ s[k] ≠ q then some (s[k], 1) else none) := letter_plain q s k hlt h42
    have f1 := neT (c := s[k]) 42 (by omega)
    by_cases hp : LX.plain s[k] = true
    · obtain ⟨p1, p2⟩ := (plain_iff _).1 hp
      by_cases hq : s[k] = q
      · have hn : Hid (LX.letter q (tl s k) = none) := by show _ = _; rw [HL.out, if_neg (fun h => h.2 hq)]
        have f2 : ((s[k].toNat : Int) != m) = false := by rw [hq, hm]; simp
        clear HL hp hq h42 hm
        go_enter Try.func63, Try.ntmps63
        go_wp2
        go_ret3
        exact ⟨.no hn.out _ _, rfl⟩
      · have hn : Hid (LX.letter q (tl s k) = some (s[k], 1)) := by show _ = _; rw [HL.out, if_pos ⟨hp, hq⟩]
        have f2 : ((s[k].toNat : Int) != m) = true := neT m (fun h => hq (u8_ext (by omega)))
        clear HL hp hq h42 hm
        go_enter Try.func63, Try.ntmps63
        go_wp2
        go_ret3
        exact ⟨.yes hn.out rfl (by omega), rfl⟩
    · have hn : Hid (LX.letter q (tl s k) = none) := by show _ = _; rw [HL.out, if_neg (fun h => hp h.1)]
      have hp' : ¬ (32 ≤ (s[k].toNat : Int) ∧ (s[k].toNat : Int) ≤ 126) := fun h => hp ((plain_iff _).2 h)
      clear HL hp h42 hm
      by_cases p1 : 32 ≤ (s[k].toNat : Int)
      · have p2 : ¬ (s[k].toNat : Int) ≤ 126 := fun h => hp' ⟨p1, h⟩
        clear hp'
        go_enter Try.func63, Try.ntmps63
        go_wp2
        go_ret3
        exact ⟨.no hn.out _ _, rfl⟩
      · clear hp'
        go_enter Try.func63, Try.ntmps63
        go_wp2
        go_ret3
        exact ⟨.no hn.out _ _, rfl⟩
  · have f1 := neF (c := s[k]) 42 (by omega)
    by_cases h2 : k + 1 < s.size
    rotate_left
    · have hn : Hid (LX.letter q (tl s k) = none) := letter_star q s k hlt h42 h2
      have g2 : decide ((s.size : Int) ≤ (k : Int) + 1) = true := by rw [decide_eq_true_iff]; omega
      clear hm h42
      go_enter Try.func63, Try.ntmps63
      go_wp2
      go_ret3
      exact ⟨.no hn.out _ _, rfl⟩
    have g2 : decide ((s.size : Int) ≤ (k : Int) + 1) = false := by rw [decide_eq_false_iff_not]; omega
    have HL : Hid (LX.letter q (tl s k) = (LX.esc s[k + 1]).map (fun x => (x, 2))) := letter_esc q s k hlt h42 h2
    clear hm h42
    by_cases k110 : s[k + 1].toNat = 110
    · have hn : Hid (LX.letter q (tl s k) = some (10, 2)) := by
        show _ = _
        have : LX.esc s[k + 1] = some 10 := by unfold LX.esc; rw [if_pos (by omega)]
        rw [HL.out, this]; rfl
      have t110 := eqT (c := s[k + 1]) 110 (by omega)
      have K0 := Lib.hid k110
      clear HL k110
      go_enter Try.func63, Try.ntmps63
      go_wp2
      go_ret3
      exact ⟨.yes hn.out (by first | rfl | (have := K0.out; omega)) (by omega), rfl⟩
    have t110 := eqF (c := s[k + 1]) 110 (by omega)
    by_cases k116 : s[k + 1].toNat = 116
    · have hn : Hid (LX.letter q (tl s k) = some (9, 2)) := by
        show _ = _
        have : LX.esc s[k + 1] = some 9 := by unfold LX.esc; rw [if_neg (by omega), if_pos (by omega)]
        rw [HL.out, this]; rfl
      have t116 := eqT (c := s[k + 1]) 116 (by omega)
      have K0 := Lib.hid k116
      clear HL k110 k116
      go_enter Try.func63, Try.ntmps63
      go_wp2
      go_ret3
      exact ⟨.yes hn.out (by first | rfl | (have := K0.out; omega)) (by omega), rfl⟩
    have t116 := eqF (c := s[k + 1]) 116 (by omega)
    by_cases k115 : s[k + 1].toNat = 115
    · have hn : Hid (LX.letter q (tl s k) = some (32, 2)) := by
        show _ = _
        have : LX.esc s[k + 1] = some 32 := by unfold LX.esc; rw [if_neg (by omega), if_neg (by omega), if_pos (by omega)]
        rw [HL.out, this]; rfl
      have t115 := eqT (c := s[k + 1]) 115 (by omega)
      have K0 := Lib.hid k115
      clear HL k110 k116 k115
      go_enter Try.func63, Try.ntmps63
      go_wp2
      go_ret3
      exact ⟨.yes hn.out (by first | rfl | (have := K0.out; omega)) (by omega), rfl⟩
    have t115 := eqF (c := s[k + 1]) 115 (by omega)
    by_cases k42 : s[k + 1].toNat = 42
    · have hn : Hid (LX.letter q (tl s k) = some (s[k + 1], 2)) := by
        show _ = _
        have : LX.esc s[k + 1] = some s[k + 1] := by unfold LX.esc; rw [if_neg (by omega), if_neg (by omega), if_neg (by omega), if_pos (by omega)]
        rw [HL.out, this]; rfl
      have t42 := eqT (c := s[k + 1]) 42 (by omega)
      have K0 := Lib.hid k42
      clear HL k110 k116 k115 k42
      go_enter Try.func63, Try.ntmps63
      go_wp2
      go_ret3
      exact ⟨.yes hn.out (by first | rfl | (have := K0.out; omega)) (by omega), rfl⟩
    have t42 := eqF (c := s[k + 1]) 42 (by omega)
    by_cases k39 : s[k + 1].toNat = 39
    · have hn : Hid (LX.letter q (tl s k) = some (s[k + 1], 2)) := by
        show _ = _
        have : LX.esc s[k + 1] = some s[k + 1] := by unfold LX.esc; rw [if_neg (by omega), if_neg (by omega), if_neg (by omega), if_pos (by omega)]
        rw [HL.out, this]; rfl
      have t39 := eqT (c := s[k + 1]) 39 (by omega)
      have K0 := Lib.hid k39
      clear HL k110 k116 k115 k42 k39
      go_enter Try.func63, Try.ntmps63
      go_wp2
      go_ret3
      exact ⟨.yes hn.out (by first | rfl | (have := K0.out; omega)) (by omega), rfl⟩
    have t39 := eqF (c := s[k + 1]) 39 (by omega)
    by_cases k34 : s[k + 1].toNat = 34
    · have hn : Hid (LX.letter q (tl s k) = some (s[k + 1], 2)) := by
        show _ = _
        have : LX.esc s[k + 1] = some s[k + 1] := by unfold LX.esc; rw [if_neg (by omega), if_neg (by omega), if_neg (by omega), if_pos (by omega)]
        rw [HL.out, this]; rfl
      have t34 := eqT (c := s[k + 1]) 34 (by omega)
      have K0 := Lib.hid k34
      clear HL k110 k116 k115 k42 k39 k34
      go_enter Try.func63, Try.ntmps63
      go_wp2
      go_ret3
      exact ⟨.yes hn.out (by first | rfl | (have := K0.out; omega)) (by omega), rfl⟩
    have t34 := eqF (c := s[k + 1]) 34 (by omega)
    have hn : Hid (LX.letter q (tl s k) = none) := by
      show _ = _
      have : LX.esc s[k + 1] = none := by unfold LX.esc; rw [if_neg (by omega), if_neg (by omega), if_neg (by omega), if_neg (by omega)]
      rw [HL.out, this]; rfl
    clear HL k110 k116 k115 k42 k39 k34
    go_enter Try.func63, Try.ntmps63
    go_wp2
    go_ret3
    exact ⟨.no hn.out _ _, rfl⟩
end Go.Proofs.Ytpcepfoebkmbgaa
