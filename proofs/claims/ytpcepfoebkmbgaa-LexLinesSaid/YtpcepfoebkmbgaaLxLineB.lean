/- Line, the program's; and both out of range. -/
import Derived.Test.YtpcepfoebkmbgaaLxLineP
import Derived.Test.YtpcepfoebkmbgaaLxPre
namespace Go.Proofs.Ytpcepfoebkmbgaa
open Go.RowKit
set_option linter.unusedVariables false
set_option maxHeartbeats 1000000 in
theorem Line_c (s : ByteArray) (n : Nat) (w : World) (hs : s.size ≤ 140737488351232) (hn : n ≤ s.size) :
    Calls Try.prog 21 #[.string s, .int .i64 (n : Int)] w fun e w' => e = .returned (.tuple #[.int .i64 ((lnG ((bs s).take n)).1 + 1 : Int), .int .i64 ((lnG ((bs s).take n)).2 : Int), .int .i64 0]) ∧ Below w.heap.size w w' := by
  have hbx : bs (s.extract 0 n) = (bs s).take n := by rw [ext_take s 0 n n (by omega)]; rfl
  have hsz : (s.extract 0 n).size = n := by rw [← bs_len, hbx, List.length_take, bs_len]; omega
  have hbd := lnG_bd ((bs s).take n)
  rw [List.length_take, bs_len] at hbd
  obtain ⟨a, ha⟩ : ∃ a, (lnG ((bs s).take n)).1 = a := ⟨_, rfl⟩
  obtain ⟨b, hb⟩ : ∃ b, (lnG ((bs s).take n)).2 = b := ⟨_, rfl⟩
  obtain ⟨v, hv⟩ : ∃ v : Int, v = (n : Int) - 1 - (b : Int) := ⟨_, rfl⟩
  have HC1 : Hid (∀ W, Calls Try.prog 34 #[.string (s.extract 0 n), .string ⟨#[10]⟩] W fun e w' => e = .returned (.int .i64 (a : Int)) ∧ Below W.heap.size W w') := by
    intro W
    have h := count_c (s.extract 0 n) W
    rw [hbx, ha] at h; exact h
  have HC2 : Hid (∀ W, Calls Try.prog 35 #[.string (s.extract 0 n), .int .u8 10] W fun e w' => e = .returned (.int .i64 v) ∧ Below W.heap.size W w') := by
    intro W
    have h := last_c (s.extract 0 n) W (by omega)
    rw [hbx, hb, hsz] at h; rw [hv]; exact h
  rw [ha, hb] at hbd ⊢
  have k0 : (0 : Int) ≤ (n : Int) := by omega
  have k1 : (n : Int) ≤ (s.size : Int) := by omega
  have b1 : a ≤ n := by omega
  have b2 : b ≤ n := by omega
  have v1 : (-1 : Int) ≤ v := by omega
  have v2 : v ≤ (n : Int) := by omega
  have HV := Lib.hid hv
  clear hv ha hb hbd hbx
  go_enter Try.func21, Try.ntmps21
  go_wp2_with (first
    | (go_at_call 35; refine (HC2.out _).mono ?_; rintro e w2 ⟨rfl, hb2⟩)
    | (go_at_call 34; refine (HC1.out _).mono ?_; rintro e w1 ⟨rfl, hb1⟩))
  have e1 : (1 : Int) + (a : Int) = (a : Int) + 1 := by omega
  have e2 : (n : Int) - (1 + v) = (b : Int) := by have := HV.out; omega
  go_ret3
  exact ⟨by rw [e1, e2]; rfl, below_then hb1 hb2⟩
theorem Line_neg (s : ByteArray) (x : Int) (w : World) (h : x < 0) : Calls Try.prog 21 #[.string s, .int .i64 x] w fun e w' => e = .returned (.tuple #[.int .i64 0, .int .i64 0, .int .i64 1]) ∧ Below w.heap.size w w' := by
  have g1 : decide (x < (0 : Int)) = true := by rw [decide_eq_true_iff]; exact h
  clear h
  go_enter Try.func21, Try.ntmps21
  go_wp2
  go_ret3
  exact ⟨rfl, Below.refl _ _⟩
theorem refLine_neg (s : ByteArray) (x : Int) (w : World) (h : x < 0) : Calls Try.prog 22 #[.string s, .int .i64 x] w fun e w' => e = .returned (.tuple #[.int .i64 0, .int .i64 0, .int .i64 1]) ∧ Below w.heap.size w w' := by
  have g1 : decide (x < (0 : Int)) = true := by rw [decide_eq_true_iff]; exact h
  clear h
  go_enter Try.func22, Try.ntmps22
  go_wp2
  go_ret3
  exact ⟨rfl, Below.refl _ _⟩
theorem Line_far (s : ByteArray) (x : Int) (w : World) (h0 : ¬ x < 0) (h : (s.size : Int) < x) : Calls Try.prog 21 #[.string s, .int .i64 x] w fun e w' => e = .returned (.tuple #[.int .i64 0, .int .i64 0, .int .i64 1]) ∧ Below w.heap.size w w' := by
  have g1 : decide (x < (0 : Int)) = false := by rw [decide_eq_false_iff_not]; exact h0
  have g2 : decide ((s.size : Int) < x) = true := by rw [decide_eq_true_iff]; exact h
  clear h h0
  go_enter Try.func21, Try.ntmps21
  go_wp2
  go_ret3
  exact ⟨rfl, Below.refl _ _⟩
theorem refLine_far (s : ByteArray) (x : Int) (w : World) (h0 : ¬ x < 0) (h : (s.size : Int) < x) : Calls Try.prog 22 #[.string s, .int .i64 x] w fun e w' => e = .returned (.tuple #[.int .i64 0, .int .i64 0, .int .i64 1]) ∧ Below w.heap.size w w' := by
  have g1 : decide (x < (0 : Int)) = false := by rw [decide_eq_false_iff_not]; exact h0
  have g2 : decide ((s.size : Int) < x) = true := by rw [decide_eq_true_iff]; exact h
  clear h h0
  go_enter Try.func22, Try.ntmps22
  go_wp2
  go_ret3
  exact ⟨rfl, Below.refl _ _⟩
end Go.Proofs.Ytpcepfoebkmbgaa
