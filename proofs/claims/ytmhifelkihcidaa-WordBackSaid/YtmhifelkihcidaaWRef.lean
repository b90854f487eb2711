/- The reference's operators and MulDiv, each by its contract. -/
import Derived.Test.YtmhifelkihcidaaWApp
namespace Go.Proofs.Ytmhifelkihcidaa
open Go.RowKit WM
set_option linter.unusedVariables false
theorem ret2_int {k : IntKind} {a b : Int} {v : Value} (h : a = b) : Ending.returned (.tuple #[.int k a, v]) = .returned (.tuple #[.int k b, v]) := by rw [h]
set_option maxHeartbeats 400000 in
theorem reftruth_c (p : Bool) (w : World) :
    Calls Try.prog 68 #[.bool p] w fun e w' => e = .returned (.int .i64 (tr p)) ∧ w = w' := by
  cases p
  all_goals
    go_enter Try.func68, Try.ntmps68
    go_wp2
    go_ret
    exact ⟨rfl, rfl⟩
set_option maxHeartbeats 400000 in
theorem whole1 (x y : Int) (b1 : -2147483648 ≤ x ∧ x ≤ 2147483647) (b2 : -2147483648 ≤ y ∧ y ≤ 2147483647) (w : World) :
    Calls Try.prog 51 #[.int .i64 (1), .int .i64 (x), .int .i64 (y)] w fun e w' => e = .returned (.tuple #[.int .i64 (x * y), .bool true]) ∧ w = w' := by
  go_enter Try.func51, Try.ntmps51
  go_wp2_with (first | (go_at_call 68; refine (reftruth_c _ _).mono ?_; rintro e w' ⟨rfl, rfl⟩))
  go_ret2
  exact ⟨ret2_int (mul_fit x y b1 b2), rfl⟩
set_option maxHeartbeats 400000 in
theorem whole2 (x y : Int) (b1 : -2147483648 ≤ x ∧ x ≤ 2147483647) (b2 : -2147483648 ≤ y ∧ y ≤ 2147483647) (hz : y ≠ 0) (w : World) :
    Calls Try.prog 51 #[.int .i64 (2), .int .i64 (x), .int .i64 (y)] w fun e w' => e = .returned (.tuple #[.int .i64 (x.tdiv y), .bool true]) ∧ w = w' := by
  go_enter Try.func51, Try.ntmps51
  go_wp2_with (first | (go_at_call 68; refine (reftruth_c _ _).mono ?_; rintro e w' ⟨rfl, rfl⟩))
  go_ret2
  exact ⟨ret2_int (div_fit x y b1), rfl⟩
set_option maxHeartbeats 400000 in
theorem whole3 (x y : Int) (b1 : -2147483648 ≤ x ∧ x ≤ 2147483647) (b2 : -2147483648 ≤ y ∧ y ≤ 2147483647) (hz : y ≠ 0) (w : World) :
    Calls Try.prog 51 #[.int .i64 (3), .int .i64 (x), .int .i64 (y)] w fun e w' => e = .returned (.tuple #[.int .i64 (x.tmod y), .bool true]) ∧ w = w' := by
  go_enter Try.func51, Try.ntmps51
  go_wp2_with (first | (go_at_call 68; refine (reftruth_c _ _).mono ?_; rintro e w' ⟨rfl, rfl⟩))
  go_ret2
  exact ⟨rfl, rfl⟩
set_option maxHeartbeats 400000 in
theorem whole4 (x y : Int) (b1 : -2147483648 ≤ x ∧ x ≤ 2147483647) (b2 : -2147483648 ≤ y ∧ y ≤ 2147483647) (w : World) :
    Calls Try.prog 51 #[.int .i64 (4), .int .i64 (x), .int .i64 (y)] w fun e w' => e = .returned (.tuple #[.int .i64 (x + y), .bool true]) ∧ w = w' := by
  go_enter Try.func51, Try.ntmps51
  go_wp2_with (first | (go_at_call 68; refine (reftruth_c _ _).mono ?_; rintro e w' ⟨rfl, rfl⟩))
  go_ret2
  exact ⟨rfl, rfl⟩
set_option maxHeartbeats 400000 in
theorem whole5 (x y : Int) (b1 : -2147483648 ≤ x ∧ x ≤ 2147483647) (b2 : -2147483648 ≤ y ∧ y ≤ 2147483647) (w : World) :
    Calls Try.prog 51 #[.int .i64 (5), .int .i64 (x), .int .i64 (y)] w fun e w' => e = .returned (.tuple #[.int .i64 (x - y), .bool true]) ∧ w = w' := by
  go_enter Try.func51, Try.ntmps51
  go_wp2_with (first | (go_at_call 68; refine (reftruth_c _ _).mono ?_; rintro e w' ⟨rfl, rfl⟩))
  go_ret2
  exact ⟨rfl, rfl⟩
set_option maxHeartbeats 400000 in
theorem whole6 (x y : Int) (w : World) :
    Calls Try.prog 51 #[.int .i64 (6), .int .i64 (x), .int .i64 (y)] w fun e w' => e = .returned (.tuple #[.int .i64 (0), .bool false]) ∧ w = w' := by
  go_enter Try.func51, Try.ntmps51
  go_wp2_with (first | (go_at_call 68; refine (reftruth_c _ _).mono ?_; rintro e w' ⟨rfl, rfl⟩))
  go_ret2
  exact ⟨rfl, rfl⟩
set_option maxHeartbeats 400000 in
theorem whole7 (x y : Int) (w : World) :
    Calls Try.prog 51 #[.int .i64 (7), .int .i64 (x), .int .i64 (y)] w fun e w' => e = .returned (.tuple #[.int .i64 (0), .bool false]) ∧ w = w' := by
  go_enter Try.func51, Try.ntmps51
  go_wp2_with (first | (go_at_call 68; refine (reftruth_c _ _).mono ?_; rintro e w' ⟨rfl, rfl⟩))
  go_ret2
  exact ⟨rfl, rfl⟩
set_option maxHeartbeats 400000 in
theorem whole8 (x y : Int) (w : World) :
    Calls Try.prog 51 #[.int .i64 (8), .int .i64 (x), .int .i64 (y)] w fun e w' => e = .returned (.tuple #[.int .i64 (0), .bool false]) ∧ w = w' := by
  go_enter Try.func51, Try.ntmps51
  go_wp2_with (first | (go_at_call 68; refine (reftruth_c _ _).mono ?_; rintro e w' ⟨rfl, rfl⟩))
  go_ret2
  exact ⟨rfl, rfl⟩
set_option maxHeartbeats 400000 in
theorem whole9 (x y : Int) (w : World) :
    Calls Try.prog 51 #[.int .i64 (9), .int .i64 (x), .int .i64 (y)] w fun e w' => e = .returned (.tuple #[.int .i64 (0), .bool false]) ∧ w = w' := by
  go_enter Try.func51, Try.ntmps51
  go_wp2_with (first | (go_at_call 68; refine (reftruth_c _ _).mono ?_; rintro e w' ⟨rfl, rfl⟩))
  go_ret2
  exact ⟨rfl, rfl⟩
set_option maxHeartbeats 400000 in
theorem whole10 (x y : Int) (w : World) :
    Calls Try.prog 51 #[.int .i64 (10), .int .i64 (x), .int .i64 (y)] w fun e w' => e = .returned (.tuple #[.int .i64 (0), .bool false]) ∧ w = w' := by
  go_enter Try.func51, Try.ntmps51
  go_wp2_with (first | (go_at_call 68; refine (reftruth_c _ _).mono ?_; rintro e w' ⟨rfl, rfl⟩))
  go_ret2
  exact ⟨rfl, rfl⟩
set_option maxHeartbeats 400000 in
theorem whole11 (x y : Int) (w : World) :
    Calls Try.prog 51 #[.int .i64 (11), .int .i64 (x), .int .i64 (y)] w fun e w' => e = .returned (.tuple #[.int .i64 (0), .bool false]) ∧ w = w' := by
  go_enter Try.func51, Try.ntmps51
  go_wp2_with (first | (go_at_call 68; refine (reftruth_c _ _).mono ?_; rintro e w' ⟨rfl, rfl⟩))
  go_ret2
  exact ⟨rfl, rfl⟩
set_option maxHeartbeats 400000 in
theorem whole12 (x y : Int) (b1 : -2147483648 ≤ x ∧ x ≤ 2147483647) (b2 : -2147483648 ≤ y ∧ y ≤ 2147483647) (w : World) :
    Calls Try.prog 51 #[.int .i64 (12), .int .i64 (x), .int .i64 (y)] w fun e w' => e = .returned (.tuple #[.int .i64 (tr (x == y)), .bool true]) ∧ w = w' := by
  go_enter Try.func51, Try.ntmps51
  go_wp2_with (first | (go_at_call 68; refine (reftruth_c _ _).mono ?_; rintro e w' ⟨rfl, rfl⟩))
  go_ret2
  exact ⟨rfl, rfl⟩
set_option maxHeartbeats 400000 in
theorem whole13 (x y : Int) (b1 : -2147483648 ≤ x ∧ x ≤ 2147483647) (b2 : -2147483648 ≤ y ∧ y ≤ 2147483647) (w : World) :
    Calls Try.prog 51 #[.int .i64 (13), .int .i64 (x), .int .i64 (y)] w fun e w' => e = .returned (.tuple #[.int .i64 (tr (x != y)), .bool true]) ∧ w = w' := by
  go_enter Try.func51, Try.ntmps51
  go_wp2_with (first | (go_at_call 68; refine (reftruth_c _ _).mono ?_; rintro e w' ⟨rfl, rfl⟩))
  go_ret2
  exact ⟨rfl, rfl⟩
set_option maxHeartbeats 400000 in
theorem whole14 (x y : Int) (b1 : -2147483648 ≤ x ∧ x ≤ 2147483647) (b2 : -2147483648 ≤ y ∧ y ≤ 2147483647) (w : World) :
    Calls Try.prog 51 #[.int .i64 (14), .int .i64 (x), .int .i64 (y)] w fun e w' => e = .returned (.tuple #[.int .i64 (tr (decide (x < y))), .bool true]) ∧ w = w' := by
  go_enter Try.func51, Try.ntmps51
  go_wp2_with (first | (go_at_call 68; refine (reftruth_c _ _).mono ?_; rintro e w' ⟨rfl, rfl⟩))
  go_ret2
  exact ⟨rfl, rfl⟩
set_option maxHeartbeats 400000 in
theorem whole15 (x y : Int) (b1 : -2147483648 ≤ x ∧ x ≤ 2147483647) (b2 : -2147483648 ≤ y ∧ y ≤ 2147483647) (w : World) :
    Calls Try.prog 51 #[.int .i64 (15), .int .i64 (x), .int .i64 (y)] w fun e w' => e = .returned (.tuple #[.int .i64 (tr (decide (x ≤ y))), .bool true]) ∧ w = w' := by
  go_enter Try.func51, Try.ntmps51
  go_wp2_with (first | (go_at_call 68; refine (reftruth_c _ _).mono ?_; rintro e w' ⟨rfl, rfl⟩))
  go_ret2
  exact ⟨rfl, rfl⟩
set_option maxHeartbeats 400000 in
theorem whole16 (x y : Int) (b1 : -2147483648 ≤ x ∧ x ≤ 2147483647) (b2 : -2147483648 ≤ y ∧ y ≤ 2147483647) (w : World) :
    Calls Try.prog 51 #[.int .i64 (16), .int .i64 (x), .int .i64 (y)] w fun e w' => e = .returned (.tuple #[.int .i64 (tr (decide (y < x))), .bool true]) ∧ w = w' := by
  go_enter Try.func51, Try.ntmps51
  go_wp2_with (first | (go_at_call 68; refine (reftruth_c _ _).mono ?_; rintro e w' ⟨rfl, rfl⟩))
  go_ret2
  exact ⟨rfl, rfl⟩
set_option maxHeartbeats 400000 in
theorem whole17 (x y : Int) (b1 : -2147483648 ≤ x ∧ x ≤ 2147483647) (b2 : -2147483648 ≤ y ∧ y ≤ 2147483647) (w : World) :
    Calls Try.prog 51 #[.int .i64 (17), .int .i64 (x), .int .i64 (y)] w fun e w' => e = .returned (.tuple #[.int .i64 (tr (decide (y ≤ x))), .bool true]) ∧ w = w' := by
  go_enter Try.func51, Try.ntmps51
  go_wp2_with (first | (go_at_call 68; refine (reftruth_c _ _).mono ?_; rintro e w' ⟨rfl, rfl⟩))
  go_ret2
  exact ⟨rfl, rfl⟩
set_option maxHeartbeats 400000 in
theorem whole18 (x y : Int) (b1 : -2147483648 ≤ x ∧ x ≤ 2147483647) (b2 : -2147483648 ≤ y ∧ y ≤ 2147483647) (w : World) :
    Calls Try.prog 51 #[.int .i64 (18), .int .i64 (x), .int .i64 (y)] w fun e w' => e = .returned (.tuple #[.int .i64 (-x), .bool true]) ∧ w = w' := by
  go_enter Try.func51, Try.ntmps51
  go_wp2_with (first | (go_at_call 68; refine (reftruth_c _ _).mono ?_; rintro e w' ⟨rfl, rfl⟩))
  go_ret2
  exact ⟨rfl, rfl⟩
set_option maxHeartbeats 400000 in
theorem whole19 (x y : Int) (b1 : -2147483648 ≤ x ∧ x ≤ 2147483647) (b2 : -2147483648 ≤ y ∧ y ≤ 2147483647) (w : World) :
    Calls Try.prog 51 #[.int .i64 (19), .int .i64 (x), .int .i64 (y)] w fun e w' => e = .returned (.tuple #[.int .i64 (-x - 1), .bool true]) ∧ w = w' := by
  go_enter Try.func51, Try.ntmps51
  go_wp2_with (first | (go_at_call 68; refine (reftruth_c _ _).mono ?_; rintro e w' ⟨rfl, rfl⟩))
  go_ret2
  exact ⟨rfl, rfl⟩
set_option maxHeartbeats 400000 in
theorem shifted_true_out (x y n : Int) (hb : IsBits n) (h : y < 0 ∨ n ≤ y) (w : World) :
    Calls Try.prog 52 #[.int .i64 (x), .int .i64 (y), .int .i64 (n), .bool true] w fun e w' => e = .returned (.int .i64 (0)) ∧ w = w' := by
  rcases h with h | h
  · go_enter Try.func52, Try.ntmps52
    go_wp2_with (first | fail)
    go_ret
    exact ⟨rfl, rfl⟩
  · by_cases h' : y < 0
    · go_enter Try.func52, Try.ntmps52
      go_wp2_with (first | fail)
      go_ret
      exact ⟨rfl, rfl⟩
    · go_enter Try.func52, Try.ntmps52
      go_wp2_with (first | fail)
      go_ret
      exact ⟨rfl, rfl⟩
set_option maxHeartbeats 400000 in
theorem shifted_false_out (x y n : Int) (hb : IsBits n) (h : y < 0 ∨ n ≤ y) (w : World) :
    Calls Try.prog 52 #[.int .i64 (x), .int .i64 (y), .int .i64 (n), .bool false] w fun e w' => e = .returned (.int .i64 (0)) ∧ w = w' := by
  rcases h with h | h
  · go_enter Try.func52, Try.ntmps52
    go_wp2_with (first | fail)
    go_ret
    exact ⟨rfl, rfl⟩
  · by_cases h' : y < 0
    · go_enter Try.func52, Try.ntmps52
      go_wp2_with (first | fail)
      go_ret
      exact ⟨rfl, rfl⟩
    · go_enter Try.func52, Try.ntmps52
      go_wp2_with (first | fail)
      go_ret
      exact ⟨rfl, rfl⟩
set_option maxHeartbeats 400000 in
theorem shifted_true (x : Int) (m : Nat) (n : Int) (hb : IsBits n) (h : (m : Int) < n) (w : World) :
    Calls Try.prog 52 #[.int .i64 (x), .int .i64 (m), .int .i64 (n), .bool true] w fun e w' => e = .returned (.int .i64 (nm n (shl_k n x m))) ∧ w = w' := by
  have h' : ¬ (m : Int) < 0 := by omega
  have h'' : ¬ n ≤ (m : Int) := by omega
  have hn : 0 ≤ n ∧ n ≤ 32 := by rcases hb with rfl | rfl | rfl <;> omega
  go_enter Try.func52, Try.ntmps52
  go_wp2_with (first | (go_at_call 48; refine (refuns_c _ _ hb _).mono ?_; rintro e w' ⟨rfl, rfl⟩))
  go_loop [0, 9] (fun a i => ∃ k : Nat, k ≤ m ∧ i = .int .i64 k ∧ a = .int .i64 (shl_k n x k)) (fun _ i => m - (intOf i).toNat)
  case atStart => exact ⟨0, Nat.zero_le _, rfl, by rw [← shl_k_0]⟩
  case round =>
    obtain ⟨k, hk, rfl, rfl⟩ := hrel
    by_cases hlt : k < m
    · have hk1 := p2_31' hn.2
      have hk2 := shl_k_bd n x k
      go_wp2_with (first | (go_at_call 57; refine (power_c _ (by omega) (by omega) _).mono ?_; rintro e w' ⟨rfl, rfl⟩))
      go_round
      case rel => exact ⟨k + 1, by omega, by go_num, by rw [← shl_k_succ]⟩
      case measure => simp [intOf]; omega
    · obtain rfl : k = m := by omega
      go_wp2_with (first | (go_at_call 46; refine (refnorm_c _ _ hb _).mono ?_; rintro e w' ⟨rfl, rfl⟩))
      go_ret
      exact ⟨rfl, rfl⟩
set_option maxHeartbeats 400000 in
theorem shifted_false (x : Int) (m : Nat) (n : Int) (hb : IsBits n) (h : (m : Int) < n) (w : World) :
    Calls Try.prog 52 #[.int .i64 (x), .int .i64 (m), .int .i64 (n), .bool false] w fun e w' => e = .returned (.int .i64 (nm n (un n x / P2 m))) ∧ w = w' := by
  have h' : ¬ (m : Int) < 0 := by omega
  have h'' : ¬ n ≤ (m : Int) := by omega
  have hn : 0 ≤ n ∧ n ≤ 32 := by rcases hb with rfl | rfl | rfl <;> omega
  go_enter Try.func52, Try.ntmps52
  go_wp2_with (first | (go_at_call 48; refine (refuns_c _ _ hb _).mono ?_; rintro e w' ⟨rfl, rfl⟩))
  go_loop [0, 9] (fun a i => ∃ k : Nat, k ≤ m ∧ i = .int .i64 k ∧ a = .int .i64 (un n x / P2 k)) (fun _ i => m - (intOf i).toNat)
  case atStart => exact ⟨0, Nat.zero_le _, rfl, by rw [← shr_k_0]⟩
  case round =>
    obtain ⟨k, hk, rfl, rfl⟩ := hrel
    by_cases hlt : k < m
    · have hk1 := p2_31' hn.2
      have hk2 := shr_k_bd n x k
      go_wp2_with (first | (go_at_call 57; refine (power_c _ (by omega) (by omega) _).mono ?_; rintro e w' ⟨rfl, rfl⟩))
      go_round
      case rel => exact ⟨k + 1, by omega, by go_num, by rw [← shr_k_succ]⟩
      case measure => simp [intOf]; omega
    · obtain rfl : k = m := by omega
      go_wp2_with (first | (go_at_call 46; refine (refnorm_c _ _ hb _).mono ?_; rintro e w' ⟨rfl, rfl⟩))
      go_ret
      exact ⟨rfl, rfl⟩
end Go.Proofs.Ytmhifelkihcidaa
