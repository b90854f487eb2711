/- Exact of package word and of its reference, each by its contract: both return one bool. -/
import Derived.Test.YtmhifelkihcidaaWRefA
namespace Go.Proofs.Ytmhifelkihcidaa
open Go.RowKit WM
set_option linter.unusedVariables false

set_option maxHeartbeats 400000 in
theorem narrow_c (v : Int) (w : World) :
    Calls Try.prog 55 #[.int .i64 (v)] w fun e w' => e = .returned (.bool (nar v)) ∧ w = w' := by
  by_cases h1 : -32768 ≤ v
  · by_cases h2 : v ≤ 32767
    · rw [nar_mk ⟨h1, h2⟩]
      go_enter Try.func55, Try.ntmps55
      go_wp2
      go_ret
      exact ⟨rfl, rfl⟩
    · have hv : nar v = false := by cases h : nar v with
        | false => rfl
        | true => exact absurd (nar_yes h).2 h2
      rw [hv]; clear hv
      go_enter Try.func55, Try.ntmps55
      go_wp2
      go_ret
      exact ⟨rfl, rfl⟩
  · have hv : nar v = false := by cases h : nar v with
      | false => rfl
      | true => exact absurd (nar_yes h).1 h1
    rw [hv]; clear hv
    go_enter Try.func55, Try.ntmps55
    go_wp2
    go_ret
    exact ⟨rfl, rfl⟩
set_option maxHeartbeats 400000 in
theorem refnarrow_c (v : Int) (w : World) :
    Calls Try.prog 56 #[.int .i64 (v)] w fun e w' => e = .returned (.bool (nar v)) ∧ w = w' := by
  by_cases h1 : -32768 ≤ v
  · by_cases h2 : v ≤ 32767
    · rw [nar_mk ⟨h1, h2⟩]
      go_enter Try.func56, Try.ntmps56
      go_wp2
      go_ret
      exact ⟨rfl, rfl⟩
    · have hv : nar v = false := by cases h : nar v with
        | false => rfl
        | true => exact absurd (nar_yes h).2 h2
      rw [hv]; clear hv
      go_enter Try.func56, Try.ntmps56
      go_wp2
      go_ret
      exact ⟨rfl, rfl⟩
  · have hv : nar v = false := by cases h : nar v with
      | false => rfl
      | true => exact absurd (nar_yes h).1 h1
    rw [hv]; clear hv
    go_enter Try.func56, Try.ntmps56
    go_wp2
    go_ret
    exact ⟨rfl, rfl⟩
set_option maxHeartbeats 400000 in
theorem exops1 (x y : Int) (w : World) :
    Calls Try.prog 54 #[.int .i64 (1), .int .i64 (x), .int .i64 (y)] w fun e w' => e = .returned (.bool (exops 1 x y)) ∧ w = w' := by
  have hv : exops 1 x y = (nar x && nar y) := rfl
  rw [hv]; clear hv
  cases hx : nar x with
  | false =>
    rw [Bool.false_and]
    go_enter Try.func54, Try.ntmps54
    go_wp2_with (first | (go_at_call 55; refine (narrow_c _ _).mono ?_; rintro e w' ⟨rfl, rfl⟩))
    go_ret
    exact ⟨rfl, rfl⟩
  | true =>
    rw [Bool.true_and]
    go_enter Try.func54, Try.ntmps54
    go_wp2_with (first | (go_at_call 55; refine (narrow_c _ _).mono ?_; rintro e w' ⟨rfl, rfl⟩))
    go_ret
    exact ⟨rfl, rfl⟩
set_option maxHeartbeats 400000 in
theorem exops2 (x y : Int) (w : World) :
    Calls Try.prog 54 #[.int .i64 (2), .int .i64 (x), .int .i64 (y)] w fun e w' => e = .returned (.bool (exops 2 x y)) ∧ w = w' := by
  have hv : exops 2 x y = (nar x && nar y) := rfl
  rw [hv]; clear hv
  cases hx : nar x with
  | false =>
    rw [Bool.false_and]
    go_enter Try.func54, Try.ntmps54
    go_wp2_with (first | (go_at_call 55; refine (narrow_c _ _).mono ?_; rintro e w' ⟨rfl, rfl⟩))
    go_ret
    exact ⟨rfl, rfl⟩
  | true =>
    rw [Bool.true_and]
    go_enter Try.func54, Try.ntmps54
    go_wp2_with (first | (go_at_call 55; refine (narrow_c _ _).mono ?_; rintro e w' ⟨rfl, rfl⟩))
    go_ret
    exact ⟨rfl, rfl⟩
set_option maxHeartbeats 400000 in
theorem exops3 (x y : Int) (w : World) :
    Calls Try.prog 54 #[.int .i64 (3), .int .i64 (x), .int .i64 (y)] w fun e w' => e = .returned (.bool (exops 3 x y)) ∧ w = w' := by
  have hv : exops 3 x y = (nar x && nar y) := rfl
  rw [hv]; clear hv
  cases hx : nar x with
  | false =>
    rw [Bool.false_and]
    go_enter Try.func54, Try.ntmps54
    go_wp2_with (first | (go_at_call 55; refine (narrow_c _ _).mono ?_; rintro e w' ⟨rfl, rfl⟩))
    go_ret
    exact ⟨rfl, rfl⟩
  | true =>
    rw [Bool.true_and]
    go_enter Try.func54, Try.ntmps54
    go_wp2_with (first | (go_at_call 55; refine (narrow_c _ _).mono ?_; rintro e w' ⟨rfl, rfl⟩))
    go_ret
    exact ⟨rfl, rfl⟩
set_option maxHeartbeats 400000 in
theorem exops4 (x y : Int) (w : World) :
    Calls Try.prog 54 #[.int .i64 (4), .int .i64 (x), .int .i64 (y)] w fun e w' => e = .returned (.bool (exops 4 x y)) ∧ w = w' := by
  have hv : exops 4 x y = (nar x && nar y) := rfl
  rw [hv]; clear hv
  cases hx : nar x with
  | false =>
    rw [Bool.false_and]
    go_enter Try.func54, Try.ntmps54
    go_wp2_with (first | (go_at_call 55; refine (narrow_c _ _).mono ?_; rintro e w' ⟨rfl, rfl⟩))
    go_ret
    exact ⟨rfl, rfl⟩
  | true =>
    rw [Bool.true_and]
    go_enter Try.func54, Try.ntmps54
    go_wp2_with (first | (go_at_call 55; refine (narrow_c _ _).mono ?_; rintro e w' ⟨rfl, rfl⟩))
    go_ret
    exact ⟨rfl, rfl⟩
set_option maxHeartbeats 400000 in
theorem exops5 (x y : Int) (w : World) :
    Calls Try.prog 54 #[.int .i64 (5), .int .i64 (x), .int .i64 (y)] w fun e w' => e = .returned (.bool (exops 5 x y)) ∧ w = w' := by
  have hv : exops 5 x y = (nar x && nar y) := rfl
  rw [hv]; clear hv
  cases hx : nar x with
  | false =>
    rw [Bool.false_and]
    go_enter Try.func54, Try.ntmps54
    go_wp2_with (first | (go_at_call 55; refine (narrow_c _ _).mono ?_; rintro e w' ⟨rfl, rfl⟩))
    go_ret
    exact ⟨rfl, rfl⟩
  | true =>
    rw [Bool.true_and]
    go_enter Try.func54, Try.ntmps54
    go_wp2_with (first | (go_at_call 55; refine (narrow_c _ _).mono ?_; rintro e w' ⟨rfl, rfl⟩))
    go_ret
    exact ⟨rfl, rfl⟩
set_option maxHeartbeats 400000 in
theorem exops6 (x y : Int) (w : World) :
    Calls Try.prog 54 #[.int .i64 (6), .int .i64 (x), .int .i64 (y)] w fun e w' => e = .returned (.bool (exops 6 x y)) ∧ w = w' := by
  have hv : exops 6 x y = (nar x && decide (0 ≤ x) && decide (0 ≤ y) && decide (y ≤ 15)) := rfl
  rw [hv]; clear hv
  cases hx : nar x with
  | false =>
    simp only [Bool.false_and]
    go_enter Try.func54, Try.ntmps54
    go_wp2_with (first | (go_at_call 55; refine (narrow_c _ _).mono ?_; rintro e w' ⟨rfl, rfl⟩))
    go_ret
    exact ⟨rfl, rfl⟩
  | true =>
    by_cases c1 : 0 ≤ x
    · by_cases c2 : 0 ≤ y
      · by_cases c3 : y ≤ 15
        · simp only [c1, c2, c3, decide_true, Bool.and_self]
          go_enter Try.func54, Try.ntmps54
          go_wp2_with (first | (go_at_call 55; refine (narrow_c _ _).mono ?_; rintro e w' ⟨rfl, rfl⟩))
          go_ret
          exact ⟨rfl, rfl⟩
        · have c4 : decide (y ≤ 15) = false := by simpa using c3
          simp only [c1, c2, c4, decide_true, Bool.and_false, Bool.and_true]
          go_enter Try.func54, Try.ntmps54
          go_wp2_with (first | (go_at_call 55; refine (narrow_c _ _).mono ?_; rintro e w' ⟨rfl, rfl⟩))
          go_ret
          exact ⟨rfl, rfl⟩
      · simp only [c1, c2, decide_true, decide_false, Bool.and_false, Bool.false_and, Bool.and_true]
        go_enter Try.func54, Try.ntmps54
        go_wp2_with (first | (go_at_call 55; refine (narrow_c _ _).mono ?_; rintro e w' ⟨rfl, rfl⟩))
        go_ret
        exact ⟨rfl, rfl⟩
    · simp only [c1, decide_false, Bool.and_false, Bool.false_and]
      go_enter Try.func54, Try.ntmps54
      go_wp2_with (first | (go_at_call 55; refine (narrow_c _ _).mono ?_; rintro e w' ⟨rfl, rfl⟩))
      go_ret
      exact ⟨rfl, rfl⟩
set_option maxHeartbeats 400000 in
theorem exops7 (x y : Int) (w : World) :
    Calls Try.prog 54 #[.int .i64 (7), .int .i64 (x), .int .i64 (y)] w fun e w' => e = .returned (.bool (exops 7 x y)) ∧ w = w' := by
  have hv : exops 7 x y = (nar x && decide (0 ≤ x) && decide (0 ≤ y) && decide (y ≤ 15)) := rfl
  rw [hv]; clear hv
  cases hx : nar x with
  | false =>
    simp only [Bool.false_and]
    go_enter Try.func54, Try.ntmps54
    go_wp2_with (first | (go_at_call 55; refine (narrow_c _ _).mono ?_; rintro e w' ⟨rfl, rfl⟩))
    go_ret
    exact ⟨rfl, rfl⟩
  | true =>
    by_cases c1 : 0 ≤ x
    · by_cases c2 : 0 ≤ y
      · by_cases c3 : y ≤ 15
        · simp only [c1, c2, c3, decide_true, Bool.and_self]
          go_enter Try.func54, Try.ntmps54
          go_wp2_with (first | (go_at_call 55; refine (narrow_c _ _).mono ?_; rintro e w' ⟨rfl, rfl⟩))
          go_ret
          exact ⟨rfl, rfl⟩
        · have c4 : decide (y ≤ 15) = false := by simpa using c3
          simp only [c1, c2, c4, decide_true, Bool.and_false, Bool.and_true]
          go_enter Try.func54, Try.ntmps54
          go_wp2_with (first | (go_at_call 55; refine (narrow_c _ _).mono ?_; rintro e w' ⟨rfl, rfl⟩))
          go_ret
          exact ⟨rfl, rfl⟩
      · simp only [c1, c2, decide_true, decide_false, Bool.and_false, Bool.false_and, Bool.and_true]
        go_enter Try.func54, Try.ntmps54
        go_wp2_with (first | (go_at_call 55; refine (narrow_c _ _).mono ?_; rintro e w' ⟨rfl, rfl⟩))
        go_ret
        exact ⟨rfl, rfl⟩
    · simp only [c1, decide_false, Bool.and_false, Bool.false_and]
      go_enter Try.func54, Try.ntmps54
      go_wp2_with (first | (go_at_call 55; refine (narrow_c _ _).mono ?_; rintro e w' ⟨rfl, rfl⟩))
      go_ret
      exact ⟨rfl, rfl⟩
set_option maxHeartbeats 400000 in
theorem exops8 (x y : Int) (w : World) :
    Calls Try.prog 54 #[.int .i64 (8), .int .i64 (x), .int .i64 (y)] w fun e w' => e = .returned (.bool (exops 8 x y)) ∧ w = w' := by
  have hv : exops 8 x y = (nar x && nar y) := rfl
  rw [hv]; clear hv
  cases hx : nar x with
  | false =>
    rw [Bool.false_and]
    go_enter Try.func54, Try.ntmps54
    go_wp2_with (first | (go_at_call 55; refine (narrow_c _ _).mono ?_; rintro e w' ⟨rfl, rfl⟩))
    go_ret
    exact ⟨rfl, rfl⟩
  | true =>
    rw [Bool.true_and]
    go_enter Try.func54, Try.ntmps54
    go_wp2_with (first | (go_at_call 55; refine (narrow_c _ _).mono ?_; rintro e w' ⟨rfl, rfl⟩))
    go_ret
    exact ⟨rfl, rfl⟩
set_option maxHeartbeats 400000 in
theorem exops9 (x y : Int) (w : World) :
    Calls Try.prog 54 #[.int .i64 (9), .int .i64 (x), .int .i64 (y)] w fun e w' => e = .returned (.bool (exops 9 x y)) ∧ w = w' := by
  have hv : exops 9 x y = (nar x && nar y) := rfl
  rw [hv]; clear hv
  cases hx : nar x with
  | false =>
    rw [Bool.false_and]
    go_enter Try.func54, Try.ntmps54
    go_wp2_with (first | (go_at_call 55; refine (narrow_c _ _).mono ?_; rintro e w' ⟨rfl, rfl⟩))
    go_ret
    exact ⟨rfl, rfl⟩
  | true =>
    rw [Bool.true_and]
    go_enter Try.func54, Try.ntmps54
    go_wp2_with (first | (go_at_call 55; refine (narrow_c _ _).mono ?_; rintro e w' ⟨rfl, rfl⟩))
    go_ret
    exact ⟨rfl, rfl⟩
set_option maxHeartbeats 400000 in
theorem exops10 (x y : Int) (w : World) :
    Calls Try.prog 54 #[.int .i64 (10), .int .i64 (x), .int .i64 (y)] w fun e w' => e = .returned (.bool (exops 10 x y)) ∧ w = w' := by
  have hv : exops 10 x y = (nar x && nar y) := rfl
  rw [hv]; clear hv
  cases hx : nar x with
  | false =>
    rw [Bool.false_and]
    go_enter Try.func54, Try.ntmps54
    go_wp2_with (first | (go_at_call 55; refine (narrow_c _ _).mono ?_; rintro e w' ⟨rfl, rfl⟩))
    go_ret
    exact ⟨rfl, rfl⟩
  | true =>
    rw [Bool.true_and]
    go_enter Try.func54, Try.ntmps54
    go_wp2_with (first | (go_at_call 55; refine (narrow_c _ _).mono ?_; rintro e w' ⟨rfl, rfl⟩))
    go_ret
    exact ⟨rfl, rfl⟩
set_option maxHeartbeats 400000 in
theorem exops11 (x y : Int) (w : World) :
    Calls Try.prog 54 #[.int .i64 (11), .int .i64 (x), .int .i64 (y)] w fun e w' => e = .returned (.bool (exops 11 x y)) ∧ w = w' := by
  have hv : exops 11 x y = (nar x && nar y) := rfl
  rw [hv]; clear hv
  cases hx : nar x with
  | false =>
    rw [Bool.false_and]
    go_enter Try.func54, Try.ntmps54
    go_wp2_with (first | (go_at_call 55; refine (narrow_c _ _).mono ?_; rintro e w' ⟨rfl, rfl⟩))
    go_ret
    exact ⟨rfl, rfl⟩
  | true =>
    rw [Bool.true_and]
    go_enter Try.func54, Try.ntmps54
    go_wp2_with (first | (go_at_call 55; refine (narrow_c _ _).mono ?_; rintro e w' ⟨rfl, rfl⟩))
    go_ret
    exact ⟨rfl, rfl⟩
set_option maxHeartbeats 400000 in
theorem exops12 (x y : Int) (w : World) :
    Calls Try.prog 54 #[.int .i64 (12), .int .i64 (x), .int .i64 (y)] w fun e w' => e = .returned (.bool (exops 12 x y)) ∧ w = w' := by
  have hv : exops 12 x y = (nar x && nar y) := rfl
  rw [hv]; clear hv
  cases hx : nar x with
  | false =>
    rw [Bool.false_and]
    go_enter Try.func54, Try.ntmps54
    go_wp2_with (first | (go_at_call 55; refine (narrow_c _ _).mono ?_; rintro e w' ⟨rfl, rfl⟩))
    go_ret
    exact ⟨rfl, rfl⟩
  | true =>
    rw [Bool.true_and]
    go_enter Try.func54, Try.ntmps54
    go_wp2_with (first | (go_at_call 55; refine (narrow_c _ _).mono ?_; rintro e w' ⟨rfl, rfl⟩))
    go_ret
    exact ⟨rfl, rfl⟩
set_option maxHeartbeats 400000 in
theorem exops13 (x y : Int) (w : World) :
    Calls Try.prog 54 #[.int .i64 (13), .int .i64 (x), .int .i64 (y)] w fun e w' => e = .returned (.bool (exops 13 x y)) ∧ w = w' := by
  have hv : exops 13 x y = (nar x && nar y) := rfl
  rw [hv]; clear hv
  cases hx : nar x with
  | false =>
    rw [Bool.false_and]
    go_enter Try.func54, Try.ntmps54
    go_wp2_with (first | (go_at_call 55; refine (narrow_c _ _).mono ?_; rintro e w' ⟨rfl, rfl⟩))
    go_ret
    exact ⟨rfl, rfl⟩
  | true =>
    rw [Bool.true_and]
    go_enter Try.func54, Try.ntmps54
    go_wp2_with (first | (go_at_call 55; refine (narrow_c _ _).mono ?_; rintro e w' ⟨rfl, rfl⟩))
    go_ret
    exact ⟨rfl, rfl⟩
set_option maxHeartbeats 400000 in
theorem exops14 (x y : Int) (w : World) :
    Calls Try.prog 54 #[.int .i64 (14), .int .i64 (x), .int .i64 (y)] w fun e w' => e = .returned (.bool (exops 14 x y)) ∧ w = w' := by
  have hv : exops 14 x y = (nar x && nar y) := rfl
  rw [hv]; clear hv
  cases hx : nar x with
  | false =>
    rw [Bool.false_and]
    go_enter Try.func54, Try.ntmps54
    go_wp2_with (first | (go_at_call 55; refine (narrow_c _ _).mono ?_; rintro e w' ⟨rfl, rfl⟩))
    go_ret
    exact ⟨rfl, rfl⟩
  | true =>
    rw [Bool.true_and]
    go_enter Try.func54, Try.ntmps54
    go_wp2_with (first | (go_at_call 55; refine (narrow_c _ _).mono ?_; rintro e w' ⟨rfl, rfl⟩))
    go_ret
    exact ⟨rfl, rfl⟩
set_option maxHeartbeats 400000 in
theorem exops15 (x y : Int) (w : World) :
    Calls Try.prog 54 #[.int .i64 (15), .int .i64 (x), .int .i64 (y)] w fun e w' => e = .returned (.bool (exops 15 x y)) ∧ w = w' := by
  have hv : exops 15 x y = (nar x && nar y) := rfl
  rw [hv]; clear hv
  cases hx : nar x with
  | false =>
    rw [Bool.false_and]
    go_enter Try.func54, Try.ntmps54
    go_wp2_with (first | (go_at_call 55; refine (narrow_c _ _).mono ?_; rintro e w' ⟨rfl, rfl⟩))
    go_ret
    exact ⟨rfl, rfl⟩
  | true =>
    rw [Bool.true_and]
    go_enter Try.func54, Try.ntmps54
    go_wp2_with (first | (go_at_call 55; refine (narrow_c _ _).mono ?_; rintro e w' ⟨rfl, rfl⟩))
    go_ret
    exact ⟨rfl, rfl⟩
set_option maxHeartbeats 400000 in
theorem exops16 (x y : Int) (w : World) :
    Calls Try.prog 54 #[.int .i64 (16), .int .i64 (x), .int .i64 (y)] w fun e w' => e = .returned (.bool (exops 16 x y)) ∧ w = w' := by
  have hv : exops 16 x y = (nar x && nar y) := rfl
  rw [hv]; clear hv
  cases hx : nar x with
  | false =>
    rw [Bool.false_and]
    go_enter Try.func54, Try.ntmps54
    go_wp2_with (first | (go_at_call 55; refine (narrow_c _ _).mono ?_; rintro e w' ⟨rfl, rfl⟩))
    go_ret
    exact ⟨rfl, rfl⟩
  | true =>
    rw [Bool.true_and]
    go_enter Try.func54, Try.ntmps54
    go_wp2_with (first | (go_at_call 55; refine (narrow_c _ _).mono ?_; rintro e w' ⟨rfl, rfl⟩))
    go_ret
    exact ⟨rfl, rfl⟩
set_option maxHeartbeats 400000 in
theorem exops17 (x y : Int) (w : World) :
    Calls Try.prog 54 #[.int .i64 (17), .int .i64 (x), .int .i64 (y)] w fun e w' => e = .returned (.bool (exops 17 x y)) ∧ w = w' := by
  have hv : exops 17 x y = (nar x && nar y) := rfl
  rw [hv]; clear hv
  cases hx : nar x with
  | false =>
    rw [Bool.false_and]
    go_enter Try.func54, Try.ntmps54
    go_wp2_with (first | (go_at_call 55; refine (narrow_c _ _).mono ?_; rintro e w' ⟨rfl, rfl⟩))
    go_ret
    exact ⟨rfl, rfl⟩
  | true =>
    rw [Bool.true_and]
    go_enter Try.func54, Try.ntmps54
    go_wp2_with (first | (go_at_call 55; refine (narrow_c _ _).mono ?_; rintro e w' ⟨rfl, rfl⟩))
    go_ret
    exact ⟨rfl, rfl⟩
set_option maxHeartbeats 400000 in
theorem exops18 (x y : Int) (w : World) :
    Calls Try.prog 54 #[.int .i64 (18), .int .i64 (x), .int .i64 (y)] w fun e w' => e = .returned (.bool (exops 18 x y)) ∧ w = w' := by
  go_enter Try.func54, Try.ntmps54
  go_wp2_with (first | (go_at_call 55; refine (narrow_c _ _).mono ?_; rintro e w' ⟨rfl, rfl⟩))
  go_ret
  exact ⟨rfl, rfl⟩
set_option maxHeartbeats 400000 in
theorem exops19 (x y : Int) (w : World) :
    Calls Try.prog 54 #[.int .i64 (19), .int .i64 (x), .int .i64 (y)] w fun e w' => e = .returned (.bool (exops 19 x y)) ∧ w = w' := by
  go_enter Try.func54, Try.ntmps54
  go_wp2_with (first | (go_at_call 55; refine (narrow_c _ _).mono ?_; rintro e w' ⟨rfl, rfl⟩))
  go_ret
  exact ⟨rfl, rfl⟩
theorem exops_c (op x y : Int) (h1 : 1 ≤ op) (h2 : op ≤ 19) (w : World) :
    Calls Try.prog 54 #[.int .i64 (op), .int .i64 (x), .int .i64 (y)] w fun e w' => e = .returned (.bool (exops op x y)) ∧ w = w' := by
  have hc : op = 1 ∨ op = 2 ∨ op = 3 ∨ op = 4 ∨ op = 5 ∨ op = 6 ∨ op = 7 ∨ op = 8 ∨ op = 9 ∨ op = 10 ∨ op = 11 ∨ op = 12 ∨ op = 13 ∨ op = 14 ∨ op = 15 ∨ op = 16 ∨ op = 17 ∨ op = 18 ∨ op = 19 := by omega
  rcases hc with rfl | rfl | rfl | rfl | rfl | rfl | rfl | rfl | rfl | rfl | rfl | rfl | rfl | rfl | rfl | rfl | rfl | rfl | rfl
  · exact exops1 x y w
  · exact exops2 x y w
  · exact exops3 x y w
  · exact exops4 x y w
  · exact exops5 x y w
  · exact exops6 x y w
  · exact exops7 x y w
  · exact exops8 x y w
  · exact exops9 x y w
  · exact exops10 x y w
  · exact exops11 x y w
  · exact exops12 x y w
  · exact exops13 x y w
  · exact exops14 x y w
  · exact exops15 x y w
  · exact exops16 x y w
  · exact exops17 x y w
  · exact exops18 x y w
  · exact exops19 x y w
set_option maxHeartbeats 400000 in
theorem Exact_form (op a b n : Int) (hb : ¬ IsBits n) (w : World) :
    Calls Try.prog 22 #[.int .i64 (op), .int .i64 (a), .int .i64 (b), .int .i64 (n)] w fun e w' => e = .returned (.tuple #[.bool false, .int .i64 (3)]) ∧ w = w' := by
  go_enter Try.func22, Try.ntmps22
  go_wp2_with (first | (go_at_call 49; refine (check_form _ _ _ hb _).mono ?_; rintro e w' ⟨rfl, rfl⟩))
  go_ret2
  exact ⟨rfl, rfl⟩
set_option maxHeartbeats 400000 in
theorem Exact_range (op a b n : Int) (hb : IsBits n) (ho : op < 1 ∨ 19 < op) (w : World) :
    Calls Try.prog 22 #[.int .i64 (op), .int .i64 (a), .int .i64 (b), .int .i64 (n)] w fun e w' => e = .returned (.tuple #[.bool false, .int .i64 (1)]) ∧ w = w' := by
  go_enter Try.func22, Try.ntmps22
  go_wp2_with (first | (go_at_call 49; refine (check_range _ _ _ hb ho _).mono ?_; rintro e w' ⟨rfl, rfl⟩))
  go_ret2
  exact ⟨rfl, rfl⟩
set_option maxHeartbeats 400000 in
theorem Exact_zero (op a b n : Int) (hb : IsBits n) (ho : op = 2 ∨ op = 3) (hz : nm n b = 0) (w : World) :
    Calls Try.prog 22 #[.int .i64 (op), .int .i64 (a), .int .i64 (b), .int .i64 (n)] w fun e w' => e = .returned (.tuple #[.bool false, .int .i64 (10)]) ∧ w = w' := by
  go_enter Try.func22, Try.ntmps22
  go_wp2_with (first | (go_at_call 49; refine (check_zero _ _ _ hb ho hz _).mono ?_; rintro e w' ⟨rfl, rfl⟩))
  go_ret2
  exact ⟨rfl, rfl⟩
set_option maxHeartbeats 400000 in
theorem Exact_ok (op a b n : Int) (hk : Okop op b n) (w : World) :
    Calls Try.prog 22 #[.int .i64 (op), .int .i64 (a), .int .i64 (b), .int .i64 (n)] w fun e w' => e = .returned (.tuple #[.bool (exw op a b n), .int .i64 (0)]) ∧ Below w.heap.size w w' := by
  have hb : IsBits n := hk.1
  have hv : exw op a b n = (exops op (nm n a) (nm n b) && nar (opw op (nm n a) (nm n b) n)) := rfl
  rw [hv]; clear hv
  cases hx : exops op (nm n a) (nm n b) with
  | false =>
    rw [Bool.false_and]
    go_enter Try.func22, Try.ntmps22
    go_wp2_with (first | (go_at_call 49; refine (check_ok _ _ _ hk _).mono ?_; rintro e w' ⟨rfl, rfl⟩) | (go_at_call 45; refine (norm_c _ _ hb _).mono ?_; rintro e w' ⟨rfl, rfl⟩) | (go_at_call 54; refine (exops_c _ _ _ hk.2.1 hk.2.2.1 _).mono ?_; rintro e w' ⟨rfl, rfl⟩))
    go_ret2
    exact ⟨rfl, Below.refl _ _⟩
  | true =>
    rw [Bool.true_and]
    go_enter Try.func22, Try.ntmps22
    go_wp2_with (first | (go_at_call 49; refine (check_ok _ _ _ hk _).mono ?_; rintro e w' ⟨rfl, rfl⟩) | (go_at_call 45; refine (norm_c _ _ hb _).mono ?_; rintro e w' ⟨rfl, rfl⟩) | (go_at_call 54; refine (exops_c _ _ _ hk.2.1 hk.2.2.1 _).mono ?_; rintro e w' ⟨rfl, rfl⟩) | (go_at_call 50; refine (result_c _ _ _ _ hk _).mono ?_; rintro e w1 ⟨rfl, hb1⟩) | (go_at_call 55; refine (narrow_c _ _).mono ?_; rintro e w' ⟨rfl, rfl⟩))
    go_ret2
    exact ⟨rfl, hb1⟩
set_option maxHeartbeats 400000 in
theorem refExact_form (op a b n : Int) (hb : ¬ IsBits n) (w : World) :
    Calls Try.prog 23 #[.int .i64 (op), .int .i64 (a), .int .i64 (b), .int .i64 (n)] w fun e w' => e = .returned (.tuple #[.bool false, .int .i64 (3)]) ∧ w = w' := by
  go_enter Try.func23, Try.ntmps23
  go_wp2_with (first | (go_at_call 21; refine (refApply_form _ _ _ _ hb _).mono ?_; rintro e w' ⟨rfl, rfl⟩))
  go_ret2
  exact ⟨rfl, rfl⟩
set_option maxHeartbeats 400000 in
theorem refExact_range (op a b n : Int) (hb : IsBits n) (ho : op < 1 ∨ 19 < op) (w : World) :
    Calls Try.prog 23 #[.int .i64 (op), .int .i64 (a), .int .i64 (b), .int .i64 (n)] w fun e w' => e = .returned (.tuple #[.bool false, .int .i64 (1)]) ∧ w = w' := by
  go_enter Try.func23, Try.ntmps23
  go_wp2_with (first | (go_at_call 21; refine (refApply_range _ _ _ _ hb ho _).mono ?_; rintro e w' ⟨rfl, rfl⟩))
  go_ret2
  exact ⟨rfl, rfl⟩
set_option maxHeartbeats 400000 in
theorem refExact_zero (op a b n : Int) (hb : IsBits n) (ho : op = 2 ∨ op = 3) (hz : nm n b = 0) (w : World) :
    Calls Try.prog 23 #[.int .i64 (op), .int .i64 (a), .int .i64 (b), .int .i64 (n)] w fun e w' => e = .returned (.tuple #[.bool false, .int .i64 (10)]) ∧ w = w' := by
  go_enter Try.func23, Try.ntmps23
  go_wp2_with (first | (go_at_call 21; refine (refApply_zero _ _ _ _ hb ho hz _).mono ?_; rintro e w' ⟨rfl, rfl⟩))
  go_ret2
  exact ⟨rfl, rfl⟩
set_option maxHeartbeats 400000 in
theorem refExact1 (a b n : Int) (hb : IsBits n) (w : World) :
    Calls Try.prog 23 #[.int .i64 (1), .int .i64 (a), .int .i64 (b), .int .i64 (n)] w fun e w' => e = .returned (.tuple #[.bool (exw 1 a b n), .int .i64 (0)]) ∧ Below w.heap.size w w' := by
  have b1 := nm_bd hb a
  have b2 := nm_bd hb b
  have hk : Okop 1 b n := ⟨hb, by omega, by omega, fun h => by omega⟩
  cases hx : nar (nm n a) with
  | false =>
    have hv : exw 1 a b n = false := by simp [exw, exops, hx]
    rw [hv]; clear hv
    go_enter Try.func23, Try.ntmps23
    go_wp2_with (first | (go_at_call 21; refine (refApply_ok _ _ _ _ hk _).mono ?_; rintro e w1 ⟨rfl, hb1⟩) | (go_at_call 46; refine (refnorm_c _ _ hb _).mono ?_; rintro e w' ⟨rfl, rfl⟩) | (go_at_call 56; refine (refnarrow_c _ _).mono ?_; rintro e w' ⟨rfl, rfl⟩))
    go_ret2
    exact ⟨rfl, hb1⟩
  | true =>
    cases hy : nar (nm n b) with
    | false =>
      have hv : exw 1 a b n = false := by simp [exw, exops, hy]
      rw [hv]; clear hv
      go_enter Try.func23, Try.ntmps23
      go_wp2_with (first | (go_at_call 21; refine (refApply_ok _ _ _ _ hk _).mono ?_; rintro e w1 ⟨rfl, hb1⟩) | (go_at_call 46; refine (refnorm_c _ _ hb _).mono ?_; rintro e w' ⟨rfl, rfl⟩) | (go_at_call 56; refine (refnarrow_c _ _).mono ?_; rintro e w' ⟨rfl, rfl⟩))
      go_ret2
      exact ⟨rfl, hb1⟩
    | true =>
      cases hw : nar (apw 1 a b n) with
      | false =>
        have hw2 := nar_of_w hb (v := opw 1 (nm n a) (nm n b) n) hw
        have hv : exw 1 a b n = false := by simp [exw, hw2]
        rw [hv]; clear hv
        go_enter Try.func23, Try.ntmps23
        go_wp2_with (first | (go_at_call 21; refine (refApply_ok _ _ _ _ hk _).mono ?_; rintro e w1 ⟨rfl, hb1⟩) | (go_at_call 46; refine (refnorm_c _ _ hb _).mono ?_; rintro e w' ⟨rfl, rfl⟩) | (go_at_call 56; refine (refnarrow_c _ _).mono ?_; rintro e w' ⟨rfl, rfl⟩))
        go_ret2
        exact ⟨rfl, hb1⟩
      | true =>
        have hw2 := nar_eq hb (v := opw 1 (nm n a) (nm n b) n) hw
        have ho : opw 1 (nm n a) (nm n b) n = nm n a * nm n b := rfl
        have hv : exw 1 a b n = ((nm n a * nm n b) == apw 1 a b n) := by rw [← ho]; unfold exw; rw [hw2]; simp [exops, hx, hy]; rfl
        rw [hv]; clear hv hw2 ho
        go_enter Try.func23, Try.ntmps23
        go_wp2_with (first | (go_at_call 21; refine (refApply_ok _ _ _ _ hk _).mono ?_; rintro e w1 ⟨rfl, hb1⟩) | (go_at_call 46; refine (refnorm_c _ _ hb _).mono ?_; rintro e w' ⟨rfl, rfl⟩) | (go_at_call 56; refine (refnarrow_c _ _).mono ?_; rintro e w' ⟨rfl, rfl⟩) | (go_at_call 51; refine (whole1 _ _ b1 b2 _).mono ?_; rintro e w' ⟨rfl, rfl⟩))
        go_ret2
        exact ⟨rfl, hb1⟩
set_option maxHeartbeats 400000 in
theorem refExact2 (a b n : Int) (hb : IsBits n) (hz : nm n b ≠ 0) (w : World) :
    Calls Try.prog 23 #[.int .i64 (2), .int .i64 (a), .int .i64 (b), .int .i64 (n)] w fun e w' => e = .returned (.tuple #[.bool (exw 2 a b n), .int .i64 (0)]) ∧ Below w.heap.size w w' := by
  have b1 := nm_bd hb a
  have b2 := nm_bd hb b
  have hk : Okop 2 b n := ⟨hb, by omega, by omega, fun h => by exact hz⟩
  cases hx : nar (nm n a) with
  | false =>
    have hv : exw 2 a b n = false := by simp [exw, exops, hx]
    rw [hv]; clear hv
    go_enter Try.func23, Try.ntmps23
    go_wp2_with (first | (go_at_call 21; refine (refApply_ok _ _ _ _ hk _).mono ?_; rintro e w1 ⟨rfl, hb1⟩) | (go_at_call 46; refine (refnorm_c _ _ hb _).mono ?_; rintro e w' ⟨rfl, rfl⟩) | (go_at_call 56; refine (refnarrow_c _ _).mono ?_; rintro e w' ⟨rfl, rfl⟩))
    go_ret2
    exact ⟨rfl, hb1⟩
  | true =>
    cases hy : nar (nm n b) with
    | false =>
      have hv : exw 2 a b n = false := by simp [exw, exops, hy]
      rw [hv]; clear hv
      go_enter Try.func23, Try.ntmps23
      go_wp2_with (first | (go_at_call 21; refine (refApply_ok _ _ _ _ hk _).mono ?_; rintro e w1 ⟨rfl, hb1⟩) | (go_at_call 46; refine (refnorm_c _ _ hb _).mono ?_; rintro e w' ⟨rfl, rfl⟩) | (go_at_call 56; refine (refnarrow_c _ _).mono ?_; rintro e w' ⟨rfl, rfl⟩))
      go_ret2
      exact ⟨rfl, hb1⟩
    | true =>
      cases hw : nar (apw 2 a b n) with
      | false =>
        have hw2 := nar_of_w hb (v := opw 2 (nm n a) (nm n b) n) hw
        have hv : exw 2 a b n = false := by simp [exw, hw2]
        rw [hv]; clear hv
        go_enter Try.func23, Try.ntmps23
        go_wp2_with (first | (go_at_call 21; refine (refApply_ok _ _ _ _ hk _).mono ?_; rintro e w1 ⟨rfl, hb1⟩) | (go_at_call 46; refine (refnorm_c _ _ hb _).mono ?_; rintro e w' ⟨rfl, rfl⟩) | (go_at_call 56; refine (refnarrow_c _ _).mono ?_; rintro e w' ⟨rfl, rfl⟩))
        go_ret2
        exact ⟨rfl, hb1⟩
      | true =>
        have hw2 := nar_eq hb (v := opw 2 (nm n a) (nm n b) n) hw
        have ho : opw 2 (nm n a) (nm n b) n = (nm n a).tdiv (nm n b) := rfl
        have hv : exw 2 a b n = (((nm n a).tdiv (nm n b)) == apw 2 a b n) := by rw [← ho]; unfold exw; rw [hw2]; simp [exops, hx, hy]; rfl
        rw [hv]; clear hv hw2 ho
        go_enter Try.func23, Try.ntmps23
        go_wp2_with (first | (go_at_call 21; refine (refApply_ok _ _ _ _ hk _).mono ?_; rintro e w1 ⟨rfl, hb1⟩) | (go_at_call 46; refine (refnorm_c _ _ hb _).mono ?_; rintro e w' ⟨rfl, rfl⟩) | (go_at_call 56; refine (refnarrow_c _ _).mono ?_; rintro e w' ⟨rfl, rfl⟩) | (go_at_call 51; refine (whole2 _ _ b1 b2 hz _).mono ?_; rintro e w' ⟨rfl, rfl⟩))
        go_ret2
        exact ⟨rfl, hb1⟩
set_option maxHeartbeats 400000 in
theorem refExact3 (a b n : Int) (hb : IsBits n) (hz : nm n b ≠ 0) (w : World) :
    Calls Try.prog 23 #[.int .i64 (3), .int .i64 (a), .int .i64 (b), .int .i64 (n)] w fun e w' => e = .returned (.tuple #[.bool (exw 3 a b n), .int .i64 (0)]) ∧ Below w.heap.size w w' := by
  have b1 := nm_bd hb a
  have b2 := nm_bd hb b
  have hk : Okop 3 b n := ⟨hb, by omega, by omega, fun h => by exact hz⟩
  cases hx : nar (nm n a) with
  | false =>
    have hv : exw 3 a b n = false := by simp [exw, exops, hx]
    rw [hv]; clear hv
    go_enter Try.func23, Try.ntmps23
    go_wp2_with (first | (go_at_call 21; refine (refApply_ok _ _ _ _ hk _).mono ?_; rintro e w1 ⟨rfl, hb1⟩) | (go_at_call 46; refine (refnorm_c _ _ hb _).mono ?_; rintro e w' ⟨rfl, rfl⟩) | (go_at_call 56; refine (refnarrow_c _ _).mono ?_; rintro e w' ⟨rfl, rfl⟩))
    go_ret2
    exact ⟨rfl, hb1⟩
  | true =>
    cases hy : nar (nm n b) with
    | false =>
      have hv : exw 3 a b n = false := by simp [exw, exops, hy]
      rw [hv]; clear hv
      go_enter Try.func23, Try.ntmps23
      go_wp2_with (first | (go_at_call 21; refine (refApply_ok _ _ _ _ hk _).mono ?_; rintro e w1 ⟨rfl, hb1⟩) | (go_at_call 46; refine (refnorm_c _ _ hb _).mono ?_; rintro e w' ⟨rfl, rfl⟩) | (go_at_call 56; refine (refnarrow_c _ _).mono ?_; rintro e w' ⟨rfl, rfl⟩))
      go_ret2
      exact ⟨rfl, hb1⟩
    | true =>
      cases hw : nar (apw 3 a b n) with
      | false =>
        have hw2 := nar_of_w hb (v := opw 3 (nm n a) (nm n b) n) hw
        have hv : exw 3 a b n = false := by simp [exw, hw2]
        rw [hv]; clear hv
        go_enter Try.func23, Try.ntmps23
        go_wp2_with (first | (go_at_call 21; refine (refApply_ok _ _ _ _ hk _).mono ?_; rintro e w1 ⟨rfl, hb1⟩) | (go_at_call 46; refine (refnorm_c _ _ hb _).mono ?_; rintro e w' ⟨rfl, rfl⟩) | (go_at_call 56; refine (refnarrow_c _ _).mono ?_; rintro e w' ⟨rfl, rfl⟩))
        go_ret2
        exact ⟨rfl, hb1⟩
      | true =>
        have hw2 := nar_eq hb (v := opw 3 (nm n a) (nm n b) n) hw
        have ho : opw 3 (nm n a) (nm n b) n = (nm n a).tmod (nm n b) := rfl
        have hv : exw 3 a b n = (((nm n a).tmod (nm n b)) == apw 3 a b n) := by rw [← ho]; unfold exw; rw [hw2]; simp [exops, hx, hy]; rfl
        rw [hv]; clear hv hw2 ho
        go_enter Try.func23, Try.ntmps23
        go_wp2_with (first | (go_at_call 21; refine (refApply_ok _ _ _ _ hk _).mono ?_; rintro e w1 ⟨rfl, hb1⟩) | (go_at_call 46; refine (refnorm_c _ _ hb _).mono ?_; rintro e w' ⟨rfl, rfl⟩) | (go_at_call 56; refine (refnarrow_c _ _).mono ?_; rintro e w' ⟨rfl, rfl⟩) | (go_at_call 51; refine (whole3 _ _ b1 b2 hz _).mono ?_; rintro e w' ⟨rfl, rfl⟩))
        go_ret2
        exact ⟨rfl, hb1⟩
set_option maxHeartbeats 400000 in
theorem refExact4 (a b n : Int) (hb : IsBits n) (w : World) :
    Calls Try.prog 23 #[.int .i64 (4), .int .i64 (a), .int .i64 (b), .int .i64 (n)] w fun e w' => e = .returned (.tuple #[.bool (exw 4 a b n), .int .i64 (0)]) ∧ Below w.heap.size w w' := by
  have b1 := nm_bd hb a
  have b2 := nm_bd hb b
  have hk : Okop 4 b n := ⟨hb, by omega, by omega, fun h => by omega⟩
  cases hx : nar (nm n a) with
  | false =>
    have hv : exw 4 a b n = false := by simp [exw, exops, hx]
    rw [hv]; clear hv
    go_enter Try.func23, Try.ntmps23
    go_wp2_with (first | (go_at_call 21; refine (refApply_ok _ _ _ _ hk _).mono ?_; rintro e w1 ⟨rfl, hb1⟩) | (go_at_call 46; refine (refnorm_c _ _ hb _).mono ?_; rintro e w' ⟨rfl, rfl⟩) | (go_at_call 56; refine (refnarrow_c _ _).mono ?_; rintro e w' ⟨rfl, rfl⟩))
    go_ret2
    exact ⟨rfl, hb1⟩
  | true =>
    cases hy : nar (nm n b) with
    | false =>
      have hv : exw 4 a b n = false := by simp [exw, exops, hy]
      rw [hv]; clear hv
      go_enter Try.func23, Try.ntmps23
      go_wp2_with (first | (go_at_call 21; refine (refApply_ok _ _ _ _ hk _).mono ?_; rintro e w1 ⟨rfl, hb1⟩) | (go_at_call 46; refine (refnorm_c _ _ hb _).mono ?_; rintro e w' ⟨rfl, rfl⟩) | (go_at_call 56; refine (refnarrow_c _ _).mono ?_; rintro e w' ⟨rfl, rfl⟩))
      go_ret2
      exact ⟨rfl, hb1⟩
    | true =>
      cases hw : nar (apw 4 a b n) with
      | false =>
        have hw2 := nar_of_w hb (v := opw 4 (nm n a) (nm n b) n) hw
        have hv : exw 4 a b n = false := by simp [exw, hw2]
        rw [hv]; clear hv
        go_enter Try.func23, Try.ntmps23
        go_wp2_with (first | (go_at_call 21; refine (refApply_ok _ _ _ _ hk _).mono ?_; rintro e w1 ⟨rfl, hb1⟩) | (go_at_call 46; refine (refnorm_c _ _ hb _).mono ?_; rintro e w' ⟨rfl, rfl⟩) | (go_at_call 56; refine (refnarrow_c _ _).mono ?_; rintro e w' ⟨rfl, rfl⟩))
        go_ret2
        exact ⟨rfl, hb1⟩
      | true =>
        have hw2 := nar_eq hb (v := opw 4 (nm n a) (nm n b) n) hw
        have ho : opw 4 (nm n a) (nm n b) n = nm n a + nm n b := rfl
        have hv : exw 4 a b n = ((nm n a + nm n b) == apw 4 a b n) := by rw [← ho]; unfold exw; rw [hw2]; simp [exops, hx, hy]; rfl
        rw [hv]; clear hv hw2 ho
        go_enter Try.func23, Try.ntmps23
        go_wp2_with (first | (go_at_call 21; refine (refApply_ok _ _ _ _ hk _).mono ?_; rintro e w1 ⟨rfl, hb1⟩) | (go_at_call 46; refine (refnorm_c _ _ hb _).mono ?_; rintro e w' ⟨rfl, rfl⟩) | (go_at_call 56; refine (refnarrow_c _ _).mono ?_; rintro e w' ⟨rfl, rfl⟩) | (go_at_call 51; refine (whole4 _ _ b1 b2 _).mono ?_; rintro e w' ⟨rfl, rfl⟩))
        go_ret2
        exact ⟨rfl, hb1⟩
set_option maxHeartbeats 400000 in
theorem refExact5 (a b n : Int) (hb : IsBits n) (w : World) :
    Calls Try.prog 23 #[.int .i64 (5), .int .i64 (a), .int .i64 (b), .int .i64 (n)] w fun e w' => e = .returned (.tuple #[.bool (exw 5 a b n), .int .i64 (0)]) ∧ Below w.heap.size w w' := by
  have b1 := nm_bd hb a
  have b2 := nm_bd hb b
  have hk : Okop 5 b n := ⟨hb, by omega, by omega, fun h => by omega⟩
  cases hx : nar (nm n a) with
  | false =>
    have hv : exw 5 a b n = false := by simp [exw, exops, hx]
    rw [hv]; clear hv
    go_enter Try.func23, Try.ntmps23
    go_wp2_with (first | (go_at_call 21; refine (refApply_ok _ _ _ _ hk _).mono ?_; rintro e w1 ⟨rfl, hb1⟩) | (go_at_call 46; refine (refnorm_c _ _ hb _).mono ?_; rintro e w' ⟨rfl, rfl⟩) | (go_at_call 56; refine (refnarrow_c _ _).mono ?_; rintro e w' ⟨rfl, rfl⟩))
    go_ret2
    exact ⟨rfl, hb1⟩
  | true =>
    cases hy : nar (nm n b) with
    | false =>
      have hv : exw 5 a b n = false := by simp [exw, exops, hy]
      rw [hv]; clear hv
      go_enter Try.func23, Try.ntmps23
      go_wp2_with (first | (go_at_call 21; refine (refApply_ok _ _ _ _ hk _).mono ?_; rintro e w1 ⟨rfl, hb1⟩) | (go_at_call 46; refine (refnorm_c _ _ hb _).mono ?_; rintro e w' ⟨rfl, rfl⟩) | (go_at_call 56; refine (refnarrow_c _ _).mono ?_; rintro e w' ⟨rfl, rfl⟩))
      go_ret2
      exact ⟨rfl, hb1⟩
    | true =>
      cases hw : nar (apw 5 a b n) with
      | false =>
        have hw2 := nar_of_w hb (v := opw 5 (nm n a) (nm n b) n) hw
        have hv : exw 5 a b n = false := by simp [exw, hw2]
        rw [hv]; clear hv
        go_enter Try.func23, Try.ntmps23
        go_wp2_with (first | (go_at_call 21; refine (refApply_ok _ _ _ _ hk _).mono ?_; rintro e w1 ⟨rfl, hb1⟩) | (go_at_call 46; refine (refnorm_c _ _ hb _).mono ?_; rintro e w' ⟨rfl, rfl⟩) | (go_at_call 56; refine (refnarrow_c _ _).mono ?_; rintro e w' ⟨rfl, rfl⟩))
        go_ret2
        exact ⟨rfl, hb1⟩
      | true =>
        have hw2 := nar_eq hb (v := opw 5 (nm n a) (nm n b) n) hw
        have ho : opw 5 (nm n a) (nm n b) n = nm n a - nm n b := rfl
        have hv : exw 5 a b n = ((nm n a - nm n b) == apw 5 a b n) := by rw [← ho]; unfold exw; rw [hw2]; simp [exops, hx, hy]; rfl
        rw [hv]; clear hv hw2 ho
        go_enter Try.func23, Try.ntmps23
        go_wp2_with (first | (go_at_call 21; refine (refApply_ok _ _ _ _ hk _).mono ?_; rintro e w1 ⟨rfl, hb1⟩) | (go_at_call 46; refine (refnorm_c _ _ hb _).mono ?_; rintro e w' ⟨rfl, rfl⟩) | (go_at_call 56; refine (refnarrow_c _ _).mono ?_; rintro e w' ⟨rfl, rfl⟩) | (go_at_call 51; refine (whole5 _ _ b1 b2 _).mono ?_; rintro e w' ⟨rfl, rfl⟩))
        go_ret2
        exact ⟨rfl, hb1⟩
set_option maxHeartbeats 400000 in
theorem refExact6 (a b n : Int) (hb : IsBits n) (w : World) :
    Calls Try.prog 23 #[.int .i64 (6), .int .i64 (a), .int .i64 (b), .int .i64 (n)] w fun e w' => e = .returned (.tuple #[.bool (exw 6 a b n), .int .i64 (0)]) ∧ Below w.heap.size w w' := by
  have b1 := nm_bd hb a
  have b2 := nm_bd hb b
  have hk : Okop 6 b n := ⟨hb, by omega, by omega, fun h => by omega⟩
  cases hx : nar (nm n a) with
  | false =>
    have hv : exw 6 a b n = false := by simp [exw, exops, hx]
    rw [hv]; clear hv
    go_enter Try.func23, Try.ntmps23
    go_wp2_with (first | (go_at_call 21; refine (refApply_ok _ _ _ _ hk _).mono ?_; rintro e w1 ⟨rfl, hb1⟩) | (go_at_call 46; refine (refnorm_c _ _ hb _).mono ?_; rintro e w' ⟨rfl, rfl⟩) | (go_at_call 56; refine (refnarrow_c _ _).mono ?_; rintro e w' ⟨rfl, rfl⟩))
    go_ret2
    exact ⟨rfl, hb1⟩
  | true =>
    cases hy : nar (nm n b) with
    | false =>
      have hy15 : ¬ (0 ≤ nm n b ∧ nm n b ≤ 15) := fun h => by rw [nar_mk ⟨by omega, by omega⟩] at hy; cases hy
      have hv : exw 6 a b n = false := by simp [exw, exops, hx]; intro h1 h2 h3; exact absurd ⟨h2, h3⟩ hy15
      rw [hv]; clear hv
      go_enter Try.func23, Try.ntmps23
      go_wp2_with (first | (go_at_call 21; refine (refApply_ok _ _ _ _ hk _).mono ?_; rintro e w1 ⟨rfl, hb1⟩) | (go_at_call 46; refine (refnorm_c _ _ hb _).mono ?_; rintro e w' ⟨rfl, rfl⟩) | (go_at_call 56; refine (refnarrow_c _ _).mono ?_; rintro e w' ⟨rfl, rfl⟩))
      go_ret2
      exact ⟨rfl, hb1⟩
    | true =>
      cases hw : nar (apw 6 a b n) with
      | false =>
        have hw2 := nar_of_w hb (v := opw 6 (nm n a) (nm n b) n) hw
        have hv : exw 6 a b n = false := by simp [exw, hw2]
        rw [hv]; clear hv
        go_enter Try.func23, Try.ntmps23
        go_wp2_with (first | (go_at_call 21; refine (refApply_ok _ _ _ _ hk _).mono ?_; rintro e w1 ⟨rfl, hb1⟩) | (go_at_call 46; refine (refnorm_c _ _ hb _).mono ?_; rintro e w' ⟨rfl, rfl⟩) | (go_at_call 56; refine (refnarrow_c _ _).mono ?_; rintro e w' ⟨rfl, rfl⟩))
        go_ret2
        exact ⟨rfl, hb1⟩
      | true =>
        by_cases c1 : nm n a < 0
        · have c1' : ¬ 0 ≤ nm n a := by omega
          have hv : exw 6 a b n = false := by simp [exw, exops, c1']
          rw [hv]; clear hv
          go_enter Try.func23, Try.ntmps23
          go_wp2_with (first | (go_at_call 21; refine (refApply_ok _ _ _ _ hk _).mono ?_; rintro e w1 ⟨rfl, hb1⟩) | (go_at_call 46; refine (refnorm_c _ _ hb _).mono ?_; rintro e w' ⟨rfl, rfl⟩) | (go_at_call 56; refine (refnarrow_c _ _).mono ?_; rintro e w' ⟨rfl, rfl⟩) | (go_at_call 51; refine (whole6 _ _ _).mono ?_; rintro e w' ⟨rfl, rfl⟩))
          go_ret2
          exact ⟨rfl, hb1⟩
        · by_cases c2 : nm n b < 0
          · have c2' : ¬ 0 ≤ nm n b := by omega
            have hv : exw 6 a b n = false := by simp [exw, exops, c2']
            rw [hv]; clear hv
            go_enter Try.func23, Try.ntmps23
            go_wp2_with (first | (go_at_call 21; refine (refApply_ok _ _ _ _ hk _).mono ?_; rintro e w1 ⟨rfl, hb1⟩) | (go_at_call 46; refine (refnorm_c _ _ hb _).mono ?_; rintro e w' ⟨rfl, rfl⟩) | (go_at_call 56; refine (refnarrow_c _ _).mono ?_; rintro e w' ⟨rfl, rfl⟩) | (go_at_call 51; refine (whole6 _ _ _).mono ?_; rintro e w' ⟨rfl, rfl⟩))
            go_ret2
            exact ⟨rfl, hb1⟩
          · by_cases c3 : nm n b ≤ 15
            · have c4 : ¬ 15 < nm n b := by omega
              have c1' : 0 ≤ nm n a := by omega
              have c2' : 0 ≤ nm n b := by omega
              have c5 : ¬ n ≤ nm n b := by rcases hb with rfl | rfl | rfl <;> omega
              have ho : opw 6 (nm n a) (nm n b) n = nm n a * P2 (nm n b) := by show (if nm n b < 0 ∨ n ≤ nm n b then 0 else _) = _; rw [if_neg (by omega)]
              have hmul := mul_p2_bd b1 (by omega : nm n b ≤ 31)
              have hbn : nm n b ≤ 62 := by omega
              have hv : exw 6 a b n = decide (nm n a * P2 (nm n b) ≤ 32767) := by rw [← shl_nar c1', ← ho]; simp [exw, exops, hx, c1', c2', c3]
              rw [hv]; clear hv
              go_enter Try.func23, Try.ntmps23
              go_wp2_with (first | (go_at_call 21; refine (refApply_ok _ _ _ _ hk _).mono ?_; rintro e w1 ⟨rfl, hb1⟩) | (go_at_call 46; refine (refnorm_c _ _ hb _).mono ?_; rintro e w' ⟨rfl, rfl⟩) | (go_at_call 56; refine (refnarrow_c _ _).mono ?_; rintro e w' ⟨rfl, rfl⟩) | (go_at_call 51; refine (whole6 _ _ _).mono ?_; rintro e w' ⟨rfl, rfl⟩) | (go_at_call 57; refine (power_c _ c2' hbn _).mono ?_; rintro e w' ⟨rfl, rfl⟩))
              go_ret2
              exact ⟨rfl, hb1⟩
            · have c4 : 15 < nm n b := by omega
              have hv : exw 6 a b n = false := by simp [exw, exops, c3]
              rw [hv]; clear hv
              go_enter Try.func23, Try.ntmps23
              go_wp2_with (first | (go_at_call 21; refine (refApply_ok _ _ _ _ hk _).mono ?_; rintro e w1 ⟨rfl, hb1⟩) | (go_at_call 46; refine (refnorm_c _ _ hb _).mono ?_; rintro e w' ⟨rfl, rfl⟩) | (go_at_call 56; refine (refnarrow_c _ _).mono ?_; rintro e w' ⟨rfl, rfl⟩) | (go_at_call 51; refine (whole6 _ _ _).mono ?_; rintro e w' ⟨rfl, rfl⟩))
              go_ret2
              exact ⟨rfl, hb1⟩
set_option maxHeartbeats 400000 in
theorem refExact7 (a b n : Int) (hb : IsBits n) (w : World) :
    Calls Try.prog 23 #[.int .i64 (7), .int .i64 (a), .int .i64 (b), .int .i64 (n)] w fun e w' => e = .returned (.tuple #[.bool (exw 7 a b n), .int .i64 (0)]) ∧ Below w.heap.size w w' := by
  have b1 := nm_bd hb a
  have b2 := nm_bd hb b
  have hk : Okop 7 b n := ⟨hb, by omega, by omega, fun h => by omega⟩
  cases hx : nar (nm n a) with
  | false =>
    have hv : exw 7 a b n = false := by simp [exw, exops, hx]
    rw [hv]; clear hv
    go_enter Try.func23, Try.ntmps23
    go_wp2_with (first | (go_at_call 21; refine (refApply_ok _ _ _ _ hk _).mono ?_; rintro e w1 ⟨rfl, hb1⟩) | (go_at_call 46; refine (refnorm_c _ _ hb _).mono ?_; rintro e w' ⟨rfl, rfl⟩) | (go_at_call 56; refine (refnarrow_c _ _).mono ?_; rintro e w' ⟨rfl, rfl⟩))
    go_ret2
    exact ⟨rfl, hb1⟩
  | true =>
    cases hy : nar (nm n b) with
    | false =>
      have hy15 : ¬ (0 ≤ nm n b ∧ nm n b ≤ 15) := fun h => by rw [nar_mk ⟨by omega, by omega⟩] at hy; cases hy
      have hv : exw 7 a b n = false := by simp [exw, exops, hx]; intro h1 h2 h3; exact absurd ⟨h2, h3⟩ hy15
      rw [hv]; clear hv
      go_enter Try.func23, Try.ntmps23
      go_wp2_with (first | (go_at_call 21; refine (refApply_ok _ _ _ _ hk _).mono ?_; rintro e w1 ⟨rfl, hb1⟩) | (go_at_call 46; refine (refnorm_c _ _ hb _).mono ?_; rintro e w' ⟨rfl, rfl⟩) | (go_at_call 56; refine (refnarrow_c _ _).mono ?_; rintro e w' ⟨rfl, rfl⟩))
      go_ret2
      exact ⟨rfl, hb1⟩
    | true =>
      cases hw : nar (apw 7 a b n) with
      | false =>
        have hw2 := nar_of_w hb (v := opw 7 (nm n a) (nm n b) n) hw
        have hv : exw 7 a b n = false := by simp [exw, hw2]
        rw [hv]; clear hv
        go_enter Try.func23, Try.ntmps23
        go_wp2_with (first | (go_at_call 21; refine (refApply_ok _ _ _ _ hk _).mono ?_; rintro e w1 ⟨rfl, hb1⟩) | (go_at_call 46; refine (refnorm_c _ _ hb _).mono ?_; rintro e w' ⟨rfl, rfl⟩) | (go_at_call 56; refine (refnarrow_c _ _).mono ?_; rintro e w' ⟨rfl, rfl⟩))
        go_ret2
        exact ⟨rfl, hb1⟩
      | true =>
        by_cases c1 : nm n a < 0
        · have c1' : ¬ 0 ≤ nm n a := by omega
          have hv : exw 7 a b n = false := by simp [exw, exops, c1']
          rw [hv]; clear hv
          go_enter Try.func23, Try.ntmps23
          go_wp2_with (first | (go_at_call 21; refine (refApply_ok _ _ _ _ hk _).mono ?_; rintro e w1 ⟨rfl, hb1⟩) | (go_at_call 46; refine (refnorm_c _ _ hb _).mono ?_; rintro e w' ⟨rfl, rfl⟩) | (go_at_call 56; refine (refnarrow_c _ _).mono ?_; rintro e w' ⟨rfl, rfl⟩) | (go_at_call 51; refine (whole7 _ _ _).mono ?_; rintro e w' ⟨rfl, rfl⟩))
          go_ret2
          exact ⟨rfl, hb1⟩
        · by_cases c2 : nm n b < 0
          · have c2' : ¬ 0 ≤ nm n b := by omega
            have hv : exw 7 a b n = false := by simp [exw, exops, c2']
            rw [hv]; clear hv
            go_enter Try.func23, Try.ntmps23
            go_wp2_with (first | (go_at_call 21; refine (refApply_ok _ _ _ _ hk _).mono ?_; rintro e w1 ⟨rfl, hb1⟩) | (go_at_call 46; refine (refnorm_c _ _ hb _).mono ?_; rintro e w' ⟨rfl, rfl⟩) | (go_at_call 56; refine (refnarrow_c _ _).mono ?_; rintro e w' ⟨rfl, rfl⟩) | (go_at_call 51; refine (whole7 _ _ _).mono ?_; rintro e w' ⟨rfl, rfl⟩))
            go_ret2
            exact ⟨rfl, hb1⟩
          · by_cases c3 : nm n b ≤ 15
            · have c4 : ¬ 15 < nm n b := by omega
              have c1' : 0 ≤ nm n a := by omega
              have c2' : 0 ≤ nm n b := by omega
              have c5 : ¬ n ≤ nm n b := by rcases hb with rfl | rfl | rfl <;> omega
              have ho : opw 7 (nm n a) (nm n b) n = un n (nm n a) / P2 (nm n b) := by show (if nm n b < 0 ∨ n ≤ nm n b then 0 else _) = _; rw [if_neg (by omega)]
              have hv : exw 7 a b n = true := by have h7 := shr_nar hb (y := nm n b) hx c1'; simp [exw, exops, hx, c1', c2', c3, ho, h7]
              rw [hv]; clear hv
              go_enter Try.func23, Try.ntmps23
              go_wp2_with (first | (go_at_call 21; refine (refApply_ok _ _ _ _ hk _).mono ?_; rintro e w1 ⟨rfl, hb1⟩) | (go_at_call 46; refine (refnorm_c _ _ hb _).mono ?_; rintro e w' ⟨rfl, rfl⟩) | (go_at_call 56; refine (refnarrow_c _ _).mono ?_; rintro e w' ⟨rfl, rfl⟩) | (go_at_call 51; refine (whole7 _ _ _).mono ?_; rintro e w' ⟨rfl, rfl⟩))
              go_ret2
              exact ⟨rfl, hb1⟩
            · have c4 : 15 < nm n b := by omega
              have hv : exw 7 a b n = false := by simp [exw, exops, c3]
              rw [hv]; clear hv
              go_enter Try.func23, Try.ntmps23
              go_wp2_with (first | (go_at_call 21; refine (refApply_ok _ _ _ _ hk _).mono ?_; rintro e w1 ⟨rfl, hb1⟩) | (go_at_call 46; refine (refnorm_c _ _ hb _).mono ?_; rintro e w' ⟨rfl, rfl⟩) | (go_at_call 56; refine (refnarrow_c _ _).mono ?_; rintro e w' ⟨rfl, rfl⟩) | (go_at_call 51; refine (whole7 _ _ _).mono ?_; rintro e w' ⟨rfl, rfl⟩))
              go_ret2
              exact ⟨rfl, hb1⟩
set_option maxHeartbeats 400000 in
theorem refExact8 (a b n : Int) (hb : IsBits n) (w : World) :
    Calls Try.prog 23 #[.int .i64 (8), .int .i64 (a), .int .i64 (b), .int .i64 (n)] w fun e w' => e = .returned (.tuple #[.bool (exw 8 a b n), .int .i64 (0)]) ∧ Below w.heap.size w w' := by
  have b1 := nm_bd hb a
  have b2 := nm_bd hb b
  have hk : Okop 8 b n := ⟨hb, by omega, by omega, fun h => by omega⟩
  cases hx : nar (nm n a) with
  | false =>
    have hv : exw 8 a b n = false := by simp [exw, exops, hx]
    rw [hv]; clear hv
    go_enter Try.func23, Try.ntmps23
    go_wp2_with (first | (go_at_call 21; refine (refApply_ok _ _ _ _ hk _).mono ?_; rintro e w1 ⟨rfl, hb1⟩) | (go_at_call 46; refine (refnorm_c _ _ hb _).mono ?_; rintro e w' ⟨rfl, rfl⟩) | (go_at_call 56; refine (refnarrow_c _ _).mono ?_; rintro e w' ⟨rfl, rfl⟩))
    go_ret2
    exact ⟨rfl, hb1⟩
  | true =>
    cases hy : nar (nm n b) with
    | false =>
      have hv : exw 8 a b n = false := by simp [exw, exops, hy]
      rw [hv]; clear hv
      go_enter Try.func23, Try.ntmps23
      go_wp2_with (first | (go_at_call 21; refine (refApply_ok _ _ _ _ hk _).mono ?_; rintro e w1 ⟨rfl, hb1⟩) | (go_at_call 46; refine (refnorm_c _ _ hb _).mono ?_; rintro e w' ⟨rfl, rfl⟩) | (go_at_call 56; refine (refnarrow_c _ _).mono ?_; rintro e w' ⟨rfl, rfl⟩))
      go_ret2
      exact ⟨rfl, hb1⟩
    | true =>
      cases hw : nar (apw 8 a b n) with
      | false =>
        have hw2 := nar_of_w hb (v := opw 8 (nm n a) (nm n b) n) hw
        have hv : exw 8 a b n = false := by simp [exw, hw2]
        rw [hv]; clear hv
        go_enter Try.func23, Try.ntmps23
        go_wp2_with (first | (go_at_call 21; refine (refApply_ok _ _ _ _ hk _).mono ?_; rintro e w1 ⟨rfl, hb1⟩) | (go_at_call 46; refine (refnorm_c _ _ hb _).mono ?_; rintro e w' ⟨rfl, rfl⟩) | (go_at_call 56; refine (refnarrow_c _ _).mono ?_; rintro e w' ⟨rfl, rfl⟩))
        go_ret2
        exact ⟨rfl, hb1⟩
      | true =>
        have hw2 : nar (opw 8 (nm n a) (nm n b) n) = true := by rw [← hw]; congr 1; exact (and_plain hb a b).symm
        have hv : exw 8 a b n = true := by simp [exw, exops, hx, hy, hw2]
        rw [hv]; clear hv
        go_enter Try.func23, Try.ntmps23
        go_wp2_with (first | (go_at_call 21; refine (refApply_ok _ _ _ _ hk _).mono ?_; rintro e w1 ⟨rfl, hb1⟩) | (go_at_call 46; refine (refnorm_c _ _ hb _).mono ?_; rintro e w' ⟨rfl, rfl⟩) | (go_at_call 56; refine (refnarrow_c _ _).mono ?_; rintro e w' ⟨rfl, rfl⟩) | (go_at_call 51; refine (whole8 _ _ _).mono ?_; rintro e w' ⟨rfl, rfl⟩))
        go_ret2
        exact ⟨rfl, hb1⟩
set_option maxHeartbeats 400000 in
theorem refExact9 (a b n : Int) (hb : IsBits n) (w : World) :
    Calls Try.prog 23 #[.int .i64 (9), .int .i64 (a), .int .i64 (b), .int .i64 (n)] w fun e w' => e = .returned (.tuple #[.bool (exw 9 a b n), .int .i64 (0)]) ∧ Below w.heap.size w w' := by
  have b1 := nm_bd hb a
  have b2 := nm_bd hb b
  have hk : Okop 9 b n := ⟨hb, by omega, by omega, fun h => by omega⟩
  cases hx : nar (nm n a) with
  | false =>
    have hv : exw 9 a b n = false := by simp [exw, exops, hx]
    rw [hv]; clear hv
    go_enter Try.func23, Try.ntmps23
    go_wp2_with (first | (go_at_call 21; refine (refApply_ok _ _ _ _ hk _).mono ?_; rintro e w1 ⟨rfl, hb1⟩) | (go_at_call 46; refine (refnorm_c _ _ hb _).mono ?_; rintro e w' ⟨rfl, rfl⟩) | (go_at_call 56; refine (refnarrow_c _ _).mono ?_; rintro e w' ⟨rfl, rfl⟩))
    go_ret2
    exact ⟨rfl, hb1⟩
  | true =>
    cases hy : nar (nm n b) with
    | false =>
      have hv : exw 9 a b n = false := by simp [exw, exops, hy]
      rw [hv]; clear hv
      go_enter Try.func23, Try.ntmps23
      go_wp2_with (first | (go_at_call 21; refine (refApply_ok _ _ _ _ hk _).mono ?_; rintro e w1 ⟨rfl, hb1⟩) | (go_at_call 46; refine (refnorm_c _ _ hb _).mono ?_; rintro e w' ⟨rfl, rfl⟩) | (go_at_call 56; refine (refnarrow_c _ _).mono ?_; rintro e w' ⟨rfl, rfl⟩))
      go_ret2
      exact ⟨rfl, hb1⟩
    | true =>
      cases hw : nar (apw 9 a b n) with
      | false =>
        have hw2 := nar_of_w hb (v := opw 9 (nm n a) (nm n b) n) hw
        have hv : exw 9 a b n = false := by simp [exw, hw2]
        rw [hv]; clear hv
        go_enter Try.func23, Try.ntmps23
        go_wp2_with (first | (go_at_call 21; refine (refApply_ok _ _ _ _ hk _).mono ?_; rintro e w1 ⟨rfl, hb1⟩) | (go_at_call 46; refine (refnorm_c _ _ hb _).mono ?_; rintro e w' ⟨rfl, rfl⟩) | (go_at_call 56; refine (refnarrow_c _ _).mono ?_; rintro e w' ⟨rfl, rfl⟩))
        go_ret2
        exact ⟨rfl, hb1⟩
      | true =>
        have hw2 : nar (opw 9 (nm n a) (nm n b) n) = true := by rw [← hw]; congr 1; exact (or_plain hb a b).symm
        have hv : exw 9 a b n = true := by simp [exw, exops, hx, hy, hw2]
        rw [hv]; clear hv
        go_enter Try.func23, Try.ntmps23
        go_wp2_with (first | (go_at_call 21; refine (refApply_ok _ _ _ _ hk _).mono ?_; rintro e w1 ⟨rfl, hb1⟩) | (go_at_call 46; refine (refnorm_c _ _ hb _).mono ?_; rintro e w' ⟨rfl, rfl⟩) | (go_at_call 56; refine (refnarrow_c _ _).mono ?_; rintro e w' ⟨rfl, rfl⟩) | (go_at_call 51; refine (whole9 _ _ _).mono ?_; rintro e w' ⟨rfl, rfl⟩))
        go_ret2
        exact ⟨rfl, hb1⟩
set_option maxHeartbeats 400000 in
theorem refExact10 (a b n : Int) (hb : IsBits n) (w : World) :
    Calls Try.prog 23 #[.int .i64 (10), .int .i64 (a), .int .i64 (b), .int .i64 (n)] w fun e w' => e = .returned (.tuple #[.bool (exw 10 a b n), .int .i64 (0)]) ∧ Below w.heap.size w w' := by
  have b1 := nm_bd hb a
  have b2 := nm_bd hb b
  have hk : Okop 10 b n := ⟨hb, by omega, by omega, fun h => by omega⟩
  cases hx : nar (nm n a) with
  | false =>
    have hv : exw 10 a b n = false := by simp [exw, exops, hx]
    rw [hv]; clear hv
    go_enter Try.func23, Try.ntmps23
    go_wp2_with (first | (go_at_call 21; refine (refApply_ok _ _ _ _ hk _).mono ?_; rintro e w1 ⟨rfl, hb1⟩) | (go_at_call 46; refine (refnorm_c _ _ hb _).mono ?_; rintro e w' ⟨rfl, rfl⟩) | (go_at_call 56; refine (refnarrow_c _ _).mono ?_; rintro e w' ⟨rfl, rfl⟩))
    go_ret2
    exact ⟨rfl, hb1⟩
  | true =>
    cases hy : nar (nm n b) with
    | false =>
      have hv : exw 10 a b n = false := by simp [exw, exops, hy]
      rw [hv]; clear hv
      go_enter Try.func23, Try.ntmps23
      go_wp2_with (first | (go_at_call 21; refine (refApply_ok _ _ _ _ hk _).mono ?_; rintro e w1 ⟨rfl, hb1⟩) | (go_at_call 46; refine (refnorm_c _ _ hb _).mono ?_; rintro e w' ⟨rfl, rfl⟩) | (go_at_call 56; refine (refnarrow_c _ _).mono ?_; rintro e w' ⟨rfl, rfl⟩))
      go_ret2
      exact ⟨rfl, hb1⟩
    | true =>
      cases hw : nar (apw 10 a b n) with
      | false =>
        have hw2 := nar_of_w hb (v := opw 10 (nm n a) (nm n b) n) hw
        have hv : exw 10 a b n = false := by simp [exw, hw2]
        rw [hv]; clear hv
        go_enter Try.func23, Try.ntmps23
        go_wp2_with (first | (go_at_call 21; refine (refApply_ok _ _ _ _ hk _).mono ?_; rintro e w1 ⟨rfl, hb1⟩) | (go_at_call 46; refine (refnorm_c _ _ hb _).mono ?_; rintro e w' ⟨rfl, rfl⟩) | (go_at_call 56; refine (refnarrow_c _ _).mono ?_; rintro e w' ⟨rfl, rfl⟩))
        go_ret2
        exact ⟨rfl, hb1⟩
      | true =>
        have hw2 : nar (opw 10 (nm n a) (nm n b) n) = true := by rw [← hw]; congr 1; exact (xor_plain hb a b).symm
        have hv : exw 10 a b n = true := by simp [exw, exops, hx, hy, hw2]
        rw [hv]; clear hv
        go_enter Try.func23, Try.ntmps23
        go_wp2_with (first | (go_at_call 21; refine (refApply_ok _ _ _ _ hk _).mono ?_; rintro e w1 ⟨rfl, hb1⟩) | (go_at_call 46; refine (refnorm_c _ _ hb _).mono ?_; rintro e w' ⟨rfl, rfl⟩) | (go_at_call 56; refine (refnarrow_c _ _).mono ?_; rintro e w' ⟨rfl, rfl⟩) | (go_at_call 51; refine (whole10 _ _ _).mono ?_; rintro e w' ⟨rfl, rfl⟩))
        go_ret2
        exact ⟨rfl, hb1⟩
set_option maxHeartbeats 400000 in
theorem refExact11 (a b n : Int) (hb : IsBits n) (w : World) :
    Calls Try.prog 23 #[.int .i64 (11), .int .i64 (a), .int .i64 (b), .int .i64 (n)] w fun e w' => e = .returned (.tuple #[.bool (exw 11 a b n), .int .i64 (0)]) ∧ Below w.heap.size w w' := by
  have b1 := nm_bd hb a
  have b2 := nm_bd hb b
  have hk : Okop 11 b n := ⟨hb, by omega, by omega, fun h => by omega⟩
  cases hx : nar (nm n a) with
  | false =>
    have hv : exw 11 a b n = false := by simp [exw, exops, hx]
    rw [hv]; clear hv
    go_enter Try.func23, Try.ntmps23
    go_wp2_with (first | (go_at_call 21; refine (refApply_ok _ _ _ _ hk _).mono ?_; rintro e w1 ⟨rfl, hb1⟩) | (go_at_call 46; refine (refnorm_c _ _ hb _).mono ?_; rintro e w' ⟨rfl, rfl⟩) | (go_at_call 56; refine (refnarrow_c _ _).mono ?_; rintro e w' ⟨rfl, rfl⟩))
    go_ret2
    exact ⟨rfl, hb1⟩
  | true =>
    cases hy : nar (nm n b) with
    | false =>
      have hv : exw 11 a b n = false := by simp [exw, exops, hy]
      rw [hv]; clear hv
      go_enter Try.func23, Try.ntmps23
      go_wp2_with (first | (go_at_call 21; refine (refApply_ok _ _ _ _ hk _).mono ?_; rintro e w1 ⟨rfl, hb1⟩) | (go_at_call 46; refine (refnorm_c _ _ hb _).mono ?_; rintro e w' ⟨rfl, rfl⟩) | (go_at_call 56; refine (refnarrow_c _ _).mono ?_; rintro e w' ⟨rfl, rfl⟩))
      go_ret2
      exact ⟨rfl, hb1⟩
    | true =>
      cases hw : nar (apw 11 a b n) with
      | false =>
        have hw2 := nar_of_w hb (v := opw 11 (nm n a) (nm n b) n) hw
        have hv : exw 11 a b n = false := by simp [exw, hw2]
        rw [hv]; clear hv
        go_enter Try.func23, Try.ntmps23
        go_wp2_with (first | (go_at_call 21; refine (refApply_ok _ _ _ _ hk _).mono ?_; rintro e w1 ⟨rfl, hb1⟩) | (go_at_call 46; refine (refnorm_c _ _ hb _).mono ?_; rintro e w' ⟨rfl, rfl⟩) | (go_at_call 56; refine (refnarrow_c _ _).mono ?_; rintro e w' ⟨rfl, rfl⟩))
        go_ret2
        exact ⟨rfl, hb1⟩
      | true =>
        have hw2 : nar (opw 11 (nm n a) (nm n b) n) = true := by rw [← hw]; congr 1; exact (eqv_plain hb a b).symm
        have hv : exw 11 a b n = true := by simp [exw, exops, hx, hy, hw2]
        rw [hv]; clear hv
        go_enter Try.func23, Try.ntmps23
        go_wp2_with (first | (go_at_call 21; refine (refApply_ok _ _ _ _ hk _).mono ?_; rintro e w1 ⟨rfl, hb1⟩) | (go_at_call 46; refine (refnorm_c _ _ hb _).mono ?_; rintro e w' ⟨rfl, rfl⟩) | (go_at_call 56; refine (refnarrow_c _ _).mono ?_; rintro e w' ⟨rfl, rfl⟩) | (go_at_call 51; refine (whole11 _ _ _).mono ?_; rintro e w' ⟨rfl, rfl⟩))
        go_ret2
        exact ⟨rfl, hb1⟩
set_option maxHeartbeats 400000 in
theorem refExact12 (a b n : Int) (hb : IsBits n) (w : World) :
    Calls Try.prog 23 #[.int .i64 (12), .int .i64 (a), .int .i64 (b), .int .i64 (n)] w fun e w' => e = .returned (.tuple #[.bool (exw 12 a b n), .int .i64 (0)]) ∧ Below w.heap.size w w' := by
  have b1 := nm_bd hb a
  have b2 := nm_bd hb b
  have hk : Okop 12 b n := ⟨hb, by omega, by omega, fun h => by omega⟩
  cases hx : nar (nm n a) with
  | false =>
    have hv : exw 12 a b n = false := by simp [exw, exops, hx]
    rw [hv]; clear hv
    go_enter Try.func23, Try.ntmps23
    go_wp2_with (first | (go_at_call 21; refine (refApply_ok _ _ _ _ hk _).mono ?_; rintro e w1 ⟨rfl, hb1⟩) | (go_at_call 46; refine (refnorm_c _ _ hb _).mono ?_; rintro e w' ⟨rfl, rfl⟩) | (go_at_call 56; refine (refnarrow_c _ _).mono ?_; rintro e w' ⟨rfl, rfl⟩))
    go_ret2
    exact ⟨rfl, hb1⟩
  | true =>
    cases hy : nar (nm n b) with
    | false =>
      have hv : exw 12 a b n = false := by simp [exw, exops, hy]
      rw [hv]; clear hv
      go_enter Try.func23, Try.ntmps23
      go_wp2_with (first | (go_at_call 21; refine (refApply_ok _ _ _ _ hk _).mono ?_; rintro e w1 ⟨rfl, hb1⟩) | (go_at_call 46; refine (refnorm_c _ _ hb _).mono ?_; rintro e w' ⟨rfl, rfl⟩) | (go_at_call 56; refine (refnarrow_c _ _).mono ?_; rintro e w' ⟨rfl, rfl⟩))
      go_ret2
      exact ⟨rfl, hb1⟩
    | true =>
      cases hw : nar (apw 12 a b n) with
      | false =>
        have hw2 := nar_of_w hb (v := opw 12 (nm n a) (nm n b) n) hw
        have hv : exw 12 a b n = false := by simp [exw, hw2]
        rw [hv]; clear hv
        go_enter Try.func23, Try.ntmps23
        go_wp2_with (first | (go_at_call 21; refine (refApply_ok _ _ _ _ hk _).mono ?_; rintro e w1 ⟨rfl, hb1⟩) | (go_at_call 46; refine (refnorm_c _ _ hb _).mono ?_; rintro e w' ⟨rfl, rfl⟩) | (go_at_call 56; refine (refnarrow_c _ _).mono ?_; rintro e w' ⟨rfl, rfl⟩))
        go_ret2
        exact ⟨rfl, hb1⟩
      | true =>
        have hw2 := nar_eq hb (v := opw 12 (nm n a) (nm n b) n) hw
        have ho : opw 12 (nm n a) (nm n b) n = tr (nm n a == nm n b) := rfl
        have hv : exw 12 a b n = ((tr (nm n a == nm n b)) == apw 12 a b n) := by rw [← ho]; unfold exw; rw [hw2]; simp [exops, hx, hy]; rfl
        rw [hv]; clear hv hw2 ho
        go_enter Try.func23, Try.ntmps23
        go_wp2_with (first | (go_at_call 21; refine (refApply_ok _ _ _ _ hk _).mono ?_; rintro e w1 ⟨rfl, hb1⟩) | (go_at_call 46; refine (refnorm_c _ _ hb _).mono ?_; rintro e w' ⟨rfl, rfl⟩) | (go_at_call 56; refine (refnarrow_c _ _).mono ?_; rintro e w' ⟨rfl, rfl⟩) | (go_at_call 51; refine (whole12 _ _ b1 b2 _).mono ?_; rintro e w' ⟨rfl, rfl⟩))
        go_ret2
        exact ⟨rfl, hb1⟩
set_option maxHeartbeats 400000 in
theorem refExact13 (a b n : Int) (hb : IsBits n) (w : World) :
    Calls Try.prog 23 #[.int .i64 (13), .int .i64 (a), .int .i64 (b), .int .i64 (n)] w fun e w' => e = .returned (.tuple #[.bool (exw 13 a b n), .int .i64 (0)]) ∧ Below w.heap.size w w' := by
  have b1 := nm_bd hb a
  have b2 := nm_bd hb b
  have hk : Okop 13 b n := ⟨hb, by omega, by omega, fun h => by omega⟩
  cases hx : nar (nm n a) with
  | false =>
    have hv : exw 13 a b n = false := by simp [exw, exops, hx]
    rw [hv]; clear hv
    go_enter Try.func23, Try.ntmps23
    go_wp2_with (first | (go_at_call 21; refine (refApply_ok _ _ _ _ hk _).mono ?_; rintro e w1 ⟨rfl, hb1⟩) | (go_at_call 46; refine (refnorm_c _ _ hb _).mono ?_; rintro e w' ⟨rfl, rfl⟩) | (go_at_call 56; refine (refnarrow_c _ _).mono ?_; rintro e w' ⟨rfl, rfl⟩))
    go_ret2
    exact ⟨rfl, hb1⟩
  | true =>
    cases hy : nar (nm n b) with
    | false =>
      have hv : exw 13 a b n = false := by simp [exw, exops, hy]
      rw [hv]; clear hv
      go_enter Try.func23, Try.ntmps23
      go_wp2_with (first | (go_at_call 21; refine (refApply_ok _ _ _ _ hk _).mono ?_; rintro e w1 ⟨rfl, hb1⟩) | (go_at_call 46; refine (refnorm_c _ _ hb _).mono ?_; rintro e w' ⟨rfl, rfl⟩) | (go_at_call 56; refine (refnarrow_c _ _).mono ?_; rintro e w' ⟨rfl, rfl⟩))
      go_ret2
      exact ⟨rfl, hb1⟩
    | true =>
      cases hw : nar (apw 13 a b n) with
      | false =>
        have hw2 := nar_of_w hb (v := opw 13 (nm n a) (nm n b) n) hw
        have hv : exw 13 a b n = false := by simp [exw, hw2]
        rw [hv]; clear hv
        go_enter Try.func23, Try.ntmps23
        go_wp2_with (first | (go_at_call 21; refine (refApply_ok _ _ _ _ hk _).mono ?_; rintro e w1 ⟨rfl, hb1⟩) | (go_at_call 46; refine (refnorm_c _ _ hb _).mono ?_; rintro e w' ⟨rfl, rfl⟩) | (go_at_call 56; refine (refnarrow_c _ _).mono ?_; rintro e w' ⟨rfl, rfl⟩))
        go_ret2
        exact ⟨rfl, hb1⟩
      | true =>
        have hw2 := nar_eq hb (v := opw 13 (nm n a) (nm n b) n) hw
        have ho : opw 13 (nm n a) (nm n b) n = tr (nm n a != nm n b) := rfl
        have hv : exw 13 a b n = ((tr (nm n a != nm n b)) == apw 13 a b n) := by rw [← ho]; unfold exw; rw [hw2]; simp [exops, hx, hy]; rfl
        rw [hv]; clear hv hw2 ho
        go_enter Try.func23, Try.ntmps23
        go_wp2_with (first | (go_at_call 21; refine (refApply_ok _ _ _ _ hk _).mono ?_; rintro e w1 ⟨rfl, hb1⟩) | (go_at_call 46; refine (refnorm_c _ _ hb _).mono ?_; rintro e w' ⟨rfl, rfl⟩) | (go_at_call 56; refine (refnarrow_c _ _).mono ?_; rintro e w' ⟨rfl, rfl⟩) | (go_at_call 51; refine (whole13 _ _ b1 b2 _).mono ?_; rintro e w' ⟨rfl, rfl⟩))
        go_ret2
        exact ⟨rfl, hb1⟩
set_option maxHeartbeats 400000 in
theorem refExact14 (a b n : Int) (hb : IsBits n) (w : World) :
    Calls Try.prog 23 #[.int .i64 (14), .int .i64 (a), .int .i64 (b), .int .i64 (n)] w fun e w' => e = .returned (.tuple #[.bool (exw 14 a b n), .int .i64 (0)]) ∧ Below w.heap.size w w' := by
  have b1 := nm_bd hb a
  have b2 := nm_bd hb b
  have hk : Okop 14 b n := ⟨hb, by omega, by omega, fun h => by omega⟩
  cases hx : nar (nm n a) with
  | false =>
    have hv : exw 14 a b n = false := by simp [exw, exops, hx]
    rw [hv]; clear hv
    go_enter Try.func23, Try.ntmps23
    go_wp2_with (first | (go_at_call 21; refine (refApply_ok _ _ _ _ hk _).mono ?_; rintro e w1 ⟨rfl, hb1⟩) | (go_at_call 46; refine (refnorm_c _ _ hb _).mono ?_; rintro e w' ⟨rfl, rfl⟩) | (go_at_call 56; refine (refnarrow_c _ _).mono ?_; rintro e w' ⟨rfl, rfl⟩))
    go_ret2
    exact ⟨rfl, hb1⟩
  | true =>
    cases hy : nar (nm n b) with
    | false =>
      have hv : exw 14 a b n = false := by simp [exw, exops, hy]
      rw [hv]; clear hv
      go_enter Try.func23, Try.ntmps23
      go_wp2_with (first | (go_at_call 21; refine (refApply_ok _ _ _ _ hk _).mono ?_; rintro e w1 ⟨rfl, hb1⟩) | (go_at_call 46; refine (refnorm_c _ _ hb _).mono ?_; rintro e w' ⟨rfl, rfl⟩) | (go_at_call 56; refine (refnarrow_c _ _).mono ?_; rintro e w' ⟨rfl, rfl⟩))
      go_ret2
      exact ⟨rfl, hb1⟩
    | true =>
      cases hw : nar (apw 14 a b n) with
      | false =>
        have hw2 := nar_of_w hb (v := opw 14 (nm n a) (nm n b) n) hw
        have hv : exw 14 a b n = false := by simp [exw, hw2]
        rw [hv]; clear hv
        go_enter Try.func23, Try.ntmps23
        go_wp2_with (first | (go_at_call 21; refine (refApply_ok _ _ _ _ hk _).mono ?_; rintro e w1 ⟨rfl, hb1⟩) | (go_at_call 46; refine (refnorm_c _ _ hb _).mono ?_; rintro e w' ⟨rfl, rfl⟩) | (go_at_call 56; refine (refnarrow_c _ _).mono ?_; rintro e w' ⟨rfl, rfl⟩))
        go_ret2
        exact ⟨rfl, hb1⟩
      | true =>
        have hw2 := nar_eq hb (v := opw 14 (nm n a) (nm n b) n) hw
        have ho : opw 14 (nm n a) (nm n b) n = tr (decide (nm n a < nm n b)) := rfl
        have hv : exw 14 a b n = ((tr (decide (nm n a < nm n b))) == apw 14 a b n) := by rw [← ho]; unfold exw; rw [hw2]; simp [exops, hx, hy]; rfl
        rw [hv]; clear hv hw2 ho
        go_enter Try.func23, Try.ntmps23
        go_wp2_with (first | (go_at_call 21; refine (refApply_ok _ _ _ _ hk _).mono ?_; rintro e w1 ⟨rfl, hb1⟩) | (go_at_call 46; refine (refnorm_c _ _ hb _).mono ?_; rintro e w' ⟨rfl, rfl⟩) | (go_at_call 56; refine (refnarrow_c _ _).mono ?_; rintro e w' ⟨rfl, rfl⟩) | (go_at_call 51; refine (whole14 _ _ b1 b2 _).mono ?_; rintro e w' ⟨rfl, rfl⟩))
        go_ret2
        exact ⟨rfl, hb1⟩
set_option maxHeartbeats 400000 in
theorem refExact15 (a b n : Int) (hb : IsBits n) (w : World) :
    Calls Try.prog 23 #[.int .i64 (15), .int .i64 (a), .int .i64 (b), .int .i64 (n)] w fun e w' => e = .returned (.tuple #[.bool (exw 15 a b n), .int .i64 (0)]) ∧ Below w.heap.size w w' := by
  have b1 := nm_bd hb a
  have b2 := nm_bd hb b
  have hk : Okop 15 b n := ⟨hb, by omega, by omega, fun h => by omega⟩
  cases hx : nar (nm n a) with
  | false =>
    have hv : exw 15 a b n = false := by simp [exw, exops, hx]
    rw [hv]; clear hv
    go_enter Try.func23, Try.ntmps23
    go_wp2_with (first | (go_at_call 21; refine (refApply_ok _ _ _ _ hk _).mono ?_; rintro e w1 ⟨rfl, hb1⟩) | (go_at_call 46; refine (refnorm_c _ _ hb _).mono ?_; rintro e w' ⟨rfl, rfl⟩) | (go_at_call 56; refine (refnarrow_c _ _).mono ?_; rintro e w' ⟨rfl, rfl⟩))
    go_ret2
    exact ⟨rfl, hb1⟩
  | true =>
    cases hy : nar (nm n b) with
    | false =>
      have hv : exw 15 a b n = false := by simp [exw, exops, hy]
      rw [hv]; clear hv
      go_enter Try.func23, Try.ntmps23
      go_wp2_with (first | (go_at_call 21; refine (refApply_ok _ _ _ _ hk _).mono ?_; rintro e w1 ⟨rfl, hb1⟩) | (go_at_call 46; refine (refnorm_c _ _ hb _).mono ?_; rintro e w' ⟨rfl, rfl⟩) | (go_at_call 56; refine (refnarrow_c _ _).mono ?_; rintro e w' ⟨rfl, rfl⟩))
      go_ret2
      exact ⟨rfl, hb1⟩
    | true =>
      cases hw : nar (apw 15 a b n) with
      | false =>
        have hw2 := nar_of_w hb (v := opw 15 (nm n a) (nm n b) n) hw
        have hv : exw 15 a b n = false := by simp [exw, hw2]
        rw [hv]; clear hv
        go_enter Try.func23, Try.ntmps23
        go_wp2_with (first | (go_at_call 21; refine (refApply_ok _ _ _ _ hk _).mono ?_; rintro e w1 ⟨rfl, hb1⟩) | (go_at_call 46; refine (refnorm_c _ _ hb _).mono ?_; rintro e w' ⟨rfl, rfl⟩) | (go_at_call 56; refine (refnarrow_c _ _).mono ?_; rintro e w' ⟨rfl, rfl⟩))
        go_ret2
        exact ⟨rfl, hb1⟩
      | true =>
        have hw2 := nar_eq hb (v := opw 15 (nm n a) (nm n b) n) hw
        have ho : opw 15 (nm n a) (nm n b) n = tr (decide (nm n a ≤ nm n b)) := rfl
        have hv : exw 15 a b n = ((tr (decide (nm n a ≤ nm n b))) == apw 15 a b n) := by rw [← ho]; unfold exw; rw [hw2]; simp [exops, hx, hy]; rfl
        rw [hv]; clear hv hw2 ho
        go_enter Try.func23, Try.ntmps23
        go_wp2_with (first | (go_at_call 21; refine (refApply_ok _ _ _ _ hk _).mono ?_; rintro e w1 ⟨rfl, hb1⟩) | (go_at_call 46; refine (refnorm_c _ _ hb _).mono ?_; rintro e w' ⟨rfl, rfl⟩) | (go_at_call 56; refine (refnarrow_c _ _).mono ?_; rintro e w' ⟨rfl, rfl⟩) | (go_at_call 51; refine (whole15 _ _ b1 b2 _).mono ?_; rintro e w' ⟨rfl, rfl⟩))
        go_ret2
        exact ⟨rfl, hb1⟩
set_option maxHeartbeats 400000 in
theorem refExact16 (a b n : Int) (hb : IsBits n) (w : World) :
    Calls Try.prog 23 #[.int .i64 (16), .int .i64 (a), .int .i64 (b), .int .i64 (n)] w fun e w' => e = .returned (.tuple #[.bool (exw 16 a b n), .int .i64 (0)]) ∧ Below w.heap.size w w' := by
  have b1 := nm_bd hb a
  have b2 := nm_bd hb b
  have hk : Okop 16 b n := ⟨hb, by omega, by omega, fun h => by omega⟩
  cases hx : nar (nm n a) with
  | false =>
    have hv : exw 16 a b n = false := by simp [exw, exops, hx]
    rw [hv]; clear hv
    go_enter Try.func23, Try.ntmps23
    go_wp2_with (first | (go_at_call 21; refine (refApply_ok _ _ _ _ hk _).mono ?_; rintro e w1 ⟨rfl, hb1⟩) | (go_at_call 46; refine (refnorm_c _ _ hb _).mono ?_; rintro e w' ⟨rfl, rfl⟩) | (go_at_call 56; refine (refnarrow_c _ _).mono ?_; rintro e w' ⟨rfl, rfl⟩))
    go_ret2
    exact ⟨rfl, hb1⟩
  | true =>
    cases hy : nar (nm n b) with
    | false =>
      have hv : exw 16 a b n = false := by simp [exw, exops, hy]
      rw [hv]; clear hv
      go_enter Try.func23, Try.ntmps23
      go_wp2_with (first | (go_at_call 21; refine (refApply_ok _ _ _ _ hk _).mono ?_; rintro e w1 ⟨rfl, hb1⟩) | (go_at_call 46; refine (refnorm_c _ _ hb _).mono ?_; rintro e w' ⟨rfl, rfl⟩) | (go_at_call 56; refine (refnarrow_c _ _).mono ?_; rintro e w' ⟨rfl, rfl⟩))
      go_ret2
      exact ⟨rfl, hb1⟩
    | true =>
      cases hw : nar (apw 16 a b n) with
      | false =>
        have hw2 := nar_of_w hb (v := opw 16 (nm n a) (nm n b) n) hw
        have hv : exw 16 a b n = false := by simp [exw, hw2]
        rw [hv]; clear hv
        go_enter Try.func23, Try.ntmps23
        go_wp2_with (first | (go_at_call 21; refine (refApply_ok _ _ _ _ hk _).mono ?_; rintro e w1 ⟨rfl, hb1⟩) | (go_at_call 46; refine (refnorm_c _ _ hb _).mono ?_; rintro e w' ⟨rfl, rfl⟩) | (go_at_call 56; refine (refnarrow_c _ _).mono ?_; rintro e w' ⟨rfl, rfl⟩))
        go_ret2
        exact ⟨rfl, hb1⟩
      | true =>
        have hw2 := nar_eq hb (v := opw 16 (nm n a) (nm n b) n) hw
        have ho : opw 16 (nm n a) (nm n b) n = tr (decide (nm n b < nm n a)) := rfl
        have hv : exw 16 a b n = ((tr (decide (nm n b < nm n a))) == apw 16 a b n) := by rw [← ho]; unfold exw; rw [hw2]; simp [exops, hx, hy]; rfl
        rw [hv]; clear hv hw2 ho
        go_enter Try.func23, Try.ntmps23
        go_wp2_with (first | (go_at_call 21; refine (refApply_ok _ _ _ _ hk _).mono ?_; rintro e w1 ⟨rfl, hb1⟩) | (go_at_call 46; refine (refnorm_c _ _ hb _).mono ?_; rintro e w' ⟨rfl, rfl⟩) | (go_at_call 56; refine (refnarrow_c _ _).mono ?_; rintro e w' ⟨rfl, rfl⟩) | (go_at_call 51; refine (whole16 _ _ b1 b2 _).mono ?_; rintro e w' ⟨rfl, rfl⟩))
        go_ret2
        exact ⟨rfl, hb1⟩
set_option maxHeartbeats 400000 in
theorem refExact17 (a b n : Int) (hb : IsBits n) (w : World) :
    Calls Try.prog 23 #[.int .i64 (17), .int .i64 (a), .int .i64 (b), .int .i64 (n)] w fun e w' => e = .returned (.tuple #[.bool (exw 17 a b n), .int .i64 (0)]) ∧ Below w.heap.size w w' := by
  have b1 := nm_bd hb a
  have b2 := nm_bd hb b
  have hk : Okop 17 b n := ⟨hb, by omega, by omega, fun h => by omega⟩
  cases hx : nar (nm n a) with
  | false =>
    have hv : exw 17 a b n = false := by simp [exw, exops, hx]
    rw [hv]; clear hv
    go_enter Try.func23, Try.ntmps23
    go_wp2_with (first | (go_at_call 21; refine (refApply_ok _ _ _ _ hk _).mono ?_; rintro e w1 ⟨rfl, hb1⟩) | (go_at_call 46; refine (refnorm_c _ _ hb _).mono ?_; rintro e w' ⟨rfl, rfl⟩) | (go_at_call 56; refine (refnarrow_c _ _).mono ?_; rintro e w' ⟨rfl, rfl⟩))
    go_ret2
    exact ⟨rfl, hb1⟩
  | true =>
    cases hy : nar (nm n b) with
    | false =>
      have hv : exw 17 a b n = false := by simp [exw, exops, hy]
      rw [hv]; clear hv
      go_enter Try.func23, Try.ntmps23
      go_wp2_with (first | (go_at_call 21; refine (refApply_ok _ _ _ _ hk _).mono ?_; rintro e w1 ⟨rfl, hb1⟩) | (go_at_call 46; refine (refnorm_c _ _ hb _).mono ?_; rintro e w' ⟨rfl, rfl⟩) | (go_at_call 56; refine (refnarrow_c _ _).mono ?_; rintro e w' ⟨rfl, rfl⟩))
      go_ret2
      exact ⟨rfl, hb1⟩
    | true =>
      cases hw : nar (apw 17 a b n) with
      | false =>
        have hw2 := nar_of_w hb (v := opw 17 (nm n a) (nm n b) n) hw
        have hv : exw 17 a b n = false := by simp [exw, hw2]
        rw [hv]; clear hv
        go_enter Try.func23, Try.ntmps23
        go_wp2_with (first | (go_at_call 21; refine (refApply_ok _ _ _ _ hk _).mono ?_; rintro e w1 ⟨rfl, hb1⟩) | (go_at_call 46; refine (refnorm_c _ _ hb _).mono ?_; rintro e w' ⟨rfl, rfl⟩) | (go_at_call 56; refine (refnarrow_c _ _).mono ?_; rintro e w' ⟨rfl, rfl⟩))
        go_ret2
        exact ⟨rfl, hb1⟩
      | true =>
        have hw2 := nar_eq hb (v := opw 17 (nm n a) (nm n b) n) hw
        have ho : opw 17 (nm n a) (nm n b) n = tr (decide (nm n b ≤ nm n a)) := rfl
        have hv : exw 17 a b n = ((tr (decide (nm n b ≤ nm n a))) == apw 17 a b n) := by rw [← ho]; unfold exw; rw [hw2]; simp [exops, hx, hy]; rfl
        rw [hv]; clear hv hw2 ho
        go_enter Try.func23, Try.ntmps23
        go_wp2_with (first | (go_at_call 21; refine (refApply_ok _ _ _ _ hk _).mono ?_; rintro e w1 ⟨rfl, hb1⟩) | (go_at_call 46; refine (refnorm_c _ _ hb _).mono ?_; rintro e w' ⟨rfl, rfl⟩) | (go_at_call 56; refine (refnarrow_c _ _).mono ?_; rintro e w' ⟨rfl, rfl⟩) | (go_at_call 51; refine (whole17 _ _ b1 b2 _).mono ?_; rintro e w' ⟨rfl, rfl⟩))
        go_ret2
        exact ⟨rfl, hb1⟩
set_option maxHeartbeats 400000 in
theorem refExact18 (a b n : Int) (hb : IsBits n) (w : World) :
    Calls Try.prog 23 #[.int .i64 (18), .int .i64 (a), .int .i64 (b), .int .i64 (n)] w fun e w' => e = .returned (.tuple #[.bool (exw 18 a b n), .int .i64 (0)]) ∧ Below w.heap.size w w' := by
  have b1 := nm_bd hb a
  have b2 := nm_bd hb b
  have hk : Okop 18 b n := ⟨hb, by omega, by omega, fun h => by omega⟩
  cases hx : nar (nm n a) with
  | false =>
    have hv : exw 18 a b n = false := by simp [exw, exops, hx]
    rw [hv]; clear hv
    go_enter Try.func23, Try.ntmps23
    go_wp2_with (first | (go_at_call 21; refine (refApply_ok _ _ _ _ hk _).mono ?_; rintro e w1 ⟨rfl, hb1⟩) | (go_at_call 46; refine (refnorm_c _ _ hb _).mono ?_; rintro e w' ⟨rfl, rfl⟩) | (go_at_call 56; refine (refnarrow_c _ _).mono ?_; rintro e w' ⟨rfl, rfl⟩))
    go_ret2
    exact ⟨rfl, hb1⟩
  | true =>
    cases hw : nar (apw 18 a b n) with
    | false =>
      have hw2 := nar_of_w hb (v := opw 18 (nm n a) (nm n b) n) hw
      have hv : exw 18 a b n = false := by simp [exw, hw2]
      rw [hv]; clear hv
      go_enter Try.func23, Try.ntmps23
      go_wp2_with (first | (go_at_call 21; refine (refApply_ok _ _ _ _ hk _).mono ?_; rintro e w1 ⟨rfl, hb1⟩) | (go_at_call 46; refine (refnorm_c _ _ hb _).mono ?_; rintro e w' ⟨rfl, rfl⟩) | (go_at_call 56; refine (refnarrow_c _ _).mono ?_; rintro e w' ⟨rfl, rfl⟩))
      go_ret2
      exact ⟨rfl, hb1⟩
    | true =>
      have hw2 := nar_eq hb (v := opw 18 (nm n a) (nm n b) n) hw
      have ho : opw 18 (nm n a) (nm n b) n = -(nm n a) := rfl
      have hv : exw 18 a b n = ((-(nm n a)) == apw 18 a b n) := by rw [← ho]; unfold exw; rw [hw2]; simp [exops, hx]; rfl
      rw [hv]; clear hv hw2 ho
      go_enter Try.func23, Try.ntmps23
      go_wp2_with (first | (go_at_call 21; refine (refApply_ok _ _ _ _ hk _).mono ?_; rintro e w1 ⟨rfl, hb1⟩) | (go_at_call 46; refine (refnorm_c _ _ hb _).mono ?_; rintro e w' ⟨rfl, rfl⟩) | (go_at_call 56; refine (refnarrow_c _ _).mono ?_; rintro e w' ⟨rfl, rfl⟩) | (go_at_call 51; refine (whole18 _ _ b1 b2 _).mono ?_; rintro e w' ⟨rfl, rfl⟩))
      go_ret2
      exact ⟨rfl, hb1⟩
set_option maxHeartbeats 400000 in
theorem refExact19 (a b n : Int) (hb : IsBits n) (w : World) :
    Calls Try.prog 23 #[.int .i64 (19), .int .i64 (a), .int .i64 (b), .int .i64 (n)] w fun e w' => e = .returned (.tuple #[.bool (exw 19 a b n), .int .i64 (0)]) ∧ Below w.heap.size w w' := by
  have b1 := nm_bd hb a
  have b2 := nm_bd hb b
  have hk : Okop 19 b n := ⟨hb, by omega, by omega, fun h => by omega⟩
  cases hx : nar (nm n a) with
  | false =>
    have hv : exw 19 a b n = false := by simp [exw, exops, hx]
    rw [hv]; clear hv
    go_enter Try.func23, Try.ntmps23
    go_wp2_with (first | (go_at_call 21; refine (refApply_ok _ _ _ _ hk _).mono ?_; rintro e w1 ⟨rfl, hb1⟩) | (go_at_call 46; refine (refnorm_c _ _ hb _).mono ?_; rintro e w' ⟨rfl, rfl⟩) | (go_at_call 56; refine (refnarrow_c _ _).mono ?_; rintro e w' ⟨rfl, rfl⟩))
    go_ret2
    exact ⟨rfl, hb1⟩
  | true =>
    cases hw : nar (apw 19 a b n) with
    | false =>
      have hw2 := nar_of_w hb (v := opw 19 (nm n a) (nm n b) n) hw
      have hv : exw 19 a b n = false := by simp [exw, hw2]
      rw [hv]; clear hv
      go_enter Try.func23, Try.ntmps23
      go_wp2_with (first | (go_at_call 21; refine (refApply_ok _ _ _ _ hk _).mono ?_; rintro e w1 ⟨rfl, hb1⟩) | (go_at_call 46; refine (refnorm_c _ _ hb _).mono ?_; rintro e w' ⟨rfl, rfl⟩) | (go_at_call 56; refine (refnarrow_c _ _).mono ?_; rintro e w' ⟨rfl, rfl⟩))
      go_ret2
      exact ⟨rfl, hb1⟩
    | true =>
      have hw2 := nar_eq hb (v := opw 19 (nm n a) (nm n b) n) hw
      have ho : opw 19 (nm n a) (nm n b) n = -(nm n a) - 1 := not_plain _ b1
      have hv : exw 19 a b n = ((-(nm n a) - 1) == apw 19 a b n) := by rw [← ho]; unfold exw; rw [hw2]; simp [exops, hx]; rfl
      rw [hv]; clear hv hw2 ho
      go_enter Try.func23, Try.ntmps23
      go_wp2_with (first | (go_at_call 21; refine (refApply_ok _ _ _ _ hk _).mono ?_; rintro e w1 ⟨rfl, hb1⟩) | (go_at_call 46; refine (refnorm_c _ _ hb _).mono ?_; rintro e w' ⟨rfl, rfl⟩) | (go_at_call 56; refine (refnarrow_c _ _).mono ?_; rintro e w' ⟨rfl, rfl⟩) | (go_at_call 51; refine (whole19 _ _ b1 b2 _).mono ?_; rintro e w' ⟨rfl, rfl⟩))
      go_ret2
      exact ⟨rfl, hb1⟩
theorem refExact_ok (op a b n : Int) (hk : Okop op b n) (w : World) :
    Calls Try.prog 23 #[.int .i64 (op), .int .i64 (a), .int .i64 (b), .int .i64 (n)] w fun e w' => e = .returned (.tuple #[.bool (exw op a b n), .int .i64 (0)]) ∧ Below w.heap.size w w' := by
  obtain ⟨hb, h1, h2, h3⟩ := hk
  have hc : op = 1 ∨ op = 2 ∨ op = 3 ∨ op = 4 ∨ op = 5 ∨ op = 6 ∨ op = 7 ∨ op = 8 ∨ op = 9 ∨ op = 10 ∨ op = 11 ∨ op = 12 ∨ op = 13 ∨ op = 14 ∨ op = 15 ∨ op = 16 ∨ op = 17 ∨ op = 18 ∨ op = 19 := by omega
  rcases hc with rfl | rfl | rfl | rfl | rfl | rfl | rfl | rfl | rfl | rfl | rfl | rfl | rfl | rfl | rfl | rfl | rfl | rfl | rfl
  · exact refExact1 a b n hb w
  · exact refExact2 a b n hb (h3 (by omega)) w
  · exact refExact3 a b n hb (h3 (by omega)) w
  · exact refExact4 a b n hb w
  · exact refExact5 a b n hb w
  · exact refExact6 a b n hb w
  · exact refExact7 a b n hb w
  · exact refExact8 a b n hb w
  · exact refExact9 a b n hb w
  · exact refExact10 a b n hb w
  · exact refExact11 a b n hb w
  · exact refExact12 a b n hb w
  · exact refExact13 a b n hb w
  · exact refExact14 a b n hb w
  · exact refExact15 a b n hb w
  · exact refExact16 a b n hb w
  · exact refExact17 a b n hb w
  · exact refExact18 a b n hb w
  · exact refExact19 a b n hb w
end Go.Proofs.Ytmhifelkihcidaa
