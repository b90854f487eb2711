/- Apply, Norm, Unsigned, Valid and MulDiv of package word, and of its reference, each by its contract. -/
import Derived.Test.YtmhifelkihcidaaWOps
import Derived.BigQuiet
namespace Go.Proofs.Ytmhifelkihcidaa
open Go.RowKit WM

theorem isB_no {n : Int} (h : ¬ IsBits n) : (n == 16) = false ∧ (n == 24) = false ∧ (n == 32) = false := by
  unfold IsBits at h
  exact ⟨beq_eq_false_iff_ne.2 (by omega), beq_eq_false_iff_ne.2 (by omega), beq_eq_false_iff_ne.2 (by omega)⟩
theorem validBits_yes (n : Int) (hb : IsBits n) (w : World) :
    Calls Try.prog 44 #[.int .i64 n] w fun e w' => e = .returned (.bool true) ∧ w = w' := by
  rcases hb with rfl | rfl | rfl
  all_goals
    go_enter Try.func44, Try.ntmps44
    go_wp2
    go_ret
    exact ⟨rfl, rfl⟩
theorem validBits_no (n : Int) (hb : ¬ IsBits n) (w : World) :
    Calls Try.prog 44 #[.int .i64 n] w fun e w' => e = .returned (.bool false) ∧ w = w' := by
  obtain ⟨h1, h2, h3⟩ := isB_no hb
  go_enter Try.func44, Try.ntmps44
  go_wp2
  go_ret
  exact ⟨rfl, rfl⟩
theorem refBits_yes (n : Int) (hb : IsBits n) (w : World) :
    Calls Try.prog 18 #[.int .i64 n] w fun e w' => e = .returned (.bool true) ∧ w = w' := by
  rcases hb with rfl | rfl | rfl
  all_goals
    go_enter Try.func18, Try.ntmps18
    go_wp2
    go_ret
    exact ⟨rfl, rfl⟩
theorem refBits_no (n : Int) (hb : ¬ IsBits n) (w : World) :
    Calls Try.prog 18 #[.int .i64 n] w fun e w' => e = .returned (.bool false) ∧ w = w' := by
  obtain ⟨h1, h2, h3⟩ := isB_no hb
  go_enter Try.func18, Try.ntmps18
  go_wp2
  go_ret
  exact ⟨rfl, rfl⟩
set_option maxHeartbeats 400000 in
theorem refuns_c (v n : Int) (hb : IsBits n) (w : World) :
    Calls Try.prog 48 #[.int .i64 (v), .int .i64 (n)] w fun e w' => e = .returned (.int .i64 (un n v)) ∧ w = w' := by
  have b1 := nm_bd hb v
  rw [un_of_nm hb]
  have hp := p2_pos n
  have hn : 0 ≤ n ∧ n ≤ 32 := by rcases hb with rfl | rfl | rfl <;> omega
  obtain ⟨hn1, hn2⟩ := hn
  have hq : P2 n ≤ 4294967296 := p2_mono hn2
  by_cases c : nm n v < 0
  · rw [if_pos c]
    go_enter Try.func48, Try.ntmps48
    go_wp2_with (first | (go_at_call 46; refine (refnorm_c _ _ hb _).mono ?_; rintro e w' ⟨rfl, rfl⟩) | (go_at_call 57; refine (power_c _ (by omega) (by omega) _).mono ?_; rintro e w' ⟨rfl, rfl⟩))
    go_ret
    exact ⟨rfl, rfl⟩
  · rw [if_neg c]
    go_enter Try.func48, Try.ntmps48
    go_wp2_with (first | (go_at_call 46; refine (refnorm_c _ _ hb _).mono ?_; rintro e w' ⟨rfl, rfl⟩))
    go_ret
    exact ⟨rfl, rfl⟩
set_option maxHeartbeats 400000 in
theorem refWord_c (v n : Int) (hb : IsBits n) (w : World) :
    Calls Try.prog 40 #[.int .i64 (v), .int .i64 (n)] w fun e w' => e = .returned (.int .i64 (nm n v)) ∧ w = w' := by
  go_enter Try.func40, Try.ntmps40
  go_wp2_with (first | (go_at_call 46; refine (refnorm_c _ _ hb _).mono ?_; rintro e w' ⟨rfl, rfl⟩))
  go_ret
  exact ⟨rfl, rfl⟩
set_option maxHeartbeats 400000 in
theorem Norm_yes (v n : Int) (hb : IsBits n) (w : World) :
    Calls Try.prog 13 #[.int .i64 (v), .int .i64 (n)] w fun e w' => e = .returned (.tuple #[.int .i64 (nm n v), .int .i64 (0)]) ∧ w = w' := by
  go_enter Try.func13, Try.ntmps13
  go_wp2_with (first | (go_at_call 44; refine (validBits_yes _ hb _).mono ?_; rintro e w' ⟨rfl, rfl⟩) | (go_at_call 45; refine (norm_c _ _ hb _).mono ?_; rintro e w' ⟨rfl, rfl⟩))
  go_ret2
  exact ⟨rfl, rfl⟩
set_option maxHeartbeats 400000 in
theorem Norm_no (v n : Int) (hb : ¬ IsBits n) (w : World) :
    Calls Try.prog 13 #[.int .i64 (v), .int .i64 (n)] w fun e w' => e = .returned (.tuple #[.int .i64 (0), .int .i64 (3)]) ∧ w = w' := by
  go_enter Try.func13, Try.ntmps13
  go_wp2_with (first | (go_at_call 44; refine (validBits_no _ hb _).mono ?_; rintro e w' ⟨rfl, rfl⟩))
  go_ret2
  exact ⟨rfl, rfl⟩
set_option maxHeartbeats 400000 in
theorem Unsigned_yes (v n : Int) (hb : IsBits n) (w : World) :
    Calls Try.prog 15 #[.int .i64 (v), .int .i64 (n)] w fun e w' => e = .returned (.tuple #[.int .i64 (un n v), .int .i64 (0)]) ∧ w = w' := by
  go_enter Try.func15, Try.ntmps15
  go_wp2_with (first | (go_at_call 44; refine (validBits_yes _ hb _).mono ?_; rintro e w' ⟨rfl, rfl⟩) | (go_at_call 47; refine (unsigned_c _ _ hb _).mono ?_; rintro e w' ⟨rfl, rfl⟩))
  go_ret2
  exact ⟨rfl, rfl⟩
set_option maxHeartbeats 400000 in
theorem Unsigned_no (v n : Int) (hb : ¬ IsBits n) (w : World) :
    Calls Try.prog 15 #[.int .i64 (v), .int .i64 (n)] w fun e w' => e = .returned (.tuple #[.int .i64 (0), .int .i64 (3)]) ∧ w = w' := by
  go_enter Try.func15, Try.ntmps15
  go_wp2_with (first | (go_at_call 44; refine (validBits_no _ hb _).mono ?_; rintro e w' ⟨rfl, rfl⟩))
  go_ret2
  exact ⟨rfl, rfl⟩
set_option maxHeartbeats 400000 in
theorem refNorm_yes (v n : Int) (hb : IsBits n) (w : World) :
    Calls Try.prog 14 #[.int .i64 (v), .int .i64 (n)] w fun e w' => e = .returned (.tuple #[.int .i64 (nm n v), .int .i64 (0)]) ∧ w = w' := by
  go_enter Try.func14, Try.ntmps14
  go_wp2_with (first | (go_at_call 18; refine (refBits_yes _ hb _).mono ?_; rintro e w' ⟨rfl, rfl⟩) | (go_at_call 46; refine (refnorm_c _ _ hb _).mono ?_; rintro e w' ⟨rfl, rfl⟩))
  go_ret2
  exact ⟨rfl, rfl⟩
set_option maxHeartbeats 400000 in
theorem refNorm_no (v n : Int) (hb : ¬ IsBits n) (w : World) :
    Calls Try.prog 14 #[.int .i64 (v), .int .i64 (n)] w fun e w' => e = .returned (.tuple #[.int .i64 (0), .int .i64 (3)]) ∧ w = w' := by
  go_enter Try.func14, Try.ntmps14
  go_wp2_with (first | (go_at_call 18; refine (refBits_no _ hb _).mono ?_; rintro e w' ⟨rfl, rfl⟩))
  go_ret2
  exact ⟨rfl, rfl⟩
set_option maxHeartbeats 400000 in
theorem refUnsigned_yes (v n : Int) (hb : IsBits n) (w : World) :
    Calls Try.prog 16 #[.int .i64 (v), .int .i64 (n)] w fun e w' => e = .returned (.tuple #[.int .i64 (un n v), .int .i64 (0)]) ∧ w = w' := by
  go_enter Try.func16, Try.ntmps16
  go_wp2_with (first | (go_at_call 18; refine (refBits_yes _ hb _).mono ?_; rintro e w' ⟨rfl, rfl⟩) | (go_at_call 48; refine (refuns_c _ _ hb _).mono ?_; rintro e w' ⟨rfl, rfl⟩))
  go_ret2
  exact ⟨rfl, rfl⟩
set_option maxHeartbeats 400000 in
theorem refUnsigned_no (v n : Int) (hb : ¬ IsBits n) (w : World) :
    Calls Try.prog 16 #[.int .i64 (v), .int .i64 (n)] w fun e w' => e = .returned (.tuple #[.int .i64 (0), .int .i64 (3)]) ∧ w = w' := by
  go_enter Try.func16, Try.ntmps16
  go_wp2_with (first | (go_at_call 18; refine (refBits_no _ hb _).mono ?_; rintro e w' ⟨rfl, rfl⟩))
  go_ret2
  exact ⟨rfl, rfl⟩
set_option maxHeartbeats 400000 in
theorem Valid_yes (n : Int) (g : Bool) (hb : IsBits n) (w : World) :
    Calls Try.prog 17 #[.agg #[.int .i64 n, .bool g]] w fun e w' => e = .returned (.bool true) ∧ Below w.heap.size w w' := by
  go_enter Try.func17, Try.ntmps17
  go_wp2_with (first | (go_at_call 44; refine (validBits_yes _ hb _).mono ?_; rintro e w' ⟨rfl, rfl⟩))
  go_ret
  exact ⟨rfl, (Below.refl _ _).alloc (Nat.le_refl _) _⟩
set_option maxHeartbeats 400000 in
theorem Valid_no (n : Int) (g : Bool) (hb : ¬ IsBits n) (w : World) :
    Calls Try.prog 17 #[.agg #[.int .i64 n, .bool g]] w fun e w' => e = .returned (.bool false) ∧ Below w.heap.size w w' := by
  go_enter Try.func17, Try.ntmps17
  go_wp2_with (first | (go_at_call 44; refine (validBits_no _ hb _).mono ?_; rintro e w' ⟨rfl, rfl⟩))
  go_ret
  exact ⟨rfl, (Below.refl _ _).alloc (Nat.le_refl _) _⟩
set_option maxHeartbeats 400000 in
theorem check_form (op b n : Int) (hb : ¬ IsBits n) (w : World) :
    Calls Try.prog 49 #[.int .i64 (op), .int .i64 (b), .int .i64 (n)] w fun e w' => e = .returned (.int .i64 (3)) ∧ w = w' := by
  go_enter Try.func49, Try.ntmps49
  go_wp2_with (first | (go_at_call 44; refine (validBits_no _ hb _).mono ?_; rintro e w' ⟨rfl, rfl⟩))
  go_ret
  exact ⟨rfl, rfl⟩
set_option maxHeartbeats 400000 in
theorem check_range (op b n : Int) (hb : IsBits n) (ho : op < 1 ∨ 19 < op) (w : World) :
    Calls Try.prog 49 #[.int .i64 (op), .int .i64 (b), .int .i64 (n)] w fun e w' => e = .returned (.int .i64 (1)) ∧ w = w' := by
  rcases ho with ho | ho
  · go_enter Try.func49, Try.ntmps49
    go_wp2_with (first | (go_at_call 44; refine (validBits_yes _ hb _).mono ?_; rintro e w' ⟨rfl, rfl⟩))
    go_ret
    exact ⟨rfl, rfl⟩
  · have h1 : ¬ op < 1 := by omega
    go_enter Try.func49, Try.ntmps49
    go_wp2_with (first | (go_at_call 44; refine (validBits_yes _ hb _).mono ?_; rintro e w' ⟨rfl, rfl⟩))
    go_ret
    exact ⟨rfl, rfl⟩
set_option maxHeartbeats 400000 in
theorem check_zero (op b n : Int) (hb : IsBits n) (ho : op = 2 ∨ op = 3) (hz : nm n b = 0) (w : World) :
    Calls Try.prog 49 #[.int .i64 (op), .int .i64 (b), .int .i64 (n)] w fun e w' => e = .returned (.int .i64 (10)) ∧ w = w' := by
  have hz' : (nm n b == 0) = true := beq_iff_eq.2 hz
  clear hz
  rcases ho with rfl | rfl
  all_goals
    go_enter Try.func49, Try.ntmps49
    go_wp2_with (first | (go_at_call 44; refine (validBits_yes _ hb _).mono ?_; rintro e w' ⟨rfl, rfl⟩) | (go_at_call 45; refine (norm_c _ _ hb _).mono ?_; rintro e w' ⟨rfl, rfl⟩))
    go_ret
    exact ⟨rfl, rfl⟩
set_option maxHeartbeats 400000 in
theorem check_div (op b n : Int) (hb : IsBits n) (ho : op = 2 ∨ op = 3) (hz : nm n b ≠ 0) (w : World) :
    Calls Try.prog 49 #[.int .i64 (op), .int .i64 (b), .int .i64 (n)] w fun e w' => e = .returned (.int .i64 (0)) ∧ w = w' := by
  have hz' : (nm n b == 0) = false := beq_eq_false_iff_ne.2 hz
  clear hz
  rcases ho with rfl | rfl
  all_goals
    go_enter Try.func49, Try.ntmps49
    go_wp2_with (first | (go_at_call 44; refine (validBits_yes _ hb _).mono ?_; rintro e w' ⟨rfl, rfl⟩) | (go_at_call 45; refine (norm_c _ _ hb _).mono ?_; rintro e w' ⟨rfl, rfl⟩))
    go_ret
    exact ⟨rfl, rfl⟩
set_option maxHeartbeats 400000 in
theorem check_other (op b n : Int) (hb : IsBits n) (h1 : 1 ≤ op) (h2 : op ≤ 19) (ho : ¬ (op = 2 ∨ op = 3)) (w : World) :
    Calls Try.prog 49 #[.int .i64 (op), .int .i64 (b), .int .i64 (n)] w fun e w' => e = .returned (.int .i64 (0)) ∧ w = w' := by
  have e1 : (op == 2) = false := beq_eq_false_iff_ne.2 (by omega)
  have e2 : (op == 3) = false := beq_eq_false_iff_ne.2 (by omega)
  have e3 : ¬ op < 1 := by omega
  have e4 : ¬ 19 < op := by omega
  clear ho h1 h2
  go_enter Try.func49, Try.ntmps49
  go_wp2_with (first | (go_at_call 44; refine (validBits_yes _ hb _).mono ?_; rintro e w' ⟨rfl, rfl⟩))
  go_ret
  exact ⟨rfl, rfl⟩
/-- an operator and its operands with a result -/
def Okop (op b n : Int) : Prop := IsBits n ∧ 1 ≤ op ∧ op ≤ 19 ∧ ((op = 2 ∨ op = 3) → nm n b ≠ 0)
theorem check_ok (op b n : Int) (hk : Okop op b n) (w : World) :
    Calls Try.prog 49 #[.int .i64 (op), .int .i64 (b), .int .i64 (n)] w fun e w' => e = .returned (.int .i64 (0)) ∧ w = w' := by
  obtain ⟨hb, h1, h2, h3⟩ := hk
  by_cases ho : op = 2 ∨ op = 3
  · exact check_div op b n hb ho (h3 ho) w
  · exact check_other op b n hb h1 h2 ho w
theorem result_c (op a b n : Int) (hk : Okop op b n) (w : World) :
    Calls Try.prog 50 #[.int .i64 (op), .int .i64 (a), .int .i64 (b), .int .i64 (n)] w fun e w' => e = .returned (.int .i64 (opw op (nm n a) (nm n b) n)) ∧ Below w.heap.size w w' := by
  obtain ⟨hb, h1, h2, h3⟩ := hk
  have hc : op = 1 ∨ op = 2 ∨ op = 3 ∨ op = 4 ∨ op = 5 ∨ op = 6 ∨ op = 7 ∨ op = 8 ∨ op = 9 ∨ op = 10 ∨ op = 11 ∨ op = 12 ∨ op = 13 ∨ op = 14 ∨ op = 15 ∨ op = 16 ∨ op = 17 ∨ op = 18 ∨ op = 19 := by omega
  rcases hc with rfl | rfl | rfl | rfl | rfl | rfl | rfl | rfl | rfl | rfl | rfl | rfl | rfl | rfl | rfl | rfl | rfl | rfl | rfl
  · exact result1 a b n hb w
  · exact result2 a b n hb (h3 (by omega)) w
  · exact result3 a b n hb (h3 (by omega)) w
  · exact result4 a b n hb w
  · exact result5 a b n hb w
  · exact result6 a b n hb w
  · exact result7 a b n hb w
  · exact result8 a b n hb w
  · exact result9 a b n hb w
  · exact result10 a b n hb w
  · exact result11 a b n hb w
  · exact result12 a b n hb w
  · exact result13 a b n hb w
  · exact result14 a b n hb w
  · exact result15 a b n hb w
  · exact result16 a b n hb w
  · exact result17 a b n hb w
  · exact result18 a b n hb w
  · exact result19 a b n hb w
set_option maxHeartbeats 400000 in
theorem Apply_ok (op a b n : Int) (hk : Okop op b n) (w : World) :
    Calls Try.prog 20 #[.int .i64 (op), .int .i64 (a), .int .i64 (b), .int .i64 (n)] w fun e w' => e = .returned (.tuple #[.int .i64 (apw op a b n), .int .i64 (0)]) ∧ Below w.heap.size w w' := by
  have hb : IsBits n := hk.1
  go_enter Try.func20, Try.ntmps20
  go_wp2_with (first | (go_at_call 49; refine (check_ok _ _ _ hk _).mono ?_; rintro e w' ⟨rfl, rfl⟩) | (go_at_call 50; refine (result_c _ _ _ _ hk _).mono ?_; rintro e w1 ⟨rfl, hb1⟩) | (go_at_call 45; refine (norm_c _ _ hb _).mono ?_; rintro e w' ⟨rfl, rfl⟩))
  go_ret2
  exact ⟨rfl, hb1⟩
set_option maxHeartbeats 400000 in
theorem Apply_form (op a b n : Int) (hb : ¬ IsBits n) (w : World) :
    Calls Try.prog 20 #[.int .i64 (op), .int .i64 (a), .int .i64 (b), .int .i64 (n)] w fun e w' => e = .returned (.tuple #[.int .i64 (0), .int .i64 (3)]) ∧ w = w' := by
  go_enter Try.func20, Try.ntmps20
  go_wp2_with (first | (go_at_call 49; refine (check_form _ _ _ hb _).mono ?_; rintro e w' ⟨rfl, rfl⟩))
  go_ret2
  exact ⟨rfl, rfl⟩
set_option maxHeartbeats 400000 in
theorem Apply_range (op a b n : Int) (hb : IsBits n) (ho : op < 1 ∨ 19 < op) (w : World) :
    Calls Try.prog 20 #[.int .i64 (op), .int .i64 (a), .int .i64 (b), .int .i64 (n)] w fun e w' => e = .returned (.tuple #[.int .i64 (0), .int .i64 (1)]) ∧ w = w' := by
  go_enter Try.func20, Try.ntmps20
  go_wp2_with (first | (go_at_call 49; refine (check_range _ _ _ hb ho _).mono ?_; rintro e w' ⟨rfl, rfl⟩))
  go_ret2
  exact ⟨rfl, rfl⟩
set_option maxHeartbeats 400000 in
theorem Apply_zero (op a b n : Int) (hb : IsBits n) (ho : op = 2 ∨ op = 3) (hz : nm n b = 0) (w : World) :
    Calls Try.prog 20 #[.int .i64 (op), .int .i64 (a), .int .i64 (b), .int .i64 (n)] w fun e w' => e = .returned (.tuple #[.int .i64 (0), .int .i64 (10)]) ∧ w = w' := by
  go_enter Try.func20, Try.ntmps20
  go_wp2_with (first | (go_at_call 49; refine (check_zero _ _ _ hb ho hz _).mono ?_; rintro e w' ⟨rfl, rfl⟩))
  go_ret2
  exact ⟨rfl, rfl⟩
end Go.Proofs.Ytmhifelkihcidaa
