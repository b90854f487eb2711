/- The reference's Apply, and Exact of both; MulDiv of both: each by its contract. -/
import Derived.Test.YtmhifelkihcidaaWBit
import Derived.Deep.QuietTactic
import Derived.BigQuiet
import Derived.WalkSmall
namespace Go.Proofs.Ytmhifelkihcidaa
open Go.RowKit WM
set_option linter.unusedVariables false
theorem quiet_same {P : Program} {f : FuncId} {args : Array Value} {w : World} {n : Nat} {v : Value}
    (h : Calls P f args (w.drewN n) fun e w' => e = .returned v ∧ w.drewN n = w') : Calls P f args (w.drewN n) fun e w'' => e = .returned v ∧ ∃ m, w'' = w.drewN m :=
  h.mono fun _ _ ⟨he, hm⟩ => ⟨he, n, hm.symm⟩

set_option maxHeartbeats 400000 in
theorem refApply1 (a b n : Int) (hb : IsBits n) (w : World) :
    Calls Try.prog 21 #[.int .i64 (1), .int .i64 (a), .int .i64 (b), .int .i64 (n)] w fun e w' => e = .returned (.tuple #[.int .i64 (apw 1 a b n), .int .i64 (0)]) ∧ Below w.heap.size w w' := by
  have b1 := nm_bd hb a
  have b2 := nm_bd hb b
  go_enter Try.func21, Try.ntmps21
  go_wp2_with (first | (go_at_call 18; refine (refBits_yes _ hb _).mono ?_; rintro e w' ⟨rfl, rfl⟩) | (go_at_call 46; refine (refnorm_c _ _ hb _).mono ?_; rintro e w' ⟨rfl, rfl⟩) | (go_at_call 51; refine (whole1 _ _ b1 b2 _).mono ?_; rintro e w' ⟨rfl, rfl⟩))
  go_ret2
  exact ⟨rfl, Below.refl _ _⟩
set_option maxHeartbeats 400000 in
theorem refApply2 (a b n : Int) (hb : IsBits n) (hz : nm n b ≠ 0) (w : World) :
    Calls Try.prog 21 #[.int .i64 (2), .int .i64 (a), .int .i64 (b), .int .i64 (n)] w fun e w' => e = .returned (.tuple #[.int .i64 (apw 2 a b n), .int .i64 (0)]) ∧ Below w.heap.size w w' := by
  have b1 := nm_bd hb a
  have b2 := nm_bd hb b
  have hz' : (nm n b == 0) = false := beq_eq_false_iff_ne.2 hz
  go_enter Try.func21, Try.ntmps21
  go_wp2_with (first | (go_at_call 18; refine (refBits_yes _ hb _).mono ?_; rintro e w' ⟨rfl, rfl⟩) | (go_at_call 46; refine (refnorm_c _ _ hb _).mono ?_; rintro e w' ⟨rfl, rfl⟩) | (go_at_call 51; refine (whole2 _ _ b1 b2 hz _).mono ?_; rintro e w' ⟨rfl, rfl⟩))
  go_ret2
  exact ⟨rfl, Below.refl _ _⟩
set_option maxHeartbeats 400000 in
theorem refApply3 (a b n : Int) (hb : IsBits n) (hz : nm n b ≠ 0) (w : World) :
    Calls Try.prog 21 #[.int .i64 (3), .int .i64 (a), .int .i64 (b), .int .i64 (n)] w fun e w' => e = .returned (.tuple #[.int .i64 (apw 3 a b n), .int .i64 (0)]) ∧ Below w.heap.size w w' := by
  have b1 := nm_bd hb a
  have b2 := nm_bd hb b
  have hz' : (nm n b == 0) = false := beq_eq_false_iff_ne.2 hz
  go_enter Try.func21, Try.ntmps21
  go_wp2_with (first | (go_at_call 18; refine (refBits_yes _ hb _).mono ?_; rintro e w' ⟨rfl, rfl⟩) | (go_at_call 46; refine (refnorm_c _ _ hb _).mono ?_; rintro e w' ⟨rfl, rfl⟩) | (go_at_call 51; refine (whole3 _ _ b1 b2 hz _).mono ?_; rintro e w' ⟨rfl, rfl⟩))
  go_ret2
  exact ⟨rfl, Below.refl _ _⟩
set_option maxHeartbeats 400000 in
theorem refApply4 (a b n : Int) (hb : IsBits n) (w : World) :
    Calls Try.prog 21 #[.int .i64 (4), .int .i64 (a), .int .i64 (b), .int .i64 (n)] w fun e w' => e = .returned (.tuple #[.int .i64 (apw 4 a b n), .int .i64 (0)]) ∧ Below w.heap.size w w' := by
  have b1 := nm_bd hb a
  have b2 := nm_bd hb b
  go_enter Try.func21, Try.ntmps21
  go_wp2_with (first | (go_at_call 18; refine (refBits_yes _ hb _).mono ?_; rintro e w' ⟨rfl, rfl⟩) | (go_at_call 46; refine (refnorm_c _ _ hb _).mono ?_; rintro e w' ⟨rfl, rfl⟩) | (go_at_call 51; refine (whole4 _ _ b1 b2 _).mono ?_; rintro e w' ⟨rfl, rfl⟩))
  go_ret2
  exact ⟨rfl, Below.refl _ _⟩
set_option maxHeartbeats 400000 in
theorem refApply5 (a b n : Int) (hb : IsBits n) (w : World) :
    Calls Try.prog 21 #[.int .i64 (5), .int .i64 (a), .int .i64 (b), .int .i64 (n)] w fun e w' => e = .returned (.tuple #[.int .i64 (apw 5 a b n), .int .i64 (0)]) ∧ Below w.heap.size w w' := by
  have b1 := nm_bd hb a
  have b2 := nm_bd hb b
  go_enter Try.func21, Try.ntmps21
  go_wp2_with (first | (go_at_call 18; refine (refBits_yes _ hb _).mono ?_; rintro e w' ⟨rfl, rfl⟩) | (go_at_call 46; refine (refnorm_c _ _ hb _).mono ?_; rintro e w' ⟨rfl, rfl⟩) | (go_at_call 51; refine (whole5 _ _ b1 b2 _).mono ?_; rintro e w' ⟨rfl, rfl⟩))
  go_ret2
  exact ⟨rfl, Below.refl _ _⟩
set_option maxHeartbeats 400000 in
theorem refApply6 (a b n : Int) (hb : IsBits n) (w : World) :
    Calls Try.prog 21 #[.int .i64 (6), .int .i64 (a), .int .i64 (b), .int .i64 (n)] w fun e w' => e = .returned (.tuple #[.int .i64 (apw 6 a b n), .int .i64 (0)]) ∧ Below w.heap.size w w' := by
  have b1 := nm_bd hb a
  have b2 := nm_bd hb b
  have bn : n ≤ 32 := by rcases hb with rfl | rfl | rfl <;> omega
  by_cases c : nm n b < 0 ∨ n ≤ nm n b
  · have hv : apw 6 a b n = 0 := by show nm n (if nm n b < 0 ∨ n ≤ nm n b then 0 else _) = 0; rw [if_pos c]; unfold nm; simp
    rw [hv]; clear hv
    go_enter Try.func21, Try.ntmps21
    go_wp2_with (first | (go_at_call 18; refine (refBits_yes _ hb _).mono ?_; rintro e w' ⟨rfl, rfl⟩) | (go_at_call 46; refine (refnorm_c _ _ hb _).mono ?_; rintro e w' ⟨rfl, rfl⟩) | (go_at_call 51; refine (whole6 _ _ _).mono ?_; rintro e w' ⟨rfl, rfl⟩) | (go_at_call 52; refine (shifted_true_out _ _ _ hb c _).mono ?_; rintro e w' ⟨rfl, rfl⟩))
    go_ret2
    exact ⟨rfl, Below.refl _ _⟩
  · have hv : apw 6 a b n = nm n (nm n a * P2 (nm n b)) := by show nm n (if nm n b < 0 ∨ n ≤ nm n b then 0 else _) = _; rw [if_neg c]
    rw [hv]; clear hv
    obtain ⟨m, hm⟩ := Int.eq_ofNat_of_zero_le (by omega : 0 ≤ nm n b)
    have hmn : (m : Int) < n := by omega
    have HM := Lib.hid hm
    clear hm
    go_enter Try.func21, Try.ntmps21
    go_wp2_with (first | (go_at_call 18; refine (refBits_yes _ hb _).mono ?_; rintro e w' ⟨rfl, rfl⟩) | (go_at_call 46; refine (refnorm_c _ _ hb _).mono ?_; rintro e w' ⟨rfl, rfl⟩) | (go_at_call 51; refine (whole6 _ _ _).mono ?_; rintro e w' ⟨rfl, rfl⟩) | (go_at_call 52; rw [HM.out]; refine (shifted_true _ m _ hb hmn _).mono ?_; rintro e w' ⟨rfl, rfl⟩))
    go_ret2
    exact ⟨ret2_int (by rw [HM.out]; exact nm_shl_k _ _ _), Below.refl _ _⟩
set_option maxHeartbeats 400000 in
theorem refApply7 (a b n : Int) (hb : IsBits n) (w : World) :
    Calls Try.prog 21 #[.int .i64 (7), .int .i64 (a), .int .i64 (b), .int .i64 (n)] w fun e w' => e = .returned (.tuple #[.int .i64 (apw 7 a b n), .int .i64 (0)]) ∧ Below w.heap.size w w' := by
  have b1 := nm_bd hb a
  have b2 := nm_bd hb b
  have bn : n ≤ 32 := by rcases hb with rfl | rfl | rfl <;> omega
  by_cases c : nm n b < 0 ∨ n ≤ nm n b
  · have hv : apw 7 a b n = 0 := by show nm n (if nm n b < 0 ∨ n ≤ nm n b then 0 else _) = 0; rw [if_pos c]; unfold nm; simp
    rw [hv]; clear hv
    go_enter Try.func21, Try.ntmps21
    go_wp2_with (first | (go_at_call 18; refine (refBits_yes _ hb _).mono ?_; rintro e w' ⟨rfl, rfl⟩) | (go_at_call 46; refine (refnorm_c _ _ hb _).mono ?_; rintro e w' ⟨rfl, rfl⟩) | (go_at_call 51; refine (whole7 _ _ _).mono ?_; rintro e w' ⟨rfl, rfl⟩) | (go_at_call 52; refine (shifted_false_out _ _ _ hb c _).mono ?_; rintro e w' ⟨rfl, rfl⟩))
    go_ret2
    exact ⟨rfl, Below.refl _ _⟩
  · have hv : apw 7 a b n = nm n (un n (nm n a) / P2 (nm n b)) := by show nm n (if nm n b < 0 ∨ n ≤ nm n b then 0 else _) = _; rw [if_neg c]
    rw [hv]; clear hv
    obtain ⟨m, hm⟩ := Int.eq_ofNat_of_zero_le (by omega : 0 ≤ nm n b)
    have hmn : (m : Int) < n := by omega
    have HM := Lib.hid hm
    clear hm
    go_enter Try.func21, Try.ntmps21
    go_wp2_with (first | (go_at_call 18; refine (refBits_yes _ hb _).mono ?_; rintro e w' ⟨rfl, rfl⟩) | (go_at_call 46; refine (refnorm_c _ _ hb _).mono ?_; rintro e w' ⟨rfl, rfl⟩) | (go_at_call 51; refine (whole7 _ _ _).mono ?_; rintro e w' ⟨rfl, rfl⟩) | (go_at_call 52; rw [HM.out]; refine (shifted_false _ m _ hb hmn _).mono ?_; rintro e w' ⟨rfl, rfl⟩))
    go_ret2
    exact ⟨ret2_int (by rw [HM.out]), Below.refl _ _⟩
set_option maxHeartbeats 400000 in
theorem refApply8 (a b n : Int) (hb : IsBits n) (w : World) :
    Calls Try.prog 21 #[.int .i64 (8), .int .i64 (a), .int .i64 (b), .int .i64 (n)] w fun e w' => e = .returned (.tuple #[.int .i64 (apw 8 a b n), .int .i64 (0)]) ∧ Below w.heap.size w w' := by
  have b1 := nm_bd hb a
  have b2 := nm_bd hb b
  go_enter Try.func21, Try.ntmps21
  go_wp2_with (first | (go_at_call 18; refine (refBits_yes _ hb _).mono ?_; rintro e w' ⟨rfl, rfl⟩) | (go_at_call 46; refine (refnorm_c _ _ hb _).mono ?_; rintro e w' ⟨rfl, rfl⟩) | (go_at_call 51; refine (whole8 _ _ _).mono ?_; rintro e w' ⟨rfl, rfl⟩) | (go_at_call 53; refine (bitwiseAnd _ _ _ hb _).mono ?_; rintro e w1 ⟨rfl, hb1⟩))
  go_ret2
  exact ⟨ret2_int (bwAnd hb _ _), hb1⟩
set_option maxHeartbeats 400000 in
theorem refApply9 (a b n : Int) (hb : IsBits n) (w : World) :
    Calls Try.prog 21 #[.int .i64 (9), .int .i64 (a), .int .i64 (b), .int .i64 (n)] w fun e w' => e = .returned (.tuple #[.int .i64 (apw 9 a b n), .int .i64 (0)]) ∧ Below w.heap.size w w' := by
  have b1 := nm_bd hb a
  have b2 := nm_bd hb b
  go_enter Try.func21, Try.ntmps21
  go_wp2_with (first | (go_at_call 18; refine (refBits_yes _ hb _).mono ?_; rintro e w' ⟨rfl, rfl⟩) | (go_at_call 46; refine (refnorm_c _ _ hb _).mono ?_; rintro e w' ⟨rfl, rfl⟩) | (go_at_call 51; refine (whole9 _ _ _).mono ?_; rintro e w' ⟨rfl, rfl⟩) | (go_at_call 53; refine (bitwiseOr _ _ _ hb _).mono ?_; rintro e w1 ⟨rfl, hb1⟩))
  go_ret2
  exact ⟨ret2_int (bwOr hb _ _), hb1⟩
set_option maxHeartbeats 400000 in
theorem refApply10 (a b n : Int) (hb : IsBits n) (w : World) :
    Calls Try.prog 21 #[.int .i64 (10), .int .i64 (a), .int .i64 (b), .int .i64 (n)] w fun e w' => e = .returned (.tuple #[.int .i64 (apw 10 a b n), .int .i64 (0)]) ∧ Below w.heap.size w w' := by
  have b1 := nm_bd hb a
  have b2 := nm_bd hb b
  go_enter Try.func21, Try.ntmps21
  go_wp2_with (first | (go_at_call 18; refine (refBits_yes _ hb _).mono ?_; rintro e w' ⟨rfl, rfl⟩) | (go_at_call 46; refine (refnorm_c _ _ hb _).mono ?_; rintro e w' ⟨rfl, rfl⟩) | (go_at_call 51; refine (whole10 _ _ _).mono ?_; rintro e w' ⟨rfl, rfl⟩) | (go_at_call 53; refine (bitwiseXor _ _ _ hb _).mono ?_; rintro e w1 ⟨rfl, hb1⟩))
  go_ret2
  exact ⟨ret2_int (bwXor hb _ _), hb1⟩
set_option maxHeartbeats 400000 in
theorem refApply11 (a b n : Int) (hb : IsBits n) (w : World) :
    Calls Try.prog 21 #[.int .i64 (11), .int .i64 (a), .int .i64 (b), .int .i64 (n)] w fun e w' => e = .returned (.tuple #[.int .i64 (apw 11 a b n), .int .i64 (0)]) ∧ Below w.heap.size w w' := by
  have b1 := nm_bd hb a
  have b2 := nm_bd hb b
  go_enter Try.func21, Try.ntmps21
  go_wp2_with (first | (go_at_call 18; refine (refBits_yes _ hb _).mono ?_; rintro e w' ⟨rfl, rfl⟩) | (go_at_call 46; refine (refnorm_c _ _ hb _).mono ?_; rintro e w' ⟨rfl, rfl⟩) | (go_at_call 51; refine (whole11 _ _ _).mono ?_; rintro e w' ⟨rfl, rfl⟩) | (go_at_call 53; refine (bitwiseEqv _ _ _ hb _).mono ?_; rintro e w1 ⟨rfl, hb1⟩))
  go_ret2
  exact ⟨ret2_int (bwEqv hb _ _), hb1⟩
set_option maxHeartbeats 400000 in
theorem refApply12 (a b n : Int) (hb : IsBits n) (w : World) :
    Calls Try.prog 21 #[.int .i64 (12), .int .i64 (a), .int .i64 (b), .int .i64 (n)] w fun e w' => e = .returned (.tuple #[.int .i64 (apw 12 a b n), .int .i64 (0)]) ∧ Below w.heap.size w w' := by
  have b1 := nm_bd hb a
  have b2 := nm_bd hb b
  go_enter Try.func21, Try.ntmps21
  go_wp2_with (first | (go_at_call 18; refine (refBits_yes _ hb _).mono ?_; rintro e w' ⟨rfl, rfl⟩) | (go_at_call 46; refine (refnorm_c _ _ hb _).mono ?_; rintro e w' ⟨rfl, rfl⟩) | (go_at_call 51; refine (whole12 _ _ b1 b2 _).mono ?_; rintro e w' ⟨rfl, rfl⟩))
  go_ret2
  exact ⟨rfl, Below.refl _ _⟩
set_option maxHeartbeats 400000 in
theorem refApply13 (a b n : Int) (hb : IsBits n) (w : World) :
    Calls Try.prog 21 #[.int .i64 (13), .int .i64 (a), .int .i64 (b), .int .i64 (n)] w fun e w' => e = .returned (.tuple #[.int .i64 (apw 13 a b n), .int .i64 (0)]) ∧ Below w.heap.size w w' := by
  have b1 := nm_bd hb a
  have b2 := nm_bd hb b
  go_enter Try.func21, Try.ntmps21
  go_wp2_with (first | (go_at_call 18; refine (refBits_yes _ hb _).mono ?_; rintro e w' ⟨rfl, rfl⟩) | (go_at_call 46; refine (refnorm_c _ _ hb _).mono ?_; rintro e w' ⟨rfl, rfl⟩) | (go_at_call 51; refine (whole13 _ _ b1 b2 _).mono ?_; rintro e w' ⟨rfl, rfl⟩))
  go_ret2
  exact ⟨rfl, Below.refl _ _⟩
set_option maxHeartbeats 400000 in
theorem refApply14 (a b n : Int) (hb : IsBits n) (w : World) :
    Calls Try.prog 21 #[.int .i64 (14), .int .i64 (a), .int .i64 (b), .int .i64 (n)] w fun e w' => e = .returned (.tuple #[.int .i64 (apw 14 a b n), .int .i64 (0)]) ∧ Below w.heap.size w w' := by
  have b1 := nm_bd hb a
  have b2 := nm_bd hb b
  go_enter Try.func21, Try.ntmps21
  go_wp2_with (first | (go_at_call 18; refine (refBits_yes _ hb _).mono ?_; rintro e w' ⟨rfl, rfl⟩) | (go_at_call 46; refine (refnorm_c _ _ hb _).mono ?_; rintro e w' ⟨rfl, rfl⟩) | (go_at_call 51; refine (whole14 _ _ b1 b2 _).mono ?_; rintro e w' ⟨rfl, rfl⟩))
  go_ret2
  exact ⟨rfl, Below.refl _ _⟩
set_option maxHeartbeats 400000 in
theorem refApply15 (a b n : Int) (hb : IsBits n) (w : World) :
    Calls Try.prog 21 #[.int .i64 (15), .int .i64 (a), .int .i64 (b), .int .i64 (n)] w fun e w' => e = .returned (.tuple #[.int .i64 (apw 15 a b n), .int .i64 (0)]) ∧ Below w.heap.size w w' := by
  have b1 := nm_bd hb a
  have b2 := nm_bd hb b
  go_enter Try.func21, Try.ntmps21
  go_wp2_with (first | (go_at_call 18; refine (refBits_yes _ hb _).mono ?_; rintro e w' ⟨rfl, rfl⟩) | (go_at_call 46; refine (refnorm_c _ _ hb _).mono ?_; rintro e w' ⟨rfl, rfl⟩) | (go_at_call 51; refine (whole15 _ _ b1 b2 _).mono ?_; rintro e w' ⟨rfl, rfl⟩))
  go_ret2
  exact ⟨rfl, Below.refl _ _⟩
set_option maxHeartbeats 400000 in
theorem refApply16 (a b n : Int) (hb : IsBits n) (w : World) :
    Calls Try.prog 21 #[.int .i64 (16), .int .i64 (a), .int .i64 (b), .int .i64 (n)] w fun e w' => e = .returned (.tuple #[.int .i64 (apw 16 a b n), .int .i64 (0)]) ∧ Below w.heap.size w w' := by
  have b1 := nm_bd hb a
  have b2 := nm_bd hb b
  go_enter Try.func21, Try.ntmps21
  go_wp2_with (first | (go_at_call 18; refine (refBits_yes _ hb _).mono ?_; rintro e w' ⟨rfl, rfl⟩) | (go_at_call 46; refine (refnorm_c _ _ hb _).mono ?_; rintro e w' ⟨rfl, rfl⟩) | (go_at_call 51; refine (whole16 _ _ b1 b2 _).mono ?_; rintro e w' ⟨rfl, rfl⟩))
  go_ret2
  exact ⟨rfl, Below.refl _ _⟩
set_option maxHeartbeats 400000 in
theorem refApply17 (a b n : Int) (hb : IsBits n) (w : World) :
    Calls Try.prog 21 #[.int .i64 (17), .int .i64 (a), .int .i64 (b), .int .i64 (n)] w fun e w' => e = .returned (.tuple #[.int .i64 (apw 17 a b n), .int .i64 (0)]) ∧ Below w.heap.size w w' := by
  have b1 := nm_bd hb a
  have b2 := nm_bd hb b
  go_enter Try.func21, Try.ntmps21
  go_wp2_with (first | (go_at_call 18; refine (refBits_yes _ hb _).mono ?_; rintro e w' ⟨rfl, rfl⟩) | (go_at_call 46; refine (refnorm_c _ _ hb _).mono ?_; rintro e w' ⟨rfl, rfl⟩) | (go_at_call 51; refine (whole17 _ _ b1 b2 _).mono ?_; rintro e w' ⟨rfl, rfl⟩))
  go_ret2
  exact ⟨rfl, Below.refl _ _⟩
set_option maxHeartbeats 400000 in
theorem refApply18 (a b n : Int) (hb : IsBits n) (w : World) :
    Calls Try.prog 21 #[.int .i64 (18), .int .i64 (a), .int .i64 (b), .int .i64 (n)] w fun e w' => e = .returned (.tuple #[.int .i64 (apw 18 a b n), .int .i64 (0)]) ∧ Below w.heap.size w w' := by
  have b1 := nm_bd hb a
  have b2 := nm_bd hb b
  go_enter Try.func21, Try.ntmps21
  go_wp2_with (first | (go_at_call 18; refine (refBits_yes _ hb _).mono ?_; rintro e w' ⟨rfl, rfl⟩) | (go_at_call 46; refine (refnorm_c _ _ hb _).mono ?_; rintro e w' ⟨rfl, rfl⟩) | (go_at_call 51; refine (whole18 _ _ b1 b2 _).mono ?_; rintro e w' ⟨rfl, rfl⟩))
  go_ret2
  exact ⟨rfl, Below.refl _ _⟩
set_option maxHeartbeats 400000 in
theorem refApply19 (a b n : Int) (hb : IsBits n) (w : World) :
    Calls Try.prog 21 #[.int .i64 (19), .int .i64 (a), .int .i64 (b), .int .i64 (n)] w fun e w' => e = .returned (.tuple #[.int .i64 (apw 19 a b n), .int .i64 (0)]) ∧ Below w.heap.size w w' := by
  have b1 := nm_bd hb a
  have b2 := nm_bd hb b
  go_enter Try.func21, Try.ntmps21
  go_wp2_with (first | (go_at_call 18; refine (refBits_yes _ hb _).mono ?_; rintro e w' ⟨rfl, rfl⟩) | (go_at_call 46; refine (refnorm_c _ _ hb _).mono ?_; rintro e w' ⟨rfl, rfl⟩) | (go_at_call 51; refine (whole19 _ _ b1 b2 _).mono ?_; rintro e w' ⟨rfl, rfl⟩))
  go_ret2
  exact ⟨ret2_int (by show nm n (-(nm n a) - 1) = nm n (bits .xor .i64 (-1) (nm n a)); rw [not_plain _ b1]), Below.refl _ _⟩
theorem refApply_ok (op a b n : Int) (hk : Okop op b n) (w : World) :
    Calls Try.prog 21 #[.int .i64 (op), .int .i64 (a), .int .i64 (b), .int .i64 (n)] w fun e w' => e = .returned (.tuple #[.int .i64 (apw op a b n), .int .i64 (0)]) ∧ Below w.heap.size w w' := by
  obtain ⟨hb, h1, h2, h3⟩ := hk
  have hc : op = 1 ∨ op = 2 ∨ op = 3 ∨ op = 4 ∨ op = 5 ∨ op = 6 ∨ op = 7 ∨ op = 8 ∨ op = 9 ∨ op = 10 ∨ op = 11 ∨ op = 12 ∨ op = 13 ∨ op = 14 ∨ op = 15 ∨ op = 16 ∨ op = 17 ∨ op = 18 ∨ op = 19 := by omega
  rcases hc with rfl | rfl | rfl | rfl | rfl | rfl | rfl | rfl | rfl | rfl | rfl | rfl | rfl | rfl | rfl | rfl | rfl | rfl | rfl
  · exact refApply1 a b n hb w
  · exact refApply2 a b n hb (h3 (by omega)) w
  · exact refApply3 a b n hb (h3 (by omega)) w
  · exact refApply4 a b n hb w
  · exact refApply5 a b n hb w
  · exact refApply6 a b n hb w
  · exact refApply7 a b n hb w
  · exact refApply8 a b n hb w
  · exact refApply9 a b n hb w
  · exact refApply10 a b n hb w
  · exact refApply11 a b n hb w
  · exact refApply12 a b n hb w
  · exact refApply13 a b n hb w
  · exact refApply14 a b n hb w
  · exact refApply15 a b n hb w
  · exact refApply16 a b n hb w
  · exact refApply17 a b n hb w
  · exact refApply18 a b n hb w
  · exact refApply19 a b n hb w
set_option maxHeartbeats 400000 in
theorem refApply_form (op a b n : Int) (hb : ¬ IsBits n) (w : World) :
    Calls Try.prog 21 #[.int .i64 (op), .int .i64 (a), .int .i64 (b), .int .i64 (n)] w fun e w' => e = .returned (.tuple #[.int .i64 (0), .int .i64 (3)]) ∧ w = w' := by
  go_enter Try.func21, Try.ntmps21
  go_wp2_with (first | (go_at_call 18; refine (refBits_no _ hb _).mono ?_; rintro e w' ⟨rfl, rfl⟩))
  go_ret2
  exact ⟨rfl, rfl⟩
set_option maxHeartbeats 400000 in
theorem refApply_range (op a b n : Int) (hb : IsBits n) (ho : op < 1 ∨ 19 < op) (w : World) :
    Calls Try.prog 21 #[.int .i64 (op), .int .i64 (a), .int .i64 (b), .int .i64 (n)] w fun e w' => e = .returned (.tuple #[.int .i64 (0), .int .i64 (1)]) ∧ w = w' := by
  rcases ho with ho | ho
  · go_enter Try.func21, Try.ntmps21
    go_wp2_with (first | (go_at_call 18; refine (refBits_yes _ hb _).mono ?_; rintro e w' ⟨rfl, rfl⟩))
    go_ret2
    exact ⟨rfl, rfl⟩
  · have h1 : ¬ op < 1 := by omega
    go_enter Try.func21, Try.ntmps21
    go_wp2_with (first | (go_at_call 18; refine (refBits_yes _ hb _).mono ?_; rintro e w' ⟨rfl, rfl⟩))
    go_ret2
    exact ⟨rfl, rfl⟩
set_option maxHeartbeats 400000 in
theorem refApply_zero (op a b n : Int) (hb : IsBits n) (ho : op = 2 ∨ op = 3) (hz : nm n b = 0) (w : World) :
    Calls Try.prog 21 #[.int .i64 (op), .int .i64 (a), .int .i64 (b), .int .i64 (n)] w fun e w' => e = .returned (.tuple #[.int .i64 (0), .int .i64 (10)]) ∧ w = w' := by
  have hz' : (nm n b == 0) = true := beq_iff_eq.2 hz
  clear hz
  rcases ho with rfl | rfl
  all_goals
    go_enter Try.func21, Try.ntmps21
    go_wp2_with (first | (go_at_call 18; refine (refBits_yes _ hb _).mono ?_; rintro e w' ⟨rfl, rfl⟩) | (go_at_call 46; refine (refnorm_c _ _ hb _).mono ?_; rintro e w' ⟨rfl, rfl⟩))
    go_ret2
    exact ⟨rfl, rfl⟩
set_option maxHeartbeats 400000 in
theorem MulDiv_form (a b c n : Int) (hb : ¬ IsBits n) (w : World) :
    Calls Try.prog 24 #[.int .i64 (a), .int .i64 (b), .int .i64 (c), .int .i64 (n)] w fun e w' => e = .returned (.tuple #[.int .i64 (0), .int .i64 (0), .int .i64 (3)]) ∧ w = w' := by
  go_enter Try.func24, Try.ntmps24
  go_wp2_with (first | (go_at_call 44; refine (validBits_no _ hb _).mono ?_; rintro e w' ⟨rfl, rfl⟩))
  go_ret3
  exact ⟨rfl, rfl⟩
set_option maxHeartbeats 400000 in
theorem MulDiv_zero (a b c n : Int) (hb : IsBits n) (hz : nm n c = 0) (w : World) :
    Calls Try.prog 24 #[.int .i64 (a), .int .i64 (b), .int .i64 (c), .int .i64 (n)] w fun e w' => e = .returned (.tuple #[.int .i64 (0), .int .i64 (0), .int .i64 (10)]) ∧ w = w' := by
  have hz' : (nm n c == 0) = true := beq_iff_eq.2 hz
  clear hz
  go_enter Try.func24, Try.ntmps24
  go_wp2_with (first | (go_at_call 44; refine (validBits_yes _ hb _).mono ?_; rintro e w' ⟨rfl, rfl⟩) | (go_at_call 45; refine (norm_c _ _ hb _).mono ?_; rintro e w' ⟨rfl, rfl⟩))
  go_ret3
  exact ⟨rfl, rfl⟩
set_option maxHeartbeats 400000 in
theorem MulDiv_ok (a b c n : Int) (hb : IsBits n) (hz : nm n c ≠ 0) (w : World) :
    Calls Try.prog 24 #[.int .i64 (a), .int .i64 (b), .int .i64 (c), .int .i64 (n)] w fun e w' => e = .returned (.tuple #[.int .i64 (nm n ((nm n a * nm n b).tdiv (nm n c))), .int .i64 (nm n ((nm n a * nm n b).tmod (nm n c))), .int .i64 (0)]) ∧ Below w.heap.size w w' := by
  have hz' : (nm n c == 0) = false := beq_eq_false_iff_ne.2 hz
  have hz2 : ¬ nm n c = 0 := hz
  clear hz
  have b1 := nm_bd hb a
  have b2 := nm_bd hb b
  have e1 := mul_fit _ _ b1 b2
  have e2 := mul_bd b1 b2
  generalize hx : nm n a * nm n b = z at *
  have e3 : wrap64 (z.tdiv (nm n c)) = z.tdiv (nm n c) := by
    have h : (z.tdiv (nm n c)).natAbs ≤ z.natAbs := by rw [Int.natAbs_tdiv]; exact Nat.div_le_self _ _
    exact IntWalk.wrap64_in _ ⟨by omega, by omega⟩
  have HX := Lib.hid hx
  have H1 := Lib.hid e1
  have H3 := Lib.hid e3
  clear hx e1 e3
  go_enter Try.func24, Try.ntmps24
  go_wp2_with (first | (go_at_call 44; refine (validBits_yes _ hb _).mono ?_; rintro e w' ⟨rfl, rfl⟩) | (go_at_call 45; (try simp only [HX.out, H1.out, H3.out]); refine (norm_c _ _ hb _).mono ?_; rintro e w' ⟨rfl, rfl⟩))
  go_quiet ((go_at_call 45; (try simp only [HX.out, H1.out, H3.out]); exact quiet_same (norm_c _ _ hb _)))
  go_wp2
  go_ret3
  exact ⟨by simp only [HX.out, H1.out, H3.out]; rfl, below_drewN (Below.refl _ _) _⟩
set_option maxHeartbeats 400000 in
theorem refMulDiv_form (a b c n : Int) (hb : ¬ IsBits n) (w : World) :
    Calls Try.prog 25 #[.int .i64 (a), .int .i64 (b), .int .i64 (c), .int .i64 (n)] w fun e w' => e = .returned (.tuple #[.int .i64 (0), .int .i64 (0), .int .i64 (3)]) ∧ w = w' := by
  go_enter Try.func25, Try.ntmps25
  go_wp2_with (first | (go_at_call 18; refine (refBits_no _ hb _).mono ?_; rintro e w' ⟨rfl, rfl⟩))
  go_ret3
  exact ⟨rfl, rfl⟩
set_option maxHeartbeats 400000 in
theorem refMulDiv_zero (a b c n : Int) (hb : IsBits n) (hz : nm n c = 0) (w : World) :
    Calls Try.prog 25 #[.int .i64 (a), .int .i64 (b), .int .i64 (c), .int .i64 (n)] w fun e w' => e = .returned (.tuple #[.int .i64 (0), .int .i64 (0), .int .i64 (10)]) ∧ w = w' := by
  have hz' : (nm n c == 0) = true := beq_iff_eq.2 hz
  clear hz
  go_enter Try.func25, Try.ntmps25
  go_wp2_with (first | (go_at_call 18; refine (refBits_yes _ hb _).mono ?_; rintro e w' ⟨rfl, rfl⟩) | (go_at_call 46; refine (refnorm_c _ _ hb _).mono ?_; rintro e w' ⟨rfl, rfl⟩))
  go_ret3
  exact ⟨rfl, rfl⟩
set_option maxHeartbeats 400000 in
theorem refMulDiv_ok (a b c n : Int) (hb : IsBits n) (hz : nm n c ≠ 0) (w : World) :
    Calls Try.prog 25 #[.int .i64 (a), .int .i64 (b), .int .i64 (c), .int .i64 (n)] w fun e w' => e = .returned (.tuple #[.int .i64 (nm n ((nm n a * nm n b).tdiv (nm n c))), .int .i64 (nm n ((nm n a * nm n b).tmod (nm n c))), .int .i64 (0)]) ∧ Below w.heap.size w w' := by
  have hz' : (nm n c == 0) = false := beq_eq_false_iff_ne.2 hz
  have hz2 : ¬ nm n c = 0 := hz
  clear hz
  have b1 := nm_bd hb a
  have b2 := nm_bd hb b
  have e1 := mul_fit _ _ b1 b2
  have e2 := mul_bd b1 b2
  generalize hx : nm n a * nm n b = z at *
  have e3 : wrap64 (z.tdiv (nm n c)) = z.tdiv (nm n c) := by
    have h : (z.tdiv (nm n c)).natAbs ≤ z.natAbs := by rw [Int.natAbs_tdiv]; exact Nat.div_le_self _ _
    exact IntWalk.wrap64_in _ ⟨by omega, by omega⟩
  have HX := Lib.hid hx
  have H1 := Lib.hid e1
  have H3 := Lib.hid e3
  clear hx e1 e3
  go_enter Try.func25, Try.ntmps25
  go_wp2_with (first | (go_at_call 18; refine (refBits_yes _ hb _).mono ?_; rintro e w' ⟨rfl, rfl⟩) | (go_at_call 46; (try simp only [HX.out, H1.out, H3.out]); refine (refnorm_c _ _ hb _).mono ?_; rintro e w' ⟨rfl, rfl⟩))
  go_quiet ((go_at_call 46; (try simp only [HX.out, H1.out, H3.out]); exact quiet_same (refnorm_c _ _ hb _)))
  go_wp2
  go_ret3
  exact ⟨by simp only [HX.out, H1.out, H3.out]; rfl, below_drewN (Below.refl _ _) _⟩
end Go.Proofs.Ytmhifelkihcidaa
