/- The functions of numbers of package word and of its reference, each by its contract: what the call returns; the world stays. -/
import Derived.Test.YtmhifelkihcidaaRows
import Derived.Test.YtmhifelkihcidaaWMath
import Derived.WalkKit
import Derived.WalkSpells
import Derived.WalkLawsBesides
namespace Go.Proofs.Ytmhifelkihcidaa
open Go.RowKit WM

theorem ret_int {k : IntKind} {a b : Int} (h : a = b) : Ending.returned (.int k a) = .returned (.int k b) := by rw [h]

theorem power_c (n : Int) (h0 : 0 ≤ n) (h1 : n ≤ 62) (w : World) :
    Calls Try.prog 57 #[.int .i64 n] w fun e w' => e = .returned (.int .i64 (P2 n)) ∧ w = w' := by
  obtain ⟨m, rfl⟩ := Int.eq_ofNat_of_zero_le h0
  go_enter Try.func57, Try.ntmps57
  go_wp2
  go_loop [3, 4] (fun v i => ∃ k : Nat, k ≤ m ∧ i = .int .i64 k ∧ v = .int .i64 (P2 k)) (fun _ i => m - (intOf i).toNat)
  case atStart => exact ⟨0, Nat.zero_le _, rfl, rfl⟩
  case round =>
    obtain ⟨k, hk, rfl, rfl⟩ := hrel
    have hp := p2_pos k
    by_cases hlt : k < m
    · have hq : P2 k * 2 ≤ 4611686018427387904 := by rw [← p2_succ]; exact p2_62 (by omega)
      go_wp2
      go_round
      case rel => exact ⟨k + 1, by omega, by go_num, by rw [← p2_succ]; rfl⟩
      case measure => simp [intOf]; omega
    · go_wp2
      go_ret
      obtain rfl : k = m := by omega
      exact ⟨rfl, rfl⟩

theorem power16_c (w : World) :
    Calls Try.prog 57 #[.int .i64 16] w fun e w' => e = .returned (.int .i64 65536) ∧ w = w' := power_c 16 (by omega) (by omega) w
theorem power24_c (w : World) :
    Calls Try.prog 57 #[.int .i64 24] w fun e w' => e = .returned (.int .i64 16777216) ∧ w = w' := power_c 24 (by omega) (by omega) w
theorem power32_c (w : World) :
    Calls Try.prog 57 #[.int .i64 32] w fun e w' => e = .returned (.int .i64 4294967296) ∧ w = w' := power_c 32 (by omega) (by omega) w
theorem refnorm_c (v b : Int) (hb : IsBits b) (w : World) :
    Calls Try.prog 46 #[.int .i64 v, .int .i64 b] w fun e w' => e = .returned (.int .i64 (nm b v)) ∧ w = w' := by
  rcases hb with rfl | rfl | rfl
  · obtain ⟨hb1, hb2⟩ := tmod16_bd v
    go_enter Try.func46, Try.ntmps46
    go_wp2_with fail
    refine (power16_c _).mono ?_
    rintro e w' ⟨rfl, rfl⟩
    go_wp2
    all_goals go_ret
    all_goals exact ⟨ret_int (by rw [rem16']; omega), rfl⟩
  · obtain ⟨hb1, hb2⟩ := tmod24_bd v
    go_enter Try.func46, Try.ntmps46
    go_wp2_with fail
    refine (power24_c _).mono ?_
    rintro e w' ⟨rfl, rfl⟩
    go_wp2
    all_goals go_ret
    all_goals exact ⟨ret_int (by rw [rem24']; omega), rfl⟩
  · obtain ⟨hb1, hb2⟩ := tmod32_bd v
    go_enter Try.func46, Try.ntmps46
    go_wp2_with fail
    refine (power32_c _).mono ?_
    rintro e w' ⟨rfl, rfl⟩
    go_wp2
    all_goals go_ret
    all_goals exact ⟨ret_int (by rw [rem32']; omega), rfl⟩

theorem norm_c (v b : Int) (hb : IsBits b) (w : World) :
    Calls Try.prog 45 #[.int .i64 v, .int .i64 b] w fun e w' => e = .returned (.int .i64 (nm b v)) ∧ w = w' := by
  rcases hb with rfl | rfl | rfl
  · rw [← shl16]
    go_enter Try.func45, Try.ntmps45
    go_wp2
    go_ret
    exact ⟨rfl, rfl⟩
  · rw [← shl24]
    go_enter Try.func45, Try.ntmps45
    go_wp2
    go_ret
    exact ⟨rfl, rfl⟩
  · rw [← shl32]
    go_enter Try.func45, Try.ntmps45
    go_wp2
    go_ret
    exact ⟨rfl, rfl⟩

theorem unsigned_c (v b : Int) (hb : IsBits b) (w : World) :
    Calls Try.prog 47 #[.int .i64 v, .int .i64 b] w fun e w' => e = .returned (.int .i64 (un b v)) ∧ w = w' := by
  rcases hb with rfl | rfl | rfl
  · go_enter Try.func47, Try.ntmps47
    go_wp2
    go_ret
    exact ⟨ret_int (and16 v), rfl⟩
  · go_enter Try.func47, Try.ntmps47
    go_wp2
    go_ret
    exact ⟨ret_int (and24 v), rfl⟩
  · go_enter Try.func47, Try.ntmps47
    go_wp2
    go_ret
    exact ⟨ret_int (and32 v), rfl⟩

end Go.Proofs.Ytmhifelkihcidaa
