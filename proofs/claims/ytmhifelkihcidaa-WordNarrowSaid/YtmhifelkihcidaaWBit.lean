/- The reference's loop over the bits of two words, by each of its four tables. -/
import Derived.Test.YtmhifelkihcidaaWRef
import Derived.Test.YtmhifelkihcidaaWMath2
import Derived.Lib.Hide
namespace Go.Proofs.Ytmhifelkihcidaa
open Go.RowKit WM
set_option linter.unusedVariables false

set_option maxHeartbeats 400000 in
theorem bitwiseAnd (a b n : Int) (hb : IsBits n) (w : World) :
    Calls Try.prog 53 #[.int .i64 (a), .int .i64 (b), .int .i64 (n), .agg #[.int .i64 0, .int .i64 0, .int .i64 0, .int .i64 1]] w fun e w' => e = .returned (.int .i64 (nm n (bw tAnd n.toNat (un n a).toNat (un n b).toNat))) ∧ Below w.heap.size w w' := by
  have hn : 0 ≤ n ∧ n ≤ 32 := by rcases hb with rfl | rfl | rfl <;> omega
  obtain ⟨W, rfl⟩ := Int.eq_ofNat_of_zero_le hn.1
  rw [Int.toNat_natCast]
  have hU := un_lt W a
  have hV := un_lt W b
  have hP := p2_31' hn.2
  generalize hu : un W a = u at *
  generalize hv : un W b = v at *
  obtain ⟨U, rfl⟩ := Int.eq_ofNat_of_zero_le hU.1
  obtain ⟨V, rfl⟩ := Int.eq_ofNat_of_zero_le hV.1
  rw [Int.toNat_natCast, Int.toNat_natCast]
  have HU := Lib.hid hu
  have HV := Lib.hid hv
  clear hu hv
  go_enter Try.func53, Try.ntmps53
  go_wp2_with fail
  refine (refuns_c a _ hb _).mono ?_
  rintro e w' ⟨rfl, rfl⟩
  rw [HU.out]
  go_wp2_with fail
  refine (refuns_c b _ hb _).mono ?_
  rintro e w' ⟨rfl, rfl⟩
  rw [HV.out]
  go_wp2_with fail
  go_loop [0, 1, 9, 10, 11] (fun a1 b1 o1 p1 i1 => ∃ k x y : Nat, ∃ o p : Int, k ≤ W ∧ i1 = .int .i64 k ∧ a1 = .int .i64 x ∧ b1 = .int .i64 y ∧ o1 = .int .i64 o ∧ p1 = .int .i64 p ∧ Hid (x = U / 2 ^ k) ∧ Hid (y = V / 2 ^ k) ∧ Hid (o = bw tAnd k U V) ∧ Hid (p = P2 k)) (fun _ _ _ _ i => W - (intOf i).toNat)
  case atStart => exact ⟨0, U, V, 0, 1, Nat.zero_le _, rfl, rfl, rfl, rfl, rfl, Lib.hid (by simp), Lib.hid (by simp), Lib.hid rfl, Lib.hid rfl⟩
  case round =>
    obtain ⟨k, x, y, o, p, hk, rfl, rfl, rfl, rfl, rfl, hx, hy, ho, hp⟩ := hrel
    by_cases hlt : k < W
    · have hbd := bw_bd tAnd tAnd_bd k U V
      have hpb : 1 ≤ p ∧ p ≤ 4294967296 := by rw [hp.out]; exact ⟨p2_pos _, p2_mono (n := 32) (by omega)⟩
      have hob : 0 ≤ o ∧ o ≤ 4294967296 := by rw [ho.out]; have := p2_mono (m := k) (n := 32) (by omega); rw [p2_32] at this; omega
      clear hbd
      have hxb : (x : Int) ≤ 4294967296 := by have := Nat.div_le_self U (2 ^ k); rw [hx.out]; omega
      have hyb : (y : Int) ≤ 4294967296 := by have := Nat.div_le_self V (2 ^ k); rw [hy.out]; omega
      have hxy : (x % 2 = 0 ∨ x % 2 = 1) ∧ (y % 2 = 0 ∨ y % 2 = 1) := by omega
      have hnx := half_next U k x hx.out
      have hny := half_next V k y hy.out
      have Hnx := Lib.hid hnx
      have Hny := Lib.hid hny
      have Hno := Lib.hid (bw_next tAnd k U V x y hx.out hy.out)
      have Hnp := Lib.hid (p2_succ k)
      clear hnx hny
      rcases hxy with ⟨hx2 | hx2, hy2 | hy2⟩
      · have ex : (x : Int) % 2 = 0 := by omega
        have ey : (y : Int) % 2 = 0 := by omega
        go_wp2_with fail
        go_round
        case rel => exact ⟨k + 1, x / 2, y / 2, bw tAnd (k + 1) U V, P2 (k + 1), by omega, by go_num, by go_num, by go_num, by first | (rw [Hno.out, hx2, hy2, ho.out, hp.out]; simp [tAnd]; done) | (rw [Hno.out, hx2, hy2, ho.out]; simp [tAnd]), by rw [Hnp.out, hp.out], Hnx, Hny, Lib.hid rfl, Lib.hid rfl⟩
        case measure => simp [intOf]; omega
      · have ex : (x : Int) % 2 = 0 := by omega
        have ey : (y : Int) % 2 = 1 := by omega
        go_wp2_with fail
        go_round
        case rel => exact ⟨k + 1, x / 2, y / 2, bw tAnd (k + 1) U V, P2 (k + 1), by omega, by go_num, by go_num, by go_num, by first | (rw [Hno.out, hx2, hy2, ho.out, hp.out]; simp [tAnd]; done) | (rw [Hno.out, hx2, hy2, ho.out]; simp [tAnd]), by rw [Hnp.out, hp.out], Hnx, Hny, Lib.hid rfl, Lib.hid rfl⟩
        case measure => simp [intOf]; omega
      · have ex : (x : Int) % 2 = 1 := by omega
        have ey : (y : Int) % 2 = 0 := by omega
        go_wp2_with fail
        go_round
        case rel => exact ⟨k + 1, x / 2, y / 2, bw tAnd (k + 1) U V, P2 (k + 1), by omega, by go_num, by go_num, by go_num, by first | (rw [Hno.out, hx2, hy2, ho.out, hp.out]; simp [tAnd]; done) | (rw [Hno.out, hx2, hy2, ho.out]; simp [tAnd]), by rw [Hnp.out, hp.out], Hnx, Hny, Lib.hid rfl, Lib.hid rfl⟩
        case measure => simp [intOf]; omega
      · have ex : (x : Int) % 2 = 1 := by omega
        have ey : (y : Int) % 2 = 1 := by omega
        go_wp2_with fail
        go_round
        case rel => exact ⟨k + 1, x / 2, y / 2, bw tAnd (k + 1) U V, P2 (k + 1), by omega, by go_num, by go_num, by go_num, by first | (rw [Hno.out, hx2, hy2, ho.out, hp.out]; simp [tAnd]; done) | (rw [Hno.out, hx2, hy2, ho.out]; simp [tAnd]), by rw [Hnp.out, hp.out], Hnx, Hny, Lib.hid rfl, Lib.hid rfl⟩
        case measure => simp [intOf]; omega
    · obtain rfl : k = W := by omega
      go_wp2_with (first | (go_at_call 46; refine (refnorm_c _ _ hb _).mono ?_; rintro e w' ⟨rfl, rfl⟩))
      go_ret
      exact ⟨ret_int (by rw [ho.out]), (Below.refl _ _).alloc (Nat.le_refl _) _⟩
set_option maxHeartbeats 400000 in
theorem bitwiseOr (a b n : Int) (hb : IsBits n) (w : World) :
    Calls Try.prog 53 #[.int .i64 (a), .int .i64 (b), .int .i64 (n), .agg #[.int .i64 0, .int .i64 1, .int .i64 1, .int .i64 1]] w fun e w' => e = .returned (.int .i64 (nm n (bw tOr n.toNat (un n a).toNat (un n b).toNat))) ∧ Below w.heap.size w w' := by
  have hn : 0 ≤ n ∧ n ≤ 32 := by rcases hb with rfl | rfl | rfl <;> omega
  obtain ⟨W, rfl⟩ := Int.eq_ofNat_of_zero_le hn.1
  rw [Int.toNat_natCast]
  have hU := un_lt W a
  have hV := un_lt W b
  have hP := p2_31' hn.2
  generalize hu : un W a = u at *
  generalize hv : un W b = v at *
  obtain ⟨U, rfl⟩ := Int.eq_ofNat_of_zero_le hU.1
  obtain ⟨V, rfl⟩ := Int.eq_ofNat_of_zero_le hV.1
  rw [Int.toNat_natCast, Int.toNat_natCast]
  have HU := Lib.hid hu
  have HV := Lib.hid hv
  clear hu hv
  go_enter Try.func53, Try.ntmps53
  go_wp2_with fail
  refine (refuns_c a _ hb _).mono ?_
  rintro e w' ⟨rfl, rfl⟩
  rw [HU.out]
  go_wp2_with fail
  refine (refuns_c b _ hb _).mono ?_
  rintro e w' ⟨rfl, rfl⟩
  rw [HV.out]
  go_wp2_with fail
  go_loop [0, 1, 9, 10, 11] (fun a1 b1 o1 p1 i1 => ∃ k x y : Nat, ∃ o p : Int, k ≤ W ∧ i1 = .int .i64 k ∧ a1 = .int .i64 x ∧ b1 = .int .i64 y ∧ o1 = .int .i64 o ∧ p1 = .int .i64 p ∧ Hid (x = U / 2 ^ k) ∧ Hid (y = V / 2 ^ k) ∧ Hid (o = bw tOr k U V) ∧ Hid (p = P2 k)) (fun _ _ _ _ i => W - (intOf i).toNat)
  case atStart => exact ⟨0, U, V, 0, 1, Nat.zero_le _, rfl, rfl, rfl, rfl, rfl, Lib.hid (by simp), Lib.hid (by simp), Lib.hid rfl, Lib.hid rfl⟩
  case round =>
    obtain ⟨k, x, y, o, p, hk, rfl, rfl, rfl, rfl, rfl, hx, hy, ho, hp⟩ := hrel
    by_cases hlt : k < W
    · have hbd := bw_bd tOr tOr_bd k U V
      have hpb : 1 ≤ p ∧ p ≤ 4294967296 := by rw [hp.out]; exact ⟨p2_pos _, p2_mono (n := 32) (by omega)⟩
      have hob : 0 ≤ o ∧ o ≤ 4294967296 := by rw [ho.out]; have := p2_mono (m := k) (n := 32) (by omega); rw [p2_32] at this; omega
      clear hbd
      have hxb : (x : Int) ≤ 4294967296 := by have := Nat.div_le_self U (2 ^ k); rw [hx.out]; omega
      have hyb : (y : Int) ≤ 4294967296 := by have := Nat.div_le_self V (2 ^ k); rw [hy.out]; omega
      have hxy : (x % 2 = 0 ∨ x % 2 = 1) ∧ (y % 2 = 0 ∨ y % 2 = 1) := by omega
      have hnx := half_next U k x hx.out
      have hny := half_next V k y hy.out
      have Hnx := Lib.hid hnx
      have Hny := Lib.hid hny
      have Hno := Lib.hid (bw_next tOr k U V x y hx.out hy.out)
      have Hnp := Lib.hid (p2_succ k)
      clear hnx hny
      rcases hxy with ⟨hx2 | hx2, hy2 | hy2⟩
      · have ex : (x : Int) % 2 = 0 := by omega
        have ey : (y : Int) % 2 = 0 := by omega
        go_wp2_with fail
        go_round
        case rel => exact ⟨k + 1, x / 2, y / 2, bw tOr (k + 1) U V, P2 (k + 1), by omega, by go_num, by go_num, by go_num, by first | (rw [Hno.out, hx2, hy2, ho.out, hp.out]; simp [tOr]; done) | (rw [Hno.out, hx2, hy2, ho.out]; simp [tOr]), by rw [Hnp.out, hp.out], Hnx, Hny, Lib.hid rfl, Lib.hid rfl⟩
        case measure => simp [intOf]; omega
      · have ex : (x : Int) % 2 = 0 := by omega
        have ey : (y : Int) % 2 = 1 := by omega
        go_wp2_with fail
        go_round
        case rel => exact ⟨k + 1, x / 2, y / 2, bw tOr (k + 1) U V, P2 (k + 1), by omega, by go_num, by go_num, by go_num, by first | (rw [Hno.out, hx2, hy2, ho.out, hp.out]; simp [tOr]; done) | (rw [Hno.out, hx2, hy2, ho.out]; simp [tOr]), by rw [Hnp.out, hp.out], Hnx, Hny, Lib.hid rfl, Lib.hid rfl⟩
        case measure => simp [intOf]; omega
      · have ex : (x : Int) % 2 = 1 := by omega
        have ey : (y : Int) % 2 = 0 := by omega
        go_wp2_with fail
        go_round
        case rel => exact ⟨k + 1, x / 2, y / 2, bw tOr (k + 1) U V, P2 (k + 1), by omega, by go_num, by go_num, by go_num, by first | (rw [Hno.out, hx2, hy2, ho.out, hp.out]; simp [tOr]; done) | (rw [Hno.out, hx2, hy2, ho.out]; simp [tOr]), by rw [Hnp.out, hp.out], Hnx, Hny, Lib.hid rfl, Lib.hid rfl⟩
        case measure => simp [intOf]; omega
      · have ex : (x : Int) % 2 = 1 := by omega
        have ey : (y : Int) % 2 = 1 := by omega
        go_wp2_with fail
        go_round
        case rel => exact ⟨k + 1, x / 2, y / 2, bw tOr (k + 1) U V, P2 (k + 1), by omega, by go_num, by go_num, by go_num, by first | (rw [Hno.out, hx2, hy2, ho.out, hp.out]; simp [tOr]; done) | (rw [Hno.out, hx2, hy2, ho.out]; simp [tOr]), by rw [Hnp.out, hp.out], Hnx, Hny, Lib.hid rfl, Lib.hid rfl⟩
        case measure => simp [intOf]; omega
    · obtain rfl : k = W := by omega
      go_wp2_with (first | (go_at_call 46; refine (refnorm_c _ _ hb _).mono ?_; rintro e w' ⟨rfl, rfl⟩))
      go_ret
      exact ⟨ret_int (by rw [ho.out]), (Below.refl _ _).alloc (Nat.le_refl _) _⟩
set_option maxHeartbeats 400000 in
theorem bitwiseXor (a b n : Int) (hb : IsBits n) (w : World) :
    Calls Try.prog 53 #[.int .i64 (a), .int .i64 (b), .int .i64 (n), .agg #[.int .i64 0, .int .i64 1, .int .i64 1, .int .i64 0]] w fun e w' => e = .returned (.int .i64 (nm n (bw tXor n.toNat (un n a).toNat (un n b).toNat))) ∧ Below w.heap.size w w' := by
  have hn : 0 ≤ n ∧ n ≤ 32 := by rcases hb with rfl | rfl | rfl <;> omega
  obtain ⟨W, rfl⟩ := Int.eq_ofNat_of_zero_le hn.1
  rw [Int.toNat_natCast]
  have hU := un_lt W a
  have hV := un_lt W b
  have hP := p2_31' hn.2
  generalize hu : un W a = u at *
  generalize hv : un W b = v at *
  obtain ⟨U, rfl⟩ := Int.eq_ofNat_of_zero_le hU.1
  obtain ⟨V, rfl⟩ := Int.eq_ofNat_of_zero_le hV.1
  rw [Int.toNat_natCast, Int.toNat_natCast]
  have HU := Lib.hid hu
  have HV := Lib.hid hv
  clear hu hv
  go_enter Try.func53, Try.ntmps53
  go_wp2_with fail
  refine (refuns_c a _ hb _).mono ?_
  rintro e w' ⟨rfl, rfl⟩
  rw [HU.out]
  go_wp2_with fail
  refine (refuns_c b _ hb _).mono ?_
  rintro e w' ⟨rfl, rfl⟩
  rw [HV.out]
  go_wp2_with fail
  go_loop [0, 1, 9, 10, 11] (fun a1 b1 o1 p1 i1 => ∃ k x y : Nat, ∃ o p : Int, k ≤ W ∧ i1 = .int .i64 k ∧ a1 = .int .i64 x ∧ b1 = .int .i64 y ∧ o1 = .int .i64 o ∧ p1 = .int .i64 p ∧ Hid (x = U / 2 ^ k) ∧ Hid (y = V / 2 ^ k) ∧ Hid (o = bw tXor k U V) ∧ Hid (p = P2 k)) (fun _ _ _ _ i => W - (intOf i).toNat)
  case atStart => exact ⟨0, U, V, 0, 1, Nat.zero_le _, rfl, rfl, rfl, rfl, rfl, Lib.hid (by simp), Lib.hid (by simp), Lib.hid rfl, Lib.hid rfl⟩
  case round =>
    obtain ⟨k, x, y, o, p, hk, rfl, rfl, rfl, rfl, rfl, hx, hy, ho, hp⟩ := hrel
    by_cases hlt : k < W
    · have hbd := bw_bd tXor tXor_bd k U V
      have hpb : 1 ≤ p ∧ p ≤ 4294967296 := by rw [hp.out]; exact ⟨p2_pos _, p2_mono (n := 32) (by omega)⟩
      have hob : 0 ≤ o ∧ o ≤ 4294967296 := by rw [ho.out]; have := p2_mono (m := k) (n := 32) (by omega); rw [p2_32] at this; omega
      clear hbd
      have hxb : (x : Int) ≤ 4294967296 := by have := Nat.div_le_self U (2 ^ k); rw [hx.out]; omega
      have hyb : (y : Int) ≤ 4294967296 := by have := Nat.div_le_self V (2 ^ k); rw [hy.out]; omega
      have hxy : (x % 2 = 0 ∨ x % 2 = 1) ∧ (y % 2 = 0 ∨ y % 2 = 1) := by omega
      have hnx := half_next U k x hx.out
      have hny := half_next V k y hy.out
      have Hnx := Lib.hid hnx
      have Hny := Lib.hid hny
      have Hno := Lib.hid (bw_next tXor k U V x y hx.out hy.out)
      have Hnp := Lib.hid (p2_succ k)
      clear hnx hny
      rcases hxy with ⟨hx2 | hx2, hy2 | hy2⟩
      · have ex : (x : Int) % 2 = 0 := by omega
        have ey : (y : Int) % 2 = 0 := by omega
        go_wp2_with fail
        go_round
        case rel => exact ⟨k + 1, x / 2, y / 2, bw tXor (k + 1) U V, P2 (k + 1), by omega, by go_num, by go_num, by go_num, by first | (rw [Hno.out, hx2, hy2, ho.out, hp.out]; simp [tXor]; done) | (rw [Hno.out, hx2, hy2, ho.out]; simp [tXor]), by rw [Hnp.out, hp.out], Hnx, Hny, Lib.hid rfl, Lib.hid rfl⟩
        case measure => simp [intOf]; omega
      · have ex : (x : Int) % 2 = 0 := by omega
        have ey : (y : Int) % 2 = 1 := by omega
        go_wp2_with fail
        go_round
        case rel => exact ⟨k + 1, x / 2, y / 2, bw tXor (k + 1) U V, P2 (k + 1), by omega, by go_num, by go_num, by go_num, by first | (rw [Hno.out, hx2, hy2, ho.out, hp.out]; simp [tXor]; done) | (rw [Hno.out, hx2, hy2, ho.out]; simp [tXor]), by rw [Hnp.out, hp.out], Hnx, Hny, Lib.hid rfl, Lib.hid rfl⟩
        case measure => simp [intOf]; omega
      · have ex : (x : Int) % 2 = 1 := by omega
        have ey : (y : Int) % 2 = 0 := by omega
        go_wp2_with fail
        go_round
        case rel => exact ⟨k + 1, x / 2, y / 2, bw tXor (k + 1) U V, P2 (k + 1), by omega, by go_num, by go_num, by go_num, by first | (rw [Hno.out, hx2, hy2, ho.out, hp.out]; simp [tXor]; done) | (rw [Hno.out, hx2, hy2, ho.out]; simp [tXor]), by rw [Hnp.out, hp.out], Hnx, Hny, Lib.hid rfl, Lib.hid rfl⟩
        case measure => simp [intOf]; omega
      · have ex : (x : Int) % 2 = 1 := by omega
        have ey : (y : Int) % 2 = 1 := by omega
        go_wp2_with fail
        go_round
        case rel => exact ⟨k + 1, x / 2, y / 2, bw tXor (k + 1) U V, P2 (k + 1), by omega, by go_num, by go_num, by go_num, by first | (rw [Hno.out, hx2, hy2, ho.out, hp.out]; simp [tXor]; done) | (rw [Hno.out, hx2, hy2, ho.out]; simp [tXor]), by rw [Hnp.out, hp.out], Hnx, Hny, Lib.hid rfl, Lib.hid rfl⟩
        case measure => simp [intOf]; omega
    · obtain rfl : k = W := by omega
      go_wp2_with (first | (go_at_call 46; refine (refnorm_c _ _ hb _).mono ?_; rintro e w' ⟨rfl, rfl⟩))
      go_ret
      exact ⟨ret_int (by rw [ho.out]), (Below.refl _ _).alloc (Nat.le_refl _) _⟩
set_option maxHeartbeats 400000 in
theorem bitwiseEqv (a b n : Int) (hb : IsBits n) (w : World) :
    Calls Try.prog 53 #[.int .i64 (a), .int .i64 (b), .int .i64 (n), .agg #[.int .i64 1, .int .i64 0, .int .i64 0, .int .i64 1]] w fun e w' => e = .returned (.int .i64 (nm n (bw tEqv n.toNat (un n a).toNat (un n b).toNat))) ∧ Below w.heap.size w w' := by
  have hn : 0 ≤ n ∧ n ≤ 32 := by rcases hb with rfl | rfl | rfl <;> omega
  obtain ⟨W, rfl⟩ := Int.eq_ofNat_of_zero_le hn.1
  rw [Int.toNat_natCast]
  have hU := un_lt W a
  have hV := un_lt W b
  have hP := p2_31' hn.2
  generalize hu : un W a = u at *
  generalize hv : un W b = v at *
  obtain ⟨U, rfl⟩ := Int.eq_ofNat_of_zero_le hU.1
  obtain ⟨V, rfl⟩ := Int.eq_ofNat_of_zero_le hV.1
  rw [Int.toNat_natCast, Int.toNat_natCast]
  have HU := Lib.hid hu
  have HV := Lib.hid hv
  clear hu hv
  go_enter Try.func53, Try.ntmps53
  go_wp2_with fail
  refine (refuns_c a _ hb _).mono ?_
  rintro e w' ⟨rfl, rfl⟩
  rw [HU.out]
  go_wp2_with fail
  refine (refuns_c b _ hb _).mono ?_
  rintro e w' ⟨rfl, rfl⟩
  rw [HV.out]
  go_wp2_with fail
  go_loop [0, 1, 9, 10, 11] (fun a1 b1 o1 p1 i1 => ∃ k x y : Nat, ∃ o p : Int, k ≤ W ∧ i1 = .int .i64 k ∧ a1 = .int .i64 x ∧ b1 = .int .i64 y ∧ o1 = .int .i64 o ∧ p1 = .int .i64 p ∧ Hid (x = U / 2 ^ k) ∧ Hid (y = V / 2 ^ k) ∧ Hid (o = bw tEqv k U V) ∧ Hid (p = P2 k)) (fun _ _ _ _ i => W - (intOf i).toNat)
  case atStart => exact ⟨0, U, V, 0, 1, Nat.zero_le _, rfl, rfl, rfl, rfl, rfl, Lib.hid (by simp), Lib.hid (by simp), Lib.hid rfl, Lib.hid rfl⟩
  case round =>
    obtain ⟨k, x, y, o, p, hk, rfl, rfl, rfl, rfl, rfl, hx, hy, ho, hp⟩ := hrel
    by_cases hlt : k < W
    · have hbd := bw_bd tEqv tEqv_bd k U V
      have hpb : 1 ≤ p ∧ p ≤ 4294967296 := by rw [hp.out]; exact ⟨p2_pos _, p2_mono (n := 32) (by omega)⟩
      have hob : 0 ≤ o ∧ o ≤ 4294967296 := by rw [ho.out]; have := p2_mono (m := k) (n := 32) (by omega); rw [p2_32] at this; omega
      clear hbd
      have hxb : (x : Int) ≤ 4294967296 := by have := Nat.div_le_self U (2 ^ k); rw [hx.out]; omega
      have hyb : (y : Int) ≤ 4294967296 := by have := Nat.div_le_self V (2 ^ k); rw [hy.out]; omega
      have hxy : (x % 2 = 0 ∨ x % 2 = 1) ∧ (y % 2 = 0 ∨ y % 2 = 1) := by omega
      have hnx := half_next U k x hx.out
      have hny := half_next V k y hy.out
      have Hnx := Lib.hid hnx
      have Hny := Lib.hid hny
      have Hno := Lib.hid (bw_next tEqv k U V x y hx.out hy.out)
      have Hnp := Lib.hid (p2_succ k)
      clear hnx hny
      rcases hxy with ⟨hx2 | hx2, hy2 | hy2⟩
      · have ex : (x : Int) % 2 = 0 := by omega
        have ey : (y : Int) % 2 = 0 := by omega
        go_wp2_with fail
        go_round
        case rel => exact ⟨k + 1, x / 2, y / 2, bw tEqv (k + 1) U V, P2 (k + 1), by omega, by go_num, by go_num, by go_num, by first | (rw [Hno.out, hx2, hy2, ho.out, hp.out]; simp [tEqv, tXor]; done) | (rw [Hno.out, hx2, hy2, ho.out]; simp [tEqv, tXor]), by rw [Hnp.out, hp.out], Hnx, Hny, Lib.hid rfl, Lib.hid rfl⟩
        case measure => simp [intOf]; omega
      · have ex : (x : Int) % 2 = 0 := by omega
        have ey : (y : Int) % 2 = 1 := by omega
        go_wp2_with fail
        go_round
        case rel => exact ⟨k + 1, x / 2, y / 2, bw tEqv (k + 1) U V, P2 (k + 1), by omega, by go_num, by go_num, by go_num, by first | (rw [Hno.out, hx2, hy2, ho.out, hp.out]; simp [tEqv, tXor]; done) | (rw [Hno.out, hx2, hy2, ho.out]; simp [tEqv, tXor]), by rw [Hnp.out, hp.out], Hnx, Hny, Lib.hid rfl, Lib.hid rfl⟩
        case measure => simp [intOf]; omega
      · have ex : (x : Int) % 2 = 1 := by omega
        have ey : (y : Int) % 2 = 0 := by omega
        go_wp2_with fail
        go_round
        case rel => exact ⟨k + 1, x / 2, y / 2, bw tEqv (k + 1) U V, P2 (k + 1), by omega, by go_num, by go_num, by go_num, by first | (rw [Hno.out, hx2, hy2, ho.out, hp.out]; simp [tEqv, tXor]; done) | (rw [Hno.out, hx2, hy2, ho.out]; simp [tEqv, tXor]), by rw [Hnp.out, hp.out], Hnx, Hny, Lib.hid rfl, Lib.hid rfl⟩
        case measure => simp [intOf]; omega
      · have ex : (x : Int) % 2 = 1 := by omega
        have ey : (y : Int) % 2 = 1 := by omega
        go_wp2_with fail
        go_round
        case rel => exact ⟨k + 1, x / 2, y / 2, bw tEqv (k + 1) U V, P2 (k + 1), by omega, by go_num, by go_num, by go_num, by first | (rw [Hno.out, hx2, hy2, ho.out, hp.out]; simp [tEqv, tXor]; done) | (rw [Hno.out, hx2, hy2, ho.out]; simp [tEqv, tXor]), by rw [Hnp.out, hp.out], Hnx, Hny, Lib.hid rfl, Lib.hid rfl⟩
        case measure => simp [intOf]; omega
    · obtain rfl : k = W := by omega
      go_wp2_with (first | (go_at_call 46; refine (refnorm_c _ _ hb _).mono ?_; rintro e w' ⟨rfl, rfl⟩))
      go_ret
      exact ⟨ret_int (by rw [ho.out]), (Below.refl _ _).alloc (Nat.le_refl _) _⟩
end Go.Proofs.Ytmhifelkihcidaa
