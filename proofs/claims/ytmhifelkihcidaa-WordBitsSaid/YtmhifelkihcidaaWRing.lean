/- Plain mathematics: words obey the laws of rings, and bits those of sets. No program is named here. -/
import Derived.Test.YtmhifelkihcidaaWMath2
namespace Go.Proofs.Ytmhifelkihcidaa.WM
open Go.RowKit
set_option linter.unusedVariables false

theorem nm_add_l (n a b : Int) : nm n (nm n a + b) = nm n (a + b) := by unfold nm; simp
theorem nm_add_r (n a b : Int) : nm n (a + nm n b) = nm n (a + b) := by unfold nm; simp
theorem nm_sub_l (n a b : Int) : nm n (nm n a - b) = nm n (a - b) := by unfold nm; simp
theorem nm_mul_l (n a b : Int) : nm n (nm n a * b) = nm n (a * b) := by unfold nm; simp
theorem nm_mul_r (n a b : Int) : nm n (a * nm n b) = nm n (a * b) := by unfold nm; simp
theorem ap4 (n a b : Int) : apw 4 a b n = nm n (a + b) := by show nm n (nm n a + nm n b) = _; rw [nm_add_l, nm_add_r]
theorem ap1 (n a b : Int) : apw 1 a b n = nm n (a * b) := by show nm n (nm n a * nm n b) = _; rw [nm_mul_l, nm_mul_r]
theorem ap5 (n a b : Int) : apw 5 a b n = nm n (a - b) := by show nm n (nm n a - nm n b) = _; rw [nm_sub_l]; unfold nm; simp
theorem ap18 (n a b : Int) : apw 18 a b n = nm n (-a) := by show nm n (-(nm n a)) = _; unfold nm; rw [← Int.zero_sub, Int.sub_bmod_bmod, Int.zero_sub]
theorem ring1 (n x y : Int) : apw 4 x y n = apw 4 y x n := by rw [ap4, ap4, Int.add_comm]
theorem ring2 (n x y : Int) : apw 1 x y n = apw 1 y x n := by rw [ap1, ap1, Int.mul_comm]
theorem ring3 {n x : Int} (y : Int) (hx : nm n x = x) : apw 5 (apw 4 x y n) y n = x := by
  rw [ap5, ap4, nm_sub_l, show x + y - y = x from by omega, hx]
theorem ring4 (n x y z : Int) : apw 4 (apw 4 x y n) z n = apw 4 x (apw 4 y z n) n := by
  rw [ap4, ap4, ap4, ap4, nm_add_l, nm_add_r, Int.add_assoc]
theorem ring5 (n x y z : Int) : apw 1 (apw 1 x y n) z n = apw 1 x (apw 1 y z n) n := by
  rw [ap1, ap1, ap1, ap1, nm_mul_l, nm_mul_r, Int.mul_assoc]
theorem ring6 (n x y z : Int) : apw 1 x (apw 4 y z n) n = apw 4 (apw 1 x y n) (apw 1 x z n) n := by
  rw [ap1, ap4, ap4, ap1, ap1, nm_mul_r, nm_add_l, nm_add_r, Int.mul_add]
theorem nm_0 (n : Int) : nm n 0 = 0 := by unfold nm; simp
theorem ring7 (n x : Int) : apw 4 x (apw 18 x 0 n) n = 0 := by
  rw [ap4, ap18, nm_add_r, show x + -x = 0 from by omega, nm_0]
theorem ring8 {n x y : Int} (hx : nm n x = x) (hy : nm n y = y) : apw 4 (apw 1 y (apw 2 x y n) n) (apw 3 x y n) n = x := by
  have e2 : apw 2 x y n = nm n (x.tdiv y) := by show nm n ((nm n x).tdiv (nm n y)) = _; rw [hx, hy]
  have e3 : apw 3 x y n = nm n (x.tmod y) := by show nm n ((nm n x).tmod (nm n y)) = _; rw [hx, hy]
  rw [ap4, ap1, e2, e3, nm_mul_r, nm_add_l, nm_add_r, Int.mul_tdiv_add_tmod, hx]

/-! ### bits -/
theorem ap8 {n : Int} (hb : IsBits n) (a b : Int) : apw 8 a b n = (BitVec.ofInt n.toNat a &&& BitVec.ofInt n.toNat b).toInt := by
  show nm n (bits .and .i64 (nm n a) (nm n b)) = _
  rw [and_nm hb]; unfold nm; unfold M; rw [ofInt_bmod, ofInt_bmod]
theorem ap9 {n : Int} (hb : IsBits n) (a b : Int) : apw 9 a b n = (BitVec.ofInt n.toNat a ||| BitVec.ofInt n.toNat b).toInt := by
  show nm n (bits .or .i64 (nm n a) (nm n b)) = _
  rw [or_nm hb]; unfold nm; unfold M; rw [ofInt_bmod, ofInt_bmod]
theorem ap10 {n : Int} (hb : IsBits n) (a b : Int) : apw 10 a b n = (BitVec.ofInt n.toNat a ^^^ BitVec.ofInt n.toNat b).toInt := by
  show nm n (bits .xor .i64 (nm n a) (nm n b)) = _
  rw [xor_nm hb]; unfold nm; unfold M; rw [ofInt_bmod, ofInt_bmod]
theorem ap11 {n : Int} (hb : IsBits n) (a b : Int) : apw 11 a b n = (~~~ (BitVec.ofInt n.toNat a ^^^ BitVec.ofInt n.toNat b)).toInt := by
  show nm n (bits .xor .i64 (-1) (bits .xor .i64 (nm n a) (nm n b))) = _
  rw [eqv_nm hb]; unfold nm; unfold M; rw [ofInt_bmod, ofInt_bmod]
theorem ap19 {n : Int} (hb : IsBits n) (a b : Int) : apw 19 a b n = (~~~ BitVec.ofInt n.toNat a).toInt := by
  show nm n (bits .xor .i64 (-1) (nm n a)) = _
  rw [not_nm hb]; unfold nm; unfold M; rw [ofInt_bmod]
theorem toInt_of {n x : Int} (hx : nm n x = x) : (BitVec.ofInt n.toNat x).toInt = x := by rw [BitVec.toInt_ofInt]; exact hx
theorem bit1 {n : Int} (hb : IsBits n) (x y : Int) : apw 8 x y n = apw 19 (apw 9 (apw 19 x 0 n) (apw 19 y 0 n) n) 0 n := by
  rw [ap19 hb, ap9 hb, ap19 hb, ap19 hb, BitVec.ofInt_toInt, BitVec.ofInt_toInt, BitVec.ofInt_toInt, ap8 hb, BitVec.not_or, BitVec.not_not, BitVec.not_not]
theorem bit2 {n : Int} (hb : IsBits n) (x y : Int) : apw 11 x y n = apw 19 (apw 10 x y n) 0 n := by
  rw [ap19 hb, ap10 hb, BitVec.ofInt_toInt, ap11 hb]
theorem bit3 {n x : Int} (hb : IsBits n) (y : Int) (hx : nm n x = x) : apw 10 (apw 10 x y n) y n = x := by
  rw [ap10 hb, ap10 hb, BitVec.ofInt_toInt, BitVec.xor_assoc, BitVec.xor_self, BitVec.xor_zero, toInt_of hx]
/-- 2 to the power k, by doubling -/
def pw (n : Int) : Nat → Int
  | 0 => 1
  | k + 1 => apw 4 (pw n k) (pw n k) n
theorem pw_nm (n : Int) (k : Nat) (hk : 1 ≤ k) : pw n k = nm n (P2 k) := by
  induction k with
  | zero => omega
  | succ k ih =>
    rw [pw, ap4, show ((k + 1 : Nat) : Int) = (k : Int) + 1 from by omega, p2_succ]
    by_cases h : 1 ≤ k
    · rw [ih h, nm_add_l, nm_add_r]; congr 1; omega
    · obtain rfl : k = 0 := by omega
      rfl
theorem one_nm {n : Int} (hb : IsBits n) : nm n 1 = 1 := by rcases hb with rfl | rfl | rfl <;> decide
theorem pw_nm' {n : Int} (hb : IsBits n) (k : Nat) : pw n k = nm n (P2 k) := by
  by_cases h : 1 ≤ k
  · exact pw_nm n k h
  · obtain rfl : k = 0 := by omega
    exact (one_nm hb).symm
theorem and_plus_or (a b n : Nat) : (a &&& b) % 2 ^ n + (a ||| b) % 2 ^ n = a % 2 ^ n + b % 2 ^ n := by
  induction n with
  | zero => simp [Nat.mod_one]
  | succ n ih =>
    rw [mod_succ, mod_succ (a ||| b), mod_succ a, mod_succ b]
    have h : (a &&& b) / 2 ^ n % 2 + (a ||| b) / 2 ^ n % 2 = a / 2 ^ n % 2 + b / 2 ^ n % 2 := by
      rw [bit_toNat, bit_toNat, bit_toNat a, bit_toNat b, Nat.testBit_and, Nat.testBit_or]
      cases a.testBit n <;> cases b.testBit n <;> rfl
    have h2 := congrArg (2 ^ n * ·) h
    simp only [Nat.mul_add] at h2
    omega
theorem nm_toInt (n : Int) (z : BitVec n.toNat) : nm n z.toInt = z.toInt := by
  rw [← nm_toNat, nm_nm]
theorem bit6 {n : Int} (hb : IsBits n) (x y : Int) : apw 4 (apw 8 x y n) (apw 9 x y n) n = apw 4 x y n := by
  have h := and_plus_or (BitVec.ofInt n.toNat x).toNat (BitVec.ofInt n.toNat y).toNat n.toNat
  rw [← BitVec.toNat_and, ← BitVec.toNat_or, mod_toNat, mod_toNat, mod_toNat, mod_toNat] at h
  rw [ap4, ap8 hb, ap9 hb, ap4, ← nm_toNat, ← nm_toNat, nm_add_l, nm_add_r, ← Int.natCast_add, h, Int.natCast_add, ← un_toNat, ← un_toNat]
  have u1 := (un_lt n x).1
  have u2 := (un_lt n y).1
  rw [Int.toNat_of_nonneg u1, Int.toNat_of_nonneg u2, ← nm_add_l, ← nm_add_r, nm_un, nm_un, nm_add_l, nm_add_r]
theorem nm_small {n : Int} (hb : IsBits n) (m : Nat) (hm : (m : Int) < n) : nm n (m : Int) = m := by
  rcases hb with rfl | rfl | rfl
  · rw [nm16, Int.bmod_def]; omega
  · rw [nm24, Int.bmod_def]; omega
  · rw [nm32, Int.bmod_def]; omega
theorem ap6 {n : Int} (hb : IsBits n) (x : Int) (m : Nat) (hm : (m : Int) < n) : apw 6 x m n = nm n (x * P2 m) := by
  unfold apw
  rw [nm_small hb m hm]
  show nm n (if (m : Int) < 0 ∨ n ≤ (m : Int) then 0 else nm n x * P2 m) = _
  rw [if_neg (by omega), nm_mul_l]
theorem ap7 {n : Int} (hb : IsBits n) (x : Int) (m : Nat) (hm : (m : Int) < n) : apw 7 x m n = nm n (un n x / P2 m) := by
  unfold apw
  rw [nm_small hb m hm]
  show nm n (if (m : Int) < 0 ∨ n ≤ (m : Int) then 0 else un n (nm n x) / P2 m) = _
  rw [if_neg (by omega), un_nm]
theorem bit4 {n : Int} (hb : IsBits n) (x : Int) (m : Nat) (hm : (m : Int) < n) : apw 6 x m n = apw 1 x (pw n m) n := by
  rw [ap6 hb x m hm, ap1, pw_nm' hb, nm_mul_r]
theorem low_bits {n : Int} (hb : IsBits n) (m : Nat) (hm : (m : Int) < n) : BitVec.ofInt n.toNat (apw 5 (pw n m) 1 n) = BitVec.ofNat n.toNat (2 ^ m - 1) := by
  apply BitVec.eq_of_toInt_eq
  rw [BitVec.toInt_ofInt, ap5, pw_nm' hb, nm_sub_l, BitVec.toInt_ofNat']
  have e : P2 m - 1 = ((2 ^ m - 1 : Nat) : Int) := by
    have : 1 ≤ 2 ^ m := Nat.one_le_two_pow
    show ((2 ^ (m : Int).toNat : Nat) : Int) - 1 = _
    rw [Int.toNat_natCast]; omega
  rw [e]
  exact nm_nm n _
theorem shift_back {W : Nat} (z : BitVec W) (m : Nat) (hm : m < W) : (z >>> m) <<< m = z &&& ~~~ (BitVec.ofNat W (2 ^ m - 1)) := by
  apply BitVec.eq_of_getLsbD_eq
  intro i hi
  rw [BitVec.getLsbD_shiftLeft, BitVec.getLsbD_ushiftRight, BitVec.getLsbD_and, BitVec.getLsbD_not, BitVec.getLsbD_ofNat, Nat.testBit_two_pow_sub_one]
  by_cases h : i < m
  · simp [h, hi]
  · simp [h, hi, show m + (i - m) = i by omega]
theorem bit5 {n : Int} (hb : IsBits n) (x : Int) (m : Nat) (hm : (m : Int) < n) : apw 6 (apw 7 x m n) m n = apw 8 x (apw 19 (apw 5 (pw n m) 1 n) 0 n) n := by
  have hW : m < n.toNat := by omega
  rw [ap8 hb, ap19 hb, BitVec.ofInt_toInt, low_bits hb m hm, ← shift_back _ m hW, ap6 hb _ m hm, ap7 hb x m hm, nm_mul_l, ← nm_toNat, BitVec.toNat_shiftLeft, BitVec.toNat_ushiftRight, ← un_toNat, Nat.shiftLeft_eq, Nat.shiftRight_eq_div_pow]
  have hu := (un_lt n x).1
  obtain ⟨u, hu2⟩ := Int.eq_ofNat_of_zero_le hu
  rw [hu2, Int.toNat_natCast]
  have e : P2 m = ((2 ^ m : Nat) : Int) := rfl
  rw [e, ← Int.natCast_ediv, ← Int.natCast_mul, Int.natCast_emod]
  show _ = nm n (((u / 2 ^ m * 2 ^ m : Nat) : Int) % ((2 ^ n.toNat : Nat) : Int))
  rw [show ((2 ^ n.toNat : Nat) : Int) = P2 n from rfl, nm_emod]
end Go.Proofs.Ytmhifelkihcidaa.WM
