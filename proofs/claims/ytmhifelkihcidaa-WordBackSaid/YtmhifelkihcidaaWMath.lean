/- Plain mathematics of words of 16, 24 and 32 bits: norming, bits, bytes. No program is named here. -/
import Derived.PlainAid
namespace Go.Proofs.Ytmhifelkihcidaa.WM
open Go.RowKit

/-- a length of words -/
def IsBits (b : Int) : Prop := b = 16 ∨ b = 24 ∨ b = 32
instance (b : Int) : Decidable (IsBits b) := by unfold IsBits; infer_instance
/-- 2 to the length -/
def M (b : Int) : Nat := 2 ^ b.toNat
/-- the word of a number -/
def nm (b v : Int) : Int := Int.bmod v (M b)
/-- the number without a sign -/
def un (b v : Int) : Int := v % (M b : Int)

theorem nm16 (v : Int) : nm 16 v = Int.bmod v 65536 := rfl
theorem nm24 (v : Int) : nm 24 v = Int.bmod v 16777216 := rfl
theorem nm32 (v : Int) : nm 32 v = Int.bmod v 4294967296 := rfl
theorem un16 (v : Int) : un 16 v = v % 65536 := rfl
theorem un24 (v : Int) : un 24 v = v % 16777216 := rfl
theorem un32 (v : Int) : un 32 v = v % 4294967296 := rfl

theorem shl16 (v : Int) : wrap64 (v * 281474976710656) / 281474976710656 = nm 16 v := by
  rw [nm16, Int.bmod_def]; unfold wrap64; omega
theorem shl24 (v : Int) : wrap64 (v * 1099511627776) / 1099511627776 = nm 24 v := by
  rw [nm24, Int.bmod_def]; unfold wrap64; omega
theorem shl32 (v : Int) : wrap64 (v * 4294967296) / 4294967296 = nm 32 v := by
  rw [nm32, Int.bmod_def]; unfold wrap64; omega

theorem nm_bd {b : Int} (hb : IsBits b) (v : Int) : -2147483648 ≤ nm b v ∧ nm b v ≤ 2147483647 := by
  rcases hb with rfl | rfl | rfl
  · rw [nm16, Int.bmod_def]; omega
  · rw [nm24, Int.bmod_def]; omega
  · rw [nm32, Int.bmod_def]; omega
theorem un_bd {b : Int} (hb : IsBits b) (v : Int) : 0 ≤ un b v ∧ un b v ≤ 4294967295 := by
  rcases hb with rfl | rfl | rfl
  · rw [un16]; omega
  · rw [un24]; omega
  · rw [un32]; omega

theorem nm_nm (b v : Int) : nm b (nm b v) = nm b v := by unfold nm; simp
theorem un_nm (b v : Int) : un b (nm b v) = un b v := by unfold nm un; simp
theorem nm_un (b v : Int) : nm b (un b v) = nm b v := by unfold nm un; simp

/-- 2 to a power, and the length's own -/
def P2 (n : Int) : Int := ((2 ^ n.toNat : Nat) : Int)
theorem p2_0 : P2 0 = 1 := rfl
theorem p2_succ (k : Nat) : P2 ((k : Int) + 1) = P2 k * 2 := by
  unfold P2
  rw [show ((k : Int) + 1).toNat = k + 1 from by omega, Nat.pow_succ, Int.toNat_natCast]; simp
theorem p2_pos (n : Int) : 1 ≤ P2 n := by
  unfold P2; have := Nat.one_le_two_pow (n := n.toNat); omega
theorem p2_mono {m n : Int} (h : m ≤ n) : P2 m ≤ P2 n := by
  unfold P2
  have : 2 ^ m.toNat ≤ 2 ^ n.toNat := Nat.pow_le_pow_right (by omega) (by omega)
  omega
theorem p2_62 {n : Int} (h : n ≤ 62) : P2 n ≤ 4611686018427387904 := p2_mono h
theorem p2_16 : P2 16 = 65536 := rfl
theorem p2_24 : P2 24 = 16777216 := rfl
theorem p2_32 : P2 32 = 4294967296 := rfl

/-- the other way to norm: by the remainder toward 0 -/
def rem1 (p v : Int) : Int := if v.tmod p < (-p).tdiv 2 then v.tmod p + p else v.tmod p
def rem2 (p v : Int) : Int := if p.tdiv 2 ≤ rem1 p v then rem1 p v - p else rem1 p v
theorem rem16 (v : Int) : rem2 65536 v = nm 16 v := by
  rw [nm16, Int.bmod_def]; unfold rem2 rem1
  have e1 : (-65536 : Int).tdiv 2 = -32768 := rfl
  have e2 : (65536 : Int).tdiv 2 = 32768 := rfl
  have e3 : Int.natAbs 65536 = 65536 := rfl
  rw [e1, e2, Int.tmod_eq_emod, e3]
  split <;> omega
theorem rem24 (v : Int) : rem2 16777216 v = nm 24 v := by
  rw [nm24, Int.bmod_def]; unfold rem2 rem1
  have e1 : (-16777216 : Int).tdiv 2 = -8388608 := rfl
  have e2 : (16777216 : Int).tdiv 2 = 8388608 := rfl
  have e3 : Int.natAbs 16777216 = 16777216 := rfl
  rw [e1, e2, Int.tmod_eq_emod, e3]
  split <;> omega
theorem rem32 (v : Int) : rem2 4294967296 v = nm 32 v := by
  rw [nm32, Int.bmod_def]; unfold rem2 rem1
  have e1 : (-4294967296 : Int).tdiv 2 = -2147483648 := rfl
  have e2 : (4294967296 : Int).tdiv 2 = 2147483648 := rfl
  have e3 : Int.natAbs 4294967296 = 4294967296 := rfl
  rw [e1, e2, Int.tmod_eq_emod, e3]
  split <;> omega
theorem rem16' (v : Int) : nm 16 v = if 32768 ≤ (if v.tmod 65536 < -32768 then v.tmod 65536 + 65536 else v.tmod 65536) then (if v.tmod 65536 < -32768 then v.tmod 65536 + 65536 else v.tmod 65536) - 65536 else (if v.tmod 65536 < -32768 then v.tmod 65536 + 65536 else v.tmod 65536) := (rem16 v).symm
theorem tmod16_bd (v : Int) : -65536 < v.tmod 65536 ∧ v.tmod 65536 < 65536 := by
  have e3 : Int.natAbs 65536 = 65536 := rfl
  rw [Int.tmod_eq_emod, e3]
  split <;> omega
theorem rem24' (v : Int) : nm 24 v = if 8388608 ≤ (if v.tmod 16777216 < -8388608 then v.tmod 16777216 + 16777216 else v.tmod 16777216) then (if v.tmod 16777216 < -8388608 then v.tmod 16777216 + 16777216 else v.tmod 16777216) - 16777216 else (if v.tmod 16777216 < -8388608 then v.tmod 16777216 + 16777216 else v.tmod 16777216) := (rem24 v).symm
theorem tmod24_bd (v : Int) : -16777216 < v.tmod 16777216 ∧ v.tmod 16777216 < 16777216 := by
  have e3 : Int.natAbs 16777216 = 16777216 := rfl
  rw [Int.tmod_eq_emod, e3]
  split <;> omega
theorem rem32' (v : Int) : nm 32 v = if 2147483648 ≤ (if v.tmod 4294967296 < -2147483648 then v.tmod 4294967296 + 4294967296 else v.tmod 4294967296) then (if v.tmod 4294967296 < -2147483648 then v.tmod 4294967296 + 4294967296 else v.tmod 4294967296) - 4294967296 else (if v.tmod 4294967296 < -2147483648 then v.tmod 4294967296 + 4294967296 else v.tmod 4294967296) := (rem32 v).symm
theorem tmod32_bd (v : Int) : -4294967296 < v.tmod 4294967296 ∧ v.tmod 4294967296 < 4294967296 := by
  have e3 : Int.natAbs 4294967296 = 4294967296 := rfl
  rw [Int.tmod_eq_emod, e3]
  split <;> omega
theorem un_of_nm {b : Int} (hb : IsBits b) (v : Int) : un b v = if nm b v < 0 then nm b v + P2 b else nm b v := by
  rcases hb with rfl | rfl | rfl
  · rw [nm16, un16, p2_16, Int.bmod_def]; omega
  · rw [nm24, un24, p2_24, Int.bmod_def]; omega
  · rw [nm32, un32, p2_32, Int.bmod_def]; omega

theorem wrap_bmod (n : Int) : IntKind.i64.wrap n = Int.bmod n (2 ^ 64) := by
  rw [IntKind.wrap_i64, Int.bmod_def]; omega
theorem bits_and' (x y : Int) : bits .and .i64 x y = IntKind.i64.wrap (((BitVec.ofInt 64 x &&& BitVec.ofInt 64 y : BitVec 64).toNat : Nat) : Int) := rfl
theorem bits_or' (x y : Int) : bits .or .i64 x y = IntKind.i64.wrap (((BitVec.ofInt 64 x ||| BitVec.ofInt 64 y : BitVec 64).toNat : Nat) : Int) := rfl
theorem bits_xor' (x y : Int) : bits .xor .i64 x y = IntKind.i64.wrap (((BitVec.ofInt 64 x ^^^ BitVec.ofInt 64 y : BitVec 64).toNat : Nat) : Int) := rfl
theorem bits_andNot' (x y : Int) : bits .andNot .i64 x y = IntKind.i64.wrap (((BitVec.ofInt 64 x &&& ~~~ BitVec.ofInt 64 y : BitVec 64).toNat : Nat) : Int) := rfl
theorem bits_and (x y : Int) : bits .and .i64 x y = (BitVec.ofInt 64 x &&& BitVec.ofInt 64 y).toInt := by
  rw [bits_and', wrap_bmod, BitVec.toInt_eq_toNat_bmod]
theorem bits_or (x y : Int) : bits .or .i64 x y = (BitVec.ofInt 64 x ||| BitVec.ofInt 64 y).toInt := by
  rw [bits_or', wrap_bmod, BitVec.toInt_eq_toNat_bmod]
theorem bits_xor (x y : Int) : bits .xor .i64 x y = (BitVec.ofInt 64 x ^^^ BitVec.ofInt 64 y).toInt := by
  rw [bits_xor', wrap_bmod, BitVec.toInt_eq_toNat_bmod]
theorem bits_andNot (x y : Int) : bits .andNot .i64 x y = (BitVec.ofInt 64 x &&& ~~~ BitVec.ofInt 64 y).toInt := by
  rw [bits_andNot', wrap_bmod, BitVec.toInt_eq_toNat_bmod]
theorem and_low (n : Nat) (hn : n ≤ 63) (v : Int) : bits .and .i64 v ((2 ^ n - 1 : Nat) : Int) = v % ((2 ^ n : Nat) : Int) := by
  have hp : 2 ^ n ≤ 2 ^ 63 := Nat.pow_le_pow_right (by omega) hn
  have h1 : 1 ≤ 2 ^ n := Nat.one_le_two_pow
  have hd : (2 ^ n : Nat) ∣ 2 ^ 64 := Nat.pow_dvd_pow 2 (by omega)
  rw [bits_and', BitVec.ofInt_natCast, BitVec.toNat_and, BitVec.toNat_ofNat, BitVec.toNat_ofInt, Nat.mod_eq_of_lt (a := 2 ^ n - 1) (by omega), Nat.and_two_pow_sub_one_eq_mod]
  have e : (((v % ((2 ^ 64 : Nat) : Int)).toNat % 2 ^ n : Nat) : Int) = v % ((2 ^ n : Nat) : Int) := by
    rw [Int.natCast_emod, Int.toNat_of_nonneg (by omega), Int.emod_emod_of_dvd v (Int.ofNat_dvd.mpr hd)]
  rw [e]
  have b1 : 0 ≤ v % ((2 ^ n : Nat) : Int) := Int.emod_nonneg _ (by omega)
  have b2 : v % ((2 ^ n : Nat) : Int) < ((2 ^ n : Nat) : Int) := Int.emod_lt_of_pos _ (by omega)
  rw [IntKind.wrap_i64]; omega
/-- 64 bits cut to fewer -/
theorem cut (W : Nat) (hW : W ≤ 64) (x : BitVec 64) : Int.bmod x.toInt (2 ^ W) = (x.setWidth W).toInt := by
  rw [BitVec.toInt_setWidth, BitVec.toInt_eq_toNat_bmod, Int.bmod_bmod_of_dvd (Nat.pow_dvd_pow 2 hW)]
theorem cut_ofInt (W : Nat) (hW : W ≤ 64) (v : Int) : (BitVec.ofInt 64 v).setWidth W = BitVec.ofInt W v := by
  apply BitVec.eq_of_toInt_eq
  rw [← cut W hW, BitVec.toInt_ofInt, BitVec.toInt_ofInt, Int.bmod_bmod_of_dvd (Nat.pow_dvd_pow 2 hW)]
theorem ofInt_bmod (W : Nat) (v : Int) : BitVec.ofInt W (Int.bmod v (2 ^ W)) = BitVec.ofInt W v := by
  apply BitVec.eq_of_toInt_eq
  rw [BitVec.toInt_ofInt, BitVec.toInt_ofInt, Int.bmod_bmod]
/-- the bits of two numbers by a table, as many as n -/
def bw (t : Nat → Int) : Nat → Nat → Nat → Int
  | 0, _, _ => 0
  | n + 1, a, b => bw t n a b + ((2 ^ n : Nat) : Int) * t (2 * (a / 2 ^ n % 2) + b / 2 ^ n % 2)
theorem bw_of (t : Nat → Int) (f : Nat → Nat → Nat) (hf : ∀ n a b, f a b % 2 ^ (n + 1) = f a b % 2 ^ n + 2 ^ n * (f a b / 2 ^ n % 2))
    (ht : ∀ n a b, t (2 * (a / 2 ^ n % 2) + b / 2 ^ n % 2) = ((f a b / 2 ^ n % 2 : Nat) : Int)) (n a b : Nat) : bw t n a b = ((f a b % 2 ^ n : Nat) : Int) := by
  induction n with
  | zero => simp [bw, Nat.mod_one]
  | succ n ih => rw [bw, ih, ht, hf]; simp
theorem mod_succ (x n : Nat) : x % 2 ^ (n + 1) = x % 2 ^ n + 2 ^ n * (x / 2 ^ n % 2) := by
  rw [Nat.pow_succ, Nat.mod_mul]
theorem bit_toNat (x n : Nat) : x / 2 ^ n % 2 = (x.testBit n).toNat := by rw [Nat.toNat_testBit]
theorem bw_and (t : Nat → Int) (h0 : t 0 = 0) (h1 : t 1 = 0) (h2 : t 2 = 0) (h3 : t 3 = 1) (n a b : Nat) : bw t n a b = (((a &&& b) % 2 ^ n : Nat) : Int) := by
  refine bw_of t (· &&& ·) (fun n a b => mod_succ _ _) (fun n a b => ?_) n a b
  simp only [bit_toNat, Nat.testBit_and]
  cases a.testBit n <;> cases b.testBit n <;> simp [h0, h1, h2, h3]
theorem bw_or (t : Nat → Int) (h0 : t 0 = 0) (h1 : t 1 = 1) (h2 : t 2 = 1) (h3 : t 3 = 1) (n a b : Nat) : bw t n a b = (((a ||| b) % 2 ^ n : Nat) : Int) := by
  refine bw_of t (· ||| ·) (fun n a b => mod_succ _ _) (fun n a b => ?_) n a b
  simp only [bit_toNat, Nat.testBit_or]
  cases a.testBit n <;> cases b.testBit n <;> simp [h0, h1, h2, h3]
theorem bw_xor (t : Nat → Int) (h0 : t 0 = 0) (h1 : t 1 = 1) (h2 : t 2 = 1) (h3 : t 3 = 0) (n a b : Nat) : bw t n a b = (((a ^^^ b) % 2 ^ n : Nat) : Int) := by
  refine bw_of t (· ^^^ ·) (fun n a b => mod_succ _ _) (fun n a b => ?_) n a b
  simp only [bit_toNat, Nat.testBit_xor]
  cases a.testBit n <;> cases b.testBit n <;> simp [h0, h1, h2, h3]
/-- the complement of a table gives the complement of the bits -/
theorem bw_not (t : Nat → Int) (n a b : Nat) : bw (fun k => 1 - t k) n a b = ((2 ^ n : Nat) : Int) - 1 - bw t n a b := by
  induction n with
  | zero => simp [bw]
  | succ n ih => rw [bw, bw, ih, Int.mul_sub, Nat.pow_succ]; simp; omega
theorem and16 (v : Int) : bits .and .i64 v 65535 = un 16 v := and_low 16 (by omega) v
theorem and24 (v : Int) : bits .and .i64 v 16777215 = un 24 v := and_low 24 (by omega) v
theorem and32 (v : Int) : bits .and .i64 v 4294967295 = un 32 v := and_low 32 (by omega) v

/-! ### What an operator gives, before norming -/
def tr (p : Bool) : Int := if p then -1 else 0
def opw (op x y b : Int) : Int :=
  if op = 1 then x * y else if op = 2 then x.tdiv y else if op = 3 then x.tmod y else if op = 4 then x + y else if op = 5 then x - y
  else if op = 6 then (if y < 0 ∨ b ≤ y then 0 else x * P2 y)
  else if op = 7 then (if y < 0 ∨ b ≤ y then 0 else un b x / P2 y)
  else if op = 8 then bits .and .i64 x y else if op = 9 then bits .or .i64 x y else if op = 10 then bits .xor .i64 x y
  else if op = 11 then bits .xor .i64 (-1) (bits .xor .i64 x y)
  else if op = 12 then tr (x == y) else if op = 13 then tr (x != y) else if op = 14 then tr (decide (x < y)) else if op = 15 then tr (decide (x ≤ y))
  else if op = 16 then tr (decide (y < x)) else if op = 17 then tr (decide (y ≤ x)) else if op = 18 then -x
  else bits .xor .i64 (-1) x
/-- the word that an operator gives -/
def apw (op a b bits : Int) : Int := nm bits (opw op (nm bits a) (nm bits b) bits)
theorem mul_bd {x y : Int} (b1 : -2147483648 ≤ x ∧ x ≤ 2147483647) (b2 : -2147483648 ≤ y ∧ y ≤ 2147483647) : -4611686018427387904 ≤ x * y ∧ x * y ≤ 4611686018427387904 := by
  have h : (x * y).natAbs ≤ 2147483648 * 2147483648 := by
    rw [Int.natAbs_mul]; exact Nat.mul_le_mul (by omega) (by omega)
  omega
theorem mul_fit (x y : Int) (b1 : -2147483648 ≤ x ∧ x ≤ 2147483647) (b2 : -2147483648 ≤ y ∧ y ≤ 2147483647) : wrap64 (x * y) = x * y := by
  have := mul_bd b1 b2; exact IntWalk.wrap64_in _ ⟨by omega, by omega⟩
theorem p2_pow (y : Int) : (2 : Int) ^ y.toNat = P2 y := by
  unfold P2; rw [Int.natCast_pow]; rfl
theorem div_fit (x y : Int) (b1 : -2147483648 ≤ x ∧ x ≤ 2147483647) : wrap64 (x.tdiv y) = x.tdiv y := by
  have h : (x.tdiv y).natAbs ≤ x.natAbs := by rw [Int.natAbs_tdiv]; exact Nat.div_le_self _ _
  exact IntWalk.wrap64_in _ ⟨by omega, by omega⟩
theorem p2_31 {y : Int} (h : y ≤ 31) : P2 y ≤ 2147483648 := p2_mono h
theorem mul_p2_bd {x y : Int} (b1 : -2147483648 ≤ x ∧ x ≤ 2147483647) (h : y ≤ 31) : -4611686018427387904 ≤ x * P2 y ∧ x * P2 y ≤ 4611686018427387904 := by
  have h0 := p2_31 h
  have h1 := p2_pos y
  have h : (x * P2 y).natAbs ≤ 2147483648 * 2147483648 := by
    rw [Int.natAbs_mul]; exact Nat.mul_le_mul (by omega) (by omega)
  omega
theorem shl_fit (x y : Int) (b1 : -2147483648 ≤ x ∧ x ≤ 2147483647) (h : y ≤ 31) : wrap64 (x * 2 ^ y.toNat) = x * P2 y := by
  rw [p2_pow]; have := mul_p2_bd b1 h; exact IntWalk.wrap64_in _ ⟨by omega, by omega⟩
/-- a word shifted to the left by k, as the reference does it -/
def shl_k (n x : Int) (k : Nat) : Int := (un n x * P2 k) % P2 n
theorem p2_31' {n : Int} (h : n ≤ 32) : 1 ≤ P2 n ∧ P2 n ≤ 4294967296 := ⟨p2_pos n, p2_mono h⟩
theorem p2_M (n : Int) : P2 n = (M n : Int) := rfl
theorem un_lt (n v : Int) : 0 ≤ un n v ∧ un n v < P2 n := by
  have := p2_pos n
  exact ⟨Int.emod_nonneg _ (by rw [← p2_M]; omega), Int.emod_lt_of_pos _ (by rw [← p2_M]; omega)⟩
theorem shl_k_0 (n x : Int) : un n x = shl_k n x 0 := by
  unfold shl_k
  rw [show P2 ((0 : Nat) : Int) = 1 from rfl, Int.mul_one, Int.emod_eq_of_lt (un_lt n x).1 (un_lt n x).2]
theorem shl_k_bd (n x : Int) (k : Nat) : 0 ≤ shl_k n x k ∧ shl_k n x k < P2 n := by
  have := p2_pos n
  exact ⟨Int.emod_nonneg _ (by omega), Int.emod_lt_of_pos _ (by omega)⟩
theorem shl_k_succ (n x : Int) (k : Nat) : shl_k n x k * 2 % P2 n = shl_k n x (k + 1) := by
  unfold shl_k
  rw [show (((k + 1 : Nat)) : Int) = (k : Int) + 1 from by omega, p2_succ, Int.mul_emod, Int.emod_emod, ← Int.mul_emod, Int.mul_assoc]
theorem nm_emod (n v : Int) : nm n (v % P2 n) = nm n v := by unfold nm; rw [p2_M]; simp
theorem nm_shl_k (n x : Int) (k : Nat) : nm n (shl_k n x k) = nm n (x * P2 k) := by
  unfold shl_k
  rw [nm_emod]
  unfold nm un
  rw [Int.emod_mul_bmod]
theorem shr_k_0 (n x : Int) : un n x = un n x / P2 ((0 : Nat) : Int) := by
  rw [show P2 ((0 : Nat) : Int) = 1 from rfl, Int.ediv_one]
theorem shr_k_succ (n x : Int) (k : Nat) : un n x / P2 k / 2 = un n x / P2 ((k + 1 : Nat) : Int) := by
  rw [show (((k + 1 : Nat)) : Int) = (k : Int) + 1 from by omega, p2_succ, Int.ediv_ediv_of_nonneg]
  have := p2_pos k; omega
theorem shr_k_bd (n x : Int) (k : Nat) : 0 ≤ un n x / P2 k ∧ un n x / P2 k < P2 n := by
  have h1 := p2_pos k
  have h2 := un_lt n x
  refine ⟨Int.ediv_nonneg h2.1 (by omega), ?_⟩
  have := Int.ediv_le_self (P2 k) h2.1
  omega
end Go.Proofs.Ytmhifelkihcidaa.WM
