/- Plain mathematics of the bits of words: what the reference's loop over the bits gives is what the machine's operator gives. No program is named here. -/
import Derived.Test.YtmhifelkihcidaaWMath
namespace Go.Proofs.Ytmhifelkihcidaa.WM
open Go.RowKit

theorem bits_le {n : Int} (hb : IsBits n) : n.toNat ≤ 64 := by rcases hb with rfl | rfl | rfl <;> decide
theorem nm_cut {n : Int} (hb : IsBits n) (z : BitVec 64) : nm n z.toInt = (z.setWidth n.toNat).toInt := cut _ (bits_le hb) z
theorem un_toNat (n x : Int) : (un n x).toNat = (BitVec.ofInt n.toNat x).toNat := by
  rw [BitVec.toNat_ofInt]; rfl
theorem nm_toNat (n : Int) (z : BitVec n.toNat) : nm n ((z.toNat : Nat) : Int) = z.toInt := by
  rw [BitVec.toInt_eq_toNat_bmod]; rfl
theorem mod_toNat (W : Nat) (z : BitVec W) : z.toNat % 2 ^ W = z.toNat := Nat.mod_eq_of_lt z.isLt

def tAnd (j : Nat) : Int := if j = 3 then 1 else 0
def tOr (j : Nat) : Int := if j = 0 then 0 else 1
def tXor (j : Nat) : Int := if j = 1 ∨ j = 2 then 1 else 0
def tEqv (j : Nat) : Int := 1 - tXor j

theorem and_nm {n : Int} (hb : IsBits n) (x y : Int) : nm n (bits .and .i64 x y) = (BitVec.ofInt n.toNat x &&& BitVec.ofInt n.toNat y).toInt := by
  rw [bits_and, nm_cut hb, BitVec.setWidth_and, cut_ofInt _ (bits_le hb), cut_ofInt _ (bits_le hb)]
theorem or_nm {n : Int} (hb : IsBits n) (x y : Int) : nm n (bits .or .i64 x y) = (BitVec.ofInt n.toNat x ||| BitVec.ofInt n.toNat y).toInt := by
  rw [bits_or, nm_cut hb, BitVec.setWidth_or, cut_ofInt _ (bits_le hb), cut_ofInt _ (bits_le hb)]
theorem xor_nm {n : Int} (hb : IsBits n) (x y : Int) : nm n (bits .xor .i64 x y) = (BitVec.ofInt n.toNat x ^^^ BitVec.ofInt n.toNat y).toInt := by
  rw [bits_xor, nm_cut hb, BitVec.setWidth_xor, cut_ofInt _ (bits_le hb), cut_ofInt _ (bits_le hb)]
theorem ofInt_neg1 : BitVec.ofInt 64 (-1) = BitVec.allOnes 64 := by decide
theorem xor_ones (z : BitVec 64) : BitVec.allOnes 64 ^^^ z = ~~~ z := BitVec.allOnes_xor
theorem not_bits (x : Int) : bits .xor .i64 (-1) x = (~~~ BitVec.ofInt 64 x).toInt := by
  rw [bits_xor, ofInt_neg1, xor_ones]
theorem not_nm {n : Int} (hb : IsBits n) (x : Int) : nm n (bits .xor .i64 (-1) x) = (~~~ BitVec.ofInt n.toNat x).toInt := by
  rw [not_bits, nm_cut hb, BitVec.setWidth_not (bits_le hb), cut_ofInt _ (bits_le hb)]
theorem eqv_nm {n : Int} (hb : IsBits n) (x y : Int) : nm n (bits .xor .i64 (-1) (bits .xor .i64 x y)) = (~~~ (BitVec.ofInt n.toNat x ^^^ BitVec.ofInt n.toNat y)).toInt := by
  rw [not_nm hb]
  congr 2
  apply BitVec.eq_of_toInt_eq
  rw [BitVec.toInt_ofInt, ← xor_nm hb]; rfl
theorem not_plain (x : Int) (b1 : -2147483648 ≤ x ∧ x ≤ 2147483647) : bits .xor .i64 (-1) x = -x - 1 := by
  rw [not_bits, BitVec.toInt_not, BitVec.toNat_ofInt, Int.bmod_def]
  omega

theorem bwAnd {n : Int} (hb : IsBits n) (x y : Int) : nm n (bw tAnd n.toNat (un n x).toNat (un n y).toNat) = nm n (bits .and .i64 x y) := by
  rw [bw_and tAnd rfl rfl rfl rfl, un_toNat, un_toNat, ← BitVec.toNat_and, mod_toNat, nm_toNat, and_nm hb]
theorem bwOr {n : Int} (hb : IsBits n) (x y : Int) : nm n (bw tOr n.toNat (un n x).toNat (un n y).toNat) = nm n (bits .or .i64 x y) := by
  rw [bw_or tOr rfl rfl rfl rfl, un_toNat, un_toNat, ← BitVec.toNat_or, mod_toNat, nm_toNat, or_nm hb]
theorem bwXor {n : Int} (hb : IsBits n) (x y : Int) : nm n (bw tXor n.toNat (un n x).toNat (un n y).toNat) = nm n (bits .xor .i64 x y) := by
  rw [bw_xor tXor rfl rfl rfl rfl, un_toNat, un_toNat, ← BitVec.toNat_xor, mod_toNat, nm_toNat, xor_nm hb]
theorem bwEqv {n : Int} (hb : IsBits n) (x y : Int) : nm n (bw tEqv n.toNat (un n x).toNat (un n y).toNat) = nm n (bits .xor .i64 (-1) (bits .xor .i64 x y)) := by
  rw [show tEqv = fun k => 1 - tXor k from rfl, bw_not, bw_xor tXor rfl rfl rfl rfl, un_toNat, un_toNat, ← BitVec.toNat_xor, mod_toNat, eqv_nm hb, ← nm_toNat, BitVec.toNat_not]
  congr 1
  have h := (BitVec.ofInt n.toNat x ^^^ BitVec.ofInt n.toNat y).isLt
  omega

theorem bw_bd (t : Nat → Int) (ht : ∀ j, 0 ≤ t j ∧ t j ≤ 1) (k a b : Nat) : 0 ≤ bw t k a b ∧ bw t k a b < P2 k := by
  induction k with
  | zero => exact ⟨Int.le_refl _, by show (0 : Int) < 1; omega⟩
  | succ k ih =>
    rw [bw, show (((k + 1 : Nat)) : Int) = (k : Int) + 1 from by omega, p2_succ]
    have hp := p2_pos k
    have hP : ((2 ^ k : Nat) : Int) = P2 k := rfl
    rw [hP]
    have := ht (2 * (a / 2 ^ k % 2) + b / 2 ^ k % 2)
    rcases (by omega : t (2 * (a / 2 ^ k % 2) + b / 2 ^ k % 2) = 0 ∨ t (2 * (a / 2 ^ k % 2) + b / 2 ^ k % 2) = 1) with h | h <;> rw [h] <;> omega
theorem bw_next (t : Nat → Int) (k a b x y : Nat) (hx : x = a / 2 ^ k) (hy : y = b / 2 ^ k) : bw t (k + 1) a b = bw t k a b + P2 k * t (2 * (x % 2) + y % 2) := by
  rw [bw, hx, hy]; rfl
theorem half_next (a k x : Nat) (hx : x = a / 2 ^ k) : x / 2 = a / 2 ^ (k + 1) := by
  rw [hx, Nat.pow_succ, Nat.div_div_eq_div_mul]
theorem tAnd_bd (j : Nat) : 0 ≤ tAnd j ∧ tAnd j ≤ 1 := by unfold tAnd; split <;> omega
theorem tOr_bd (j : Nat) : 0 ≤ tOr j ∧ tOr j ≤ 1 := by unfold tOr; split <;> omega
theorem tXor_bd (j : Nat) : 0 ≤ tXor j ∧ tXor j ≤ 1 := by unfold tXor; split <;> omega
theorem tEqv_bd (j : Nat) : 0 ≤ tEqv j ∧ tEqv j ≤ 1 := by have := tXor_bd j; unfold tEqv; omega

/-! ### When a word is that of whole numbers -/
def nar (v : Int) : Bool := decide (-32768 ≤ v) && decide (v ≤ 32767)
theorem nar_yes {v : Int} (h : nar v = true) : -32768 ≤ v ∧ v ≤ 32767 := by unfold nar at h; simpa using h
theorem nar_mk {v : Int} (h : -32768 ≤ v ∧ v ≤ 32767) : nar v = true := by unfold nar; simpa using h
theorem nar_no {v : Int} (h : nar v = false) : ¬ (-32768 ≤ v ∧ v ≤ 32767) := fun k => by rw [nar_mk k] at h; cases h
def exops (op x y : Int) : Bool :=
  if op = 18 ∨ op = 19 then nar x else if op = 6 ∨ op = 7 then nar x && decide (0 ≤ x) && decide (0 ≤ y) && decide (y ≤ 15) else nar x && nar y
def exw (op a b n : Int) : Bool := exops op (nm n a) (nm n b) && nar (opw op (nm n a) (nm n b) n)
theorem nm_of_nar {n : Int} (hb : IsBits n) {v : Int} (h : nar v = true) : nm n v = v := by
  have h := nar_yes h
  rcases hb with rfl | rfl | rfl
  · rw [nm16, Int.bmod_def]; omega
  · rw [nm24, Int.bmod_def]; omega
  · rw [nm32, Int.bmod_def]; omega
theorem nar_of_w {n : Int} (hb : IsBits n) {v : Int} (h : nar (nm n v) = false) : nar v = false := by
  cases h' : nar v with
  | false => rfl
  | true => rw [nm_of_nar hb h', h'] at h; cases h
theorem nar_eq {n : Int} (hb : IsBits n) {v : Int} (h : nar (nm n v) = true) : nar v = (v == nm n v) := by
  cases h' : nar v with
  | true => rw [nm_of_nar hb h']; simp
  | false =>
    symm; rw [beq_eq_false_iff_ne]; intro e; rw [← e, h'] at h; cases h
/-- a word in 64 bits is its own bits with the sign spread -/
theorem spread {n : Int} (hb : IsBits n) (v : Int) : BitVec.ofInt 64 (nm n v) = (BitVec.ofInt n.toNat (nm n v)).signExtend 64 := by
  apply BitVec.eq_of_toInt_eq
  rw [BitVec.toInt_signExtend_of_le (bits_le hb), BitVec.toInt_ofInt, BitVec.toInt_ofInt]
  have e1 : Int.bmod (nm n v) (2 ^ n.toNat) = nm n v := nm_nm n v
  rw [e1]
  have := nm_bd hb v
  rw [Int.bmod_def]; omega
theorem and_plain {n : Int} (hb : IsBits n) (a b : Int) : nm n (bits .and .i64 (nm n a) (nm n b)) = bits .and .i64 (nm n a) (nm n b) := by
  rw [and_nm hb, bits_and, spread hb a, spread hb b, ← BitVec.signExtend_and, BitVec.toInt_signExtend_of_le (bits_le hb)]
theorem or_plain {n : Int} (hb : IsBits n) (a b : Int) : nm n (bits .or .i64 (nm n a) (nm n b)) = bits .or .i64 (nm n a) (nm n b) := by
  rw [or_nm hb, bits_or, spread hb a, spread hb b, ← BitVec.signExtend_or, BitVec.toInt_signExtend_of_le (bits_le hb)]
theorem xor_plain {n : Int} (hb : IsBits n) (a b : Int) : nm n (bits .xor .i64 (nm n a) (nm n b)) = bits .xor .i64 (nm n a) (nm n b) := by
  rw [xor_nm hb, bits_xor, spread hb a, spread hb b, ← BitVec.signExtend_xor, BitVec.toInt_signExtend_of_le (bits_le hb)]
theorem not_plain_nm {n : Int} (hb : IsBits n) (a : Int) : nm n (bits .xor .i64 (-1) (nm n a)) = bits .xor .i64 (-1) (nm n a) := by
  rw [not_plain _ (nm_bd hb a)]
  rcases hb with rfl | rfl | rfl
  · rw [nm16, nm16, Int.bmod_def, Int.bmod_def]; omega
  · rw [nm24, nm24, Int.bmod_def, Int.bmod_def]; omega
  · rw [nm32, nm32, Int.bmod_def, Int.bmod_def]; omega
theorem eqv_plain {n : Int} (hb : IsBits n) (a b : Int) : nm n (bits .xor .i64 (-1) (bits .xor .i64 (nm n a) (nm n b))) = bits .xor .i64 (-1) (bits .xor .i64 (nm n a) (nm n b)) := by
  rw [← xor_plain hb a b]; exact not_plain_nm hb _
theorem shl_nar {x y : Int} (hx : 0 ≤ x) : nar (x * P2 y) = decide (x * P2 y ≤ 32767) := by
  have := Int.mul_nonneg hx (by have := p2_pos y; omega : 0 ≤ P2 y)
  unfold nar; rw [decide_eq_true (by omega : -32768 ≤ x * P2 y)]; simp
theorem shr_nar {n : Int} (hb : IsBits n) {a y : Int} (h : nar (nm n a) = true) (h0 : 0 ≤ nm n a) : nar (un n (nm n a) / P2 y) = true := by
  have h1 := nar_yes h
  have e : un n (nm n a) = nm n a := by rw [un_of_nm hb, nm_nm, if_neg (by omega)]
  rw [e]
  have h2 := Int.ediv_nonneg h0 (by have := p2_pos y; omega : 0 ≤ P2 y)
  have h3 := Int.ediv_le_self (P2 y) h0
  exact nar_mk (by omega)
end Go.Proofs.Ytmhifelkihcidaa.WM
