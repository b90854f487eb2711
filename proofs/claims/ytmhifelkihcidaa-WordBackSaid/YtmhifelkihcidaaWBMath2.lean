/- Plain mathematics: a byte of a word changed, by bits and by bytes. No program is named here. -/
import Derived.Test.YtmhifelkihcidaaWBMath
import Derived.Test.YtmhifelkihcidaaWMath2
namespace Go.Proofs.Ytmhifelkihcidaa.WM
open Go.RowKit
set_option linter.unusedVariables false

/-- the words with byte k changed, before norming and behind it -/
def pw1 (x v : Int) (s : Nat) : Int := bits .or .i64 (bits .andNot .i64 x (wrap64 (255 * 2 ^ s))) (wrap64 (bits .and .i64 v 255 * 2 ^ s))
def pbl (n : Int) (g : Bool) (xs : List Int) (k : Nat) (v : Int) : List Int := (xs.set (wi n k) (pw1 (xs.getD (wi n k) 0) v (ws n g k))).map (nm n)
/-! ### a byte changed, as a number -/
theorem testBit_put (u c s j : Nat) (hc : c < 256) : (2 ^ (s + 8) * (u / 2 ^ (s + 8)) + (2 ^ s * c + u % 2 ^ s)).testBit j = (if j < s then u.testBit j else if j < s + 8 then c.testBit (j - s) else u.testBit j) := by
  have h1 : u % 2 ^ s < 2 ^ s := Nat.mod_lt _ (Nat.two_pow_pos s)
  have h2 : 2 ^ s * c + u % 2 ^ s < 2 ^ (s + 8) := by
    have : 2 ^ (s + 8) = 2 ^ s * 256 := by rw [Nat.pow_add]
    rw [this]
    have h3 : 2 ^ s * c + 2 ^ s ≤ 2 ^ s * 256 := by rw [← Nat.mul_succ]; exact Nat.mul_le_mul_left _ hc
    omega
  rw [Nat.testBit_two_pow_mul_add _ h2]
  by_cases a : j < s + 8
  · rw [if_pos a, Nat.testBit_two_pow_mul_add _ h1]
    by_cases b : j < s
    · rw [if_pos b, if_pos b, Nat.testBit_mod_two_pow]; simp [b]
    · rw [if_neg b, if_neg b, if_pos a]
  · rw [if_neg a, if_neg (by omega), if_neg a, Nat.testBit_div_two_pow, show j - (s + 8) + (s + 8) = j from by omega]
theorem put_bv (W : Nat) (z : BitVec W) (c s : Nat) (hc : c < 256) :
    (z &&& ~~~ (BitVec.ofNat W (2 ^ s * 255))) ||| BitVec.ofNat W (2 ^ s * c) = BitVec.ofNat W (2 ^ (s + 8) * (z.toNat / 2 ^ (s + 8)) + (2 ^ s * c + z.toNat % 2 ^ s)) := by
  apply BitVec.eq_of_getLsbD_eq
  intro i hi
  have e255 : (255 : Nat) = 2 ^ 8 - 1 := rfl
  rw [BitVec.getLsbD_or, BitVec.getLsbD_and, BitVec.getLsbD_not, BitVec.getLsbD_ofNat, BitVec.getLsbD_ofNat, BitVec.getLsbD_ofNat, testBit_put _ _ _ _ hc, Nat.testBit_two_pow_mul, Nat.testBit_two_pow_mul, e255, Nat.testBit_two_pow_sub_one]
  have ez : z.getLsbD i = z.toNat.testBit i := rfl
  rw [ez]
  by_cases a : i < s
  · simp [a, hi, Nat.not_le.2 a]
  · by_cases b : i < s + 8
    · simp [a, b, hi, show s ≤ i by omega, show i - s < 8 by omega]
    · have hcb : c.testBit (i - s) = false := Nat.testBit_lt_two_pow (Nat.lt_of_lt_of_le hc (show 256 ≤ 2 ^ (i - s) from by
        have : 2 ^ 8 ≤ 2 ^ (i - s) := Nat.pow_le_pow_right (by omega) (by omega)
        exact this))
      simp [a, b, hi, show s ≤ i by omega, show ¬ i - s < 8 by omega, hcb]
theorem and255 (v : Int) : bits .and .i64 v 255 = v % 256 := and_low 8 (by omega) v
theorem pw1_num {n : Int} (hb : IsBits n) (x v : Int) (s : Nat) (hs : s ≤ 24) :
    nm n (pw1 x v s) = nm n (((2 ^ (s + 8) * ((un n x).toNat / 2 ^ (s + 8)) + (2 ^ s * (v % 256).toNat + (un n x).toNat % 2 ^ s) : Nat)) : Int) := by
  have hv : 0 ≤ v % 256 ∧ v % 256 ≤ 255 := by omega
  obtain ⟨c, hc⟩ := Int.eq_ofNat_of_zero_le hv.1
  have h1 : wrap64 (255 * 2 ^ s) = 255 * 2 ^ s := mul24_fit (by omega) hs
  unfold pw1
  rw [and255, h1, mul24_fit hv hs, bits_or, nm_cut hb, BitVec.setWidth_or, cut_ofInt _ (bits_le hb), bits_andNot]
  have e1 : BitVec.ofInt n.toNat (BitVec.ofInt 64 x &&& ~~~BitVec.ofInt 64 (255 * 2 ^ s)).toInt = BitVec.ofInt n.toNat x &&& ~~~ BitVec.ofInt n.toNat (255 * 2 ^ s) := by
    apply BitVec.eq_of_toInt_eq
    rw [BitVec.toInt_ofInt]
    show nm n _ = _
    rw [nm_cut hb, BitVec.setWidth_and, BitVec.setWidth_not (bits_le hb), cut_ofInt _ (bits_le hb), cut_ofInt _ (bits_le hb)]
  have e2 : (255 * 2 ^ s : Int) = ((2 ^ s * 255 : Nat) : Int) := by rw [Int.natCast_mul, Int.natCast_pow, Int.mul_comm]; rfl
  have e3 : (v % 256 * 2 ^ s : Int) = ((2 ^ s * c : Nat) : Int) := by rw [hc, Int.natCast_mul, Int.natCast_pow, Int.mul_comm]; rfl
  rw [e1, cut_ofInt _ (bits_le hb), e2, e3, BitVec.ofInt_natCast, BitVec.ofInt_natCast, put_bv _ _ _ _ (by omega), hc, Int.toNat_natCast, un_toNat, BitVec.toInt_ofNat']
  rfl
/-! ### bytes joined to a word, as the reference does it: behind i bytes -/
def jpos (g : Bool) (m i : Nat) : Nat := if g then i else m - 1 - i
def jr (g : Bool) (ls : List Int) : Nat → Int
  | 0 => 0
  | i + 1 => jr g ls i * 256 + ls.getD (jpos g ls.length i) 0
theorem jr_bd (g : Bool) (ls : List Int) (hl : ∀ j, 0 ≤ ls.getD j 0 ∧ ls.getD j 0 ≤ 255) (i : Nat) (hi : i ≤ 4) : 0 ≤ jr g ls i ∧ jr g ls i ≤ 4294967295 := by
  have h1 := hl (jpos g ls.length 0)
  have h2 := hl (jpos g ls.length 1)
  have h3 := hl (jpos g ls.length 2)
  have h4 := hl (jpos g ls.length 3)
  have : i = 0 ∨ i = 1 ∨ i = 2 ∨ i = 3 ∨ i = 4 := by omega
  rcases this with rfl | rfl | rfl | rfl | rfl <;> simp only [jr] <;> omega
theorem jr_bd' (g : Bool) (ls : List Int) (hl : ∀ j, 0 ≤ ls.getD j 0 ∧ ls.getD j 0 ≤ 255) (i : Nat) (hi : i < 4) : 0 ≤ jr g ls i ∧ jr g ls i ≤ 16777215 := by
  have h1 := hl (jpos g ls.length 0)
  have h2 := hl (jpos g ls.length 1)
  have h3 := hl (jpos g ls.length 2)
  have : i = 0 ∨ i = 1 ∨ i = 2 ∨ i = 3 := by omega
  rcases this with rfl | rfl | rfl | rfl <;> simp only [jr] <;> omega
/-- the word of bytes -/
def jw (n : Int) (g : Bool) (ls : List Int) : Int := nm n (jr g ls ls.length)
theorem spl_bd {n : Int} (hb : IsBits n) (g : Bool) (x : Int) (j : Nat) : 0 ≤ (spl n g x).getD j 0 ∧ (spl n g x).getD j 0 ≤ 255 := by
  by_cases h : j < nb n
  · rw [spl_at hb g x j h]; omega
  · rw [List.getD_eq_getElem?_getD, List.getElem?_eq_none (by rw [spl_length]; omega)]; simp
/-- the bytes of a word come back -/
theorem jw_spl {n : Int} (hb : IsBits n) (g : Bool) (x : Int) : jw n g (spl n g x) = nm n x := by
  rcases hb with rfl | rfl | rfl
  · have h := vkm16 x
    have hu : un 16 x = x % 65536 := rfl
    rw [← nm_un 16 x]
    cases g
    · rw [(spl16 x).1, h.1, h.2]; unfold jw; congr 1; show (0 * 256 + x / 256 % 256) * 256 + x / 1 % 256 = _; omega
    · rw [(spl16 x).2, h.1, h.2]; unfold jw; congr 1; show (0 * 256 + x / 256 % 256) * 256 + x / 1 % 256 = _; omega
  · have h := vkm24 x
    have hu : un 24 x = x % 16777216 := rfl
    rw [← nm_un 24 x]
    cases g
    · rw [(spl24 x).1, h.1, h.2.1, h.2.2]; unfold jw; congr 1; show ((0 * 256 + x / 65536 % 256) * 256 + x / 256 % 256) * 256 + x / 1 % 256 = _; omega
    · rw [(spl24 x).2, h.1, h.2.1, h.2.2]; unfold jw; congr 1; show ((0 * 256 + x / 65536 % 256) * 256 + x / 256 % 256) * 256 + x / 1 % 256 = _; omega
  · have h := vkm32 x
    have hu : un 32 x = x % 4294967296 := rfl
    rw [← nm_un 32 x]
    cases g
    · rw [(spl32 x).1, h.1, h.2.1, h.2.2.1, h.2.2.2]; unfold jw; congr 1; show (((0 * 256 + x / 16777216 % 256) * 256 + x / 65536 % 256) * 256 + x / 256 % 256) * 256 + x / 1 % 256 = _; omega
    · rw [(spl32 x).2, h.1, h.2.1, h.2.2.1, h.2.2.2]; unfold jw; congr 1; show (((0 * 256 + x / 16777216 % 256) * 256 + x / 65536 % 256) * 256 + x / 256 % 256) * 256 + x / 1 % 256 = _; omega
/-- a byte changed among the bytes is a byte changed in the word -/
theorem jw_put {n : Int} (hb : IsBits n) (g : Bool) (x v : Int) (j : Nat) (hj : j < nb n) : jw n g ((spl n g x).set j (v % 256)) = nm n (pw1 x v (8 * wpos n g j)) := by
  have hs : 8 * wpos n g j ≤ 24 := by have := wpos_lt n g j hj; have := nb_bd hb; omega
  rw [pw1_num hb x v _ hs]
  have hc : ((v % 256).toNat : Int) = v % 256 := Int.toNat_of_nonneg (by omega)
  have hu0 := (un_lt n x).1
  have hu : ((un n x).toNat : Int) = un n x := Int.toNat_of_nonneg hu0
  generalize (un n x).toNat = U at *
  generalize hC : (v % 256).toNat = C at *
  clear hu0 hC
  rcases hb with rfl | rfl | rfl
  · have hux : un 16 x = x % 65536 := rfl
    have h := vkm16 x
    have hcase : j = 0 ∨ j = 1 := by have h : nb 16 = 2 := rfl; omega
    rcases hcase with rfl | rfl
    · cases g
      · rw [(spl16 x).1, h.1, h.2]; unfold jw; congr 1; show ((0 * 256 + x / 256 % 256) * 256 + v % 256) = ((256 * (U / 256) + (1 * C + U % 1) : Nat) : Int); omega
      · rw [(spl16 x).2, h.1, h.2]; unfold jw; congr 1; show ((0 * 256 + v % 256) * 256 + x / 1 % 256) = ((65536 * (U / 65536) + (256 * C + U % 256) : Nat) : Int); omega
    · cases g
      · rw [(spl16 x).1, h.1, h.2]; unfold jw; congr 1; show ((0 * 256 + v % 256) * 256 + x / 1 % 256) = ((65536 * (U / 65536) + (256 * C + U % 256) : Nat) : Int); omega
      · rw [(spl16 x).2, h.1, h.2]; unfold jw; congr 1; show ((0 * 256 + x / 256 % 256) * 256 + v % 256) = ((256 * (U / 256) + (1 * C + U % 1) : Nat) : Int); omega
  · have hux : un 24 x = x % 16777216 := rfl
    have h := vkm24 x
    have hcase : j = 0 ∨ j = 1 ∨ j = 2 := by have h : nb 24 = 3 := rfl; omega
    rcases hcase with rfl | rfl | rfl
    · cases g
      · rw [(spl24 x).1, h.1, h.2.1, h.2.2]; unfold jw; congr 1; show (((0 * 256 + x / 65536 % 256) * 256 + x / 256 % 256) * 256 + v % 256) = ((256 * (U / 256) + (1 * C + U % 1) : Nat) : Int); omega
      · rw [(spl24 x).2, h.1, h.2.1, h.2.2]; unfold jw; congr 1; show (((0 * 256 + v % 256) * 256 + x / 256 % 256) * 256 + x / 1 % 256) = ((16777216 * (U / 16777216) + (65536 * C + U % 65536) : Nat) : Int); omega
    · cases g
      · rw [(spl24 x).1, h.1, h.2.1, h.2.2]; unfold jw; congr 1; show (((0 * 256 + x / 65536 % 256) * 256 + v % 256) * 256 + x / 1 % 256) = ((65536 * (U / 65536) + (256 * C + U % 256) : Nat) : Int); omega
      · rw [(spl24 x).2, h.1, h.2.1, h.2.2]; unfold jw; congr 1; show (((0 * 256 + x / 65536 % 256) * 256 + v % 256) * 256 + x / 1 % 256) = ((65536 * (U / 65536) + (256 * C + U % 256) : Nat) : Int); omega
    · cases g
      · rw [(spl24 x).1, h.1, h.2.1, h.2.2]; unfold jw; congr 1; show (((0 * 256 + v % 256) * 256 + x / 256 % 256) * 256 + x / 1 % 256) = ((16777216 * (U / 16777216) + (65536 * C + U % 65536) : Nat) : Int); omega
      · rw [(spl24 x).2, h.1, h.2.1, h.2.2]; unfold jw; congr 1; show (((0 * 256 + x / 65536 % 256) * 256 + x / 256 % 256) * 256 + v % 256) = ((256 * (U / 256) + (1 * C + U % 1) : Nat) : Int); omega
  · have hux : un 32 x = x % 4294967296 := rfl
    have h := vkm32 x
    have hcase : j = 0 ∨ j = 1 ∨ j = 2 ∨ j = 3 := by have h : nb 32 = 4 := rfl; omega
    rcases hcase with rfl | rfl | rfl | rfl
    · cases g
      · rw [(spl32 x).1, h.1, h.2.1, h.2.2.1, h.2.2.2]; unfold jw; congr 1; show ((((0 * 256 + x / 16777216 % 256) * 256 + x / 65536 % 256) * 256 + x / 256 % 256) * 256 + v % 256) = ((256 * (U / 256) + (1 * C + U % 1) : Nat) : Int); omega
      · rw [(spl32 x).2, h.1, h.2.1, h.2.2.1, h.2.2.2]; unfold jw; congr 1; show ((((0 * 256 + v % 256) * 256 + x / 65536 % 256) * 256 + x / 256 % 256) * 256 + x / 1 % 256) = ((4294967296 * (U / 4294967296) + (16777216 * C + U % 16777216) : Nat) : Int); omega
    · cases g
      · rw [(spl32 x).1, h.1, h.2.1, h.2.2.1, h.2.2.2]; unfold jw; congr 1; show ((((0 * 256 + x / 16777216 % 256) * 256 + x / 65536 % 256) * 256 + v % 256) * 256 + x / 1 % 256) = ((65536 * (U / 65536) + (256 * C + U % 256) : Nat) : Int); omega
      · rw [(spl32 x).2, h.1, h.2.1, h.2.2.1, h.2.2.2]; unfold jw; congr 1; show ((((0 * 256 + x / 16777216 % 256) * 256 + v % 256) * 256 + x / 256 % 256) * 256 + x / 1 % 256) = ((16777216 * (U / 16777216) + (65536 * C + U % 65536) : Nat) : Int); omega
    · cases g
      · rw [(spl32 x).1, h.1, h.2.1, h.2.2.1, h.2.2.2]; unfold jw; congr 1; show ((((0 * 256 + x / 16777216 % 256) * 256 + v % 256) * 256 + x / 256 % 256) * 256 + x / 1 % 256) = ((16777216 * (U / 16777216) + (65536 * C + U % 65536) : Nat) : Int); omega
      · rw [(spl32 x).2, h.1, h.2.1, h.2.2.1, h.2.2.2]; unfold jw; congr 1; show ((((0 * 256 + x / 16777216 % 256) * 256 + x / 65536 % 256) * 256 + v % 256) * 256 + x / 1 % 256) = ((65536 * (U / 65536) + (256 * C + U % 256) : Nat) : Int); omega
    · cases g
      · rw [(spl32 x).1, h.1, h.2.1, h.2.2.1, h.2.2.2]; unfold jw; congr 1; show ((((0 * 256 + v % 256) * 256 + x / 65536 % 256) * 256 + x / 256 % 256) * 256 + x / 1 % 256) = ((4294967296 * (U / 4294967296) + (16777216 * C + U % 16777216) : Nat) : Int); omega
      · rw [(spl32 x).2, h.1, h.2.1, h.2.2.1, h.2.2.2]; unfold jw; congr 1; show ((((0 * 256 + x / 16777216 % 256) * 256 + x / 65536 % 256) * 256 + x / 256 % 256) * 256 + v % 256) = ((256 * (U / 256) + (1 * C + U % 1) : Nat) : Int); omega
end Go.Proofs.Ytmhifelkihcidaa.WM
