/- Plain mathematics: bytes laid into words by bits are the words that bytes make by whole numbers. No program is named here. -/
import Derived.Test.YtmhifelkihcidaaWBMath2
namespace Go.Proofs.Ytmhifelkihcidaa.WM
open Go.RowKit
set_option linter.unusedVariables false

/-- a byte laid where there is none -/
theorem or_nat (u x s : Nat) (hx : x < 256) (h0 : u / 2 ^ s % 256 = 0) : u ||| 2 ^ s * x = 2 ^ (s + 8) * (u / 2 ^ (s + 8)) + (2 ^ s * x + u % 2 ^ s) := by
  apply Nat.eq_of_testBit_eq
  intro i
  rw [testBit_put u x s i hx, Nat.testBit_or, Nat.testBit_two_pow_mul]
  by_cases a : i < s
  · simp [a, Nat.not_le.2 a]
  · by_cases b : i < s + 8
    · have hz : u.testBit i = false := by
        have h1 : (u / 2 ^ s % 2 ^ 8).testBit (i - s) = u.testBit i := by
          rw [Nat.testBit_mod_two_pow, Nat.testBit_div_two_pow, show i - s + s = i from by omega]
          simp [show i - s < 8 by omega]
        rw [← h1, show (2 : Nat) ^ 8 = 256 from rfl, h0]; simp
      simp [a, b, hz, show s ≤ i by omega]
    · have hcb : x.testBit (i - s) = false := Nat.testBit_lt_two_pow (Nat.lt_of_lt_of_le hx (show 256 ≤ 2 ^ (i - s) from by
        have : 2 ^ 8 ≤ 2 ^ (i - s) := Nat.pow_le_pow_right (by omega) (by omega)
        exact this))
      simp [a, b, hcb]
theorem or_int {u x s : Nat} (hx : x < 256) (h0 : u / 2 ^ s % 256 = 0) (hu : u < 4294967296) (hs : s ≤ 24) :
    bits .or .i64 (u : Int) ((x : Int) * 2 ^ s) = ((2 ^ (s + 8) * (u / 2 ^ (s + 8)) + (2 ^ s * x + u % 2 ^ s) : Nat) : Int) := by
  have e3 : ((x : Int) * 2 ^ s : Int) = ((2 ^ s * x : Nat) : Int) := by rw [Int.natCast_mul, Int.natCast_pow, Int.mul_comm]; rfl
  have h24 : 2 ^ s ≤ 2 ^ 24 := Nat.pow_le_pow_right (by omega) hs
  have hv : 2 ^ s * x ≤ 2 ^ 24 * 255 := Nat.mul_le_mul h24 (by omega)
  rw [e3, ← or_nat u x s hx h0, bits_or, BitVec.ofInt_natCast, BitVec.ofInt_natCast, ← BitVec.ofNat_or, BitVec.toInt_ofNat']
  have hor : u ||| 2 ^ s * x < 2 ^ 33 := Nat.or_lt_two_pow (by omega) (by omega)
  rw [Int.bmod_def]; omega
/-- the bytes of chunk c, as many as lie below i -/
def chz (n : Int) (bs : List Int) (i c : Nat) : List Int := (List.range (nb n)).map fun j => if c * nb n + j < i then bs.getD (c * nb n + j) 0 else 0
theorem chz_length (n : Int) (bs : List Int) (i c : Nat) : (chz n bs i c).length = nb n := by simp [chz]
theorem chz_at (n : Int) (bs : List Int) (i c j : Nat) (hj : j < nb n) : (chz n bs i c).getD j 0 = if c * nb n + j < i then bs.getD (c * nb n + j) 0 else 0 := by
  simp [chz, hj]
theorem chz_bd {bs : List Int} (hbd : ∀ j, 0 ≤ bs.getD j 0 ∧ bs.getD j 0 ≤ 255) (n : Int) (i c j : Nat) : 0 ≤ (chz n bs i c).getD j 0 ∧ (chz n bs i c).getD j 0 ≤ 255 := by
  by_cases hj : j < nb n
  · rw [chz_at n bs i c j hj]; split
    · exact hbd _
    · omega
  · rw [List.getD_eq_getElem?_getD, List.getElem?_eq_none (by rw [chz_length]; omega)]; simp
theorem list_eta2 (l : List Int) (h : l.length = 2) : l = [l.getD 0 0, l.getD 1 0] := by
  match l, h with
  | [a, b], _ => rfl
theorem list_eta3 (l : List Int) (h : l.length = 3) : l = [l.getD 0 0, l.getD 1 0, l.getD 2 0] := by
  match l, h with
  | [a, b, c], _ => rfl
theorem list_eta4 (l : List Int) (h : l.length = 4) : l = [l.getD 0 0, l.getD 1 0, l.getD 2 0, l.getD 3 0] := by
  match l, h with
  | [a, b, c, d], _ => rfl
/-- laying a byte at place j of a word that has none there -/
theorem or_jr {n : Int} (hb : IsBits n) (g : Bool) (l : List Int) (hl : l.length = nb n) (hbd : ∀ j, 0 ≤ l.getD j 0 ∧ l.getD j 0 ≤ 255) (j : Nat) (hj : j < nb n) (h0 : l.getD j 0 = 0) (x : Int) (hx : 0 ≤ x ∧ x ≤ 255) :
    bits .or .i64 (jr g l (nb n)) (x * 2 ^ (8 * wpos n g j)) = jr g (l.set j x) (nb n) := by
  obtain ⟨X, rfl⟩ := Int.eq_ofNat_of_zero_le hx.1
  have h4 : nb n ≤ 4 := (nb_bd hb).2
  have hju := jr_bd g l hbd (nb n) h4
  obtain ⟨U, hU⟩ := Int.eq_ofNat_of_zero_le hju.1
  have q0 := hbd 0
  have q1 := hbd 1
  have q2 := hbd 2
  have q3 := hbd 3
  rw [hU] at hju
  have hs24 : 8 * wpos n g j ≤ 24 := by have := wpos_lt n g j hj; omega
  rcases hb with rfl | rfl | rfl
  · have hl2 := list_eta2 l hl
    have hcase : j = 0 ∨ j = 1 := by have h : nb 16 = 2 := rfl; omega
    rcases hcase with rfl | rfl
    · cases g
      · have eU : (U : Int) = ((0 * 256 + l.getD 1 0) * 256 + l.getD 0 0) := by rw [← hU, hl2]; rfl
        have eR : jr false (l.set 0 (X : Int)) 2 = ((0 * 256 + l.getD 1 0) * 256 + (X : Int)) := by rw [hl2]; rfl
        have hz : U / 2 ^ 0 % 256 = 0 := by omega
        show bits .or .i64 (jr false l 2) ((X : Int) * 2 ^ 0) = jr false (l.set 0 (X : Int)) 2
        rw [show jr false l 2 = (U : Int) from hU, or_int (by omega) hz (by omega) (by omega), eR]
        omega
      · have eU : (U : Int) = ((0 * 256 + l.getD 0 0) * 256 + l.getD 1 0) := by rw [← hU, hl2]; rfl
        have eR : jr true (l.set 0 (X : Int)) 2 = ((0 * 256 + (X : Int)) * 256 + l.getD 1 0) := by rw [hl2]; rfl
        have hz : U / 2 ^ 8 % 256 = 0 := by omega
        show bits .or .i64 (jr true l 2) ((X : Int) * 2 ^ 8) = jr true (l.set 0 (X : Int)) 2
        rw [show jr true l 2 = (U : Int) from hU, or_int (by omega) hz (by omega) (by omega), eR]
        omega
    · cases g
      · have eU : (U : Int) = ((0 * 256 + l.getD 1 0) * 256 + l.getD 0 0) := by rw [← hU, hl2]; rfl
        have eR : jr false (l.set 1 (X : Int)) 2 = ((0 * 256 + (X : Int)) * 256 + l.getD 0 0) := by rw [hl2]; rfl
        have hz : U / 2 ^ 8 % 256 = 0 := by omega
        show bits .or .i64 (jr false l 2) ((X : Int) * 2 ^ 8) = jr false (l.set 1 (X : Int)) 2
        rw [show jr false l 2 = (U : Int) from hU, or_int (by omega) hz (by omega) (by omega), eR]
        omega
      · have eU : (U : Int) = ((0 * 256 + l.getD 0 0) * 256 + l.getD 1 0) := by rw [← hU, hl2]; rfl
        have eR : jr true (l.set 1 (X : Int)) 2 = ((0 * 256 + l.getD 0 0) * 256 + (X : Int)) := by rw [hl2]; rfl
        have hz : U / 2 ^ 0 % 256 = 0 := by omega
        show bits .or .i64 (jr true l 2) ((X : Int) * 2 ^ 0) = jr true (l.set 1 (X : Int)) 2
        rw [show jr true l 2 = (U : Int) from hU, or_int (by omega) hz (by omega) (by omega), eR]
        omega
  · have hl2 := list_eta3 l hl
    have hcase : j = 0 ∨ j = 1 ∨ j = 2 := by have h : nb 24 = 3 := rfl; omega
    rcases hcase with rfl | rfl | rfl
    · cases g
      · have eU : (U : Int) = (((0 * 256 + l.getD 2 0) * 256 + l.getD 1 0) * 256 + l.getD 0 0) := by rw [← hU, hl2]; rfl
        have eR : jr false (l.set 0 (X : Int)) 3 = (((0 * 256 + l.getD 2 0) * 256 + l.getD 1 0) * 256 + (X : Int)) := by rw [hl2]; rfl
        have hz : U / 2 ^ 0 % 256 = 0 := by omega
        show bits .or .i64 (jr false l 3) ((X : Int) * 2 ^ 0) = jr false (l.set 0 (X : Int)) 3
        rw [show jr false l 3 = (U : Int) from hU, or_int (by omega) hz (by omega) (by omega), eR]
        omega
      · have eU : (U : Int) = (((0 * 256 + l.getD 0 0) * 256 + l.getD 1 0) * 256 + l.getD 2 0) := by rw [← hU, hl2]; rfl
        have eR : jr true (l.set 0 (X : Int)) 3 = (((0 * 256 + (X : Int)) * 256 + l.getD 1 0) * 256 + l.getD 2 0) := by rw [hl2]; rfl
        have hz : U / 2 ^ 16 % 256 = 0 := by omega
        show bits .or .i64 (jr true l 3) ((X : Int) * 2 ^ 16) = jr true (l.set 0 (X : Int)) 3
        rw [show jr true l 3 = (U : Int) from hU, or_int (by omega) hz (by omega) (by omega), eR]
        omega
    · cases g
      · have eU : (U : Int) = (((0 * 256 + l.getD 2 0) * 256 + l.getD 1 0) * 256 + l.getD 0 0) := by rw [← hU, hl2]; rfl
        have eR : jr false (l.set 1 (X : Int)) 3 = (((0 * 256 + l.getD 2 0) * 256 + (X : Int)) * 256 + l.getD 0 0) := by rw [hl2]; rfl
        have hz : U / 2 ^ 8 % 256 = 0 := by omega
        show bits .or .i64 (jr false l 3) ((X : Int) * 2 ^ 8) = jr false (l.set 1 (X : Int)) 3
        rw [show jr false l 3 = (U : Int) from hU, or_int (by omega) hz (by omega) (by omega), eR]
        omega
      · have eU : (U : Int) = (((0 * 256 + l.getD 0 0) * 256 + l.getD 1 0) * 256 + l.getD 2 0) := by rw [← hU, hl2]; rfl
        have eR : jr true (l.set 1 (X : Int)) 3 = (((0 * 256 + l.getD 0 0) * 256 + (X : Int)) * 256 + l.getD 2 0) := by rw [hl2]; rfl
        have hz : U / 2 ^ 8 % 256 = 0 := by omega
        show bits .or .i64 (jr true l 3) ((X : Int) * 2 ^ 8) = jr true (l.set 1 (X : Int)) 3
        rw [show jr true l 3 = (U : Int) from hU, or_int (by omega) hz (by omega) (by omega), eR]
        omega
    · cases g
      · have eU : (U : Int) = (((0 * 256 + l.getD 2 0) * 256 + l.getD 1 0) * 256 + l.getD 0 0) := by rw [← hU, hl2]; rfl
        have eR : jr false (l.set 2 (X : Int)) 3 = (((0 * 256 + (X : Int)) * 256 + l.getD 1 0) * 256 + l.getD 0 0) := by rw [hl2]; rfl
        have hz : U / 2 ^ 16 % 256 = 0 := by omega
        show bits .or .i64 (jr false l 3) ((X : Int) * 2 ^ 16) = jr false (l.set 2 (X : Int)) 3
        rw [show jr false l 3 = (U : Int) from hU, or_int (by omega) hz (by omega) (by omega), eR]
        omega
      · have eU : (U : Int) = (((0 * 256 + l.getD 0 0) * 256 + l.getD 1 0) * 256 + l.getD 2 0) := by rw [← hU, hl2]; rfl
        have eR : jr true (l.set 2 (X : Int)) 3 = (((0 * 256 + l.getD 0 0) * 256 + l.getD 1 0) * 256 + (X : Int)) := by rw [hl2]; rfl
        have hz : U / 2 ^ 0 % 256 = 0 := by omega
        show bits .or .i64 (jr true l 3) ((X : Int) * 2 ^ 0) = jr true (l.set 2 (X : Int)) 3
        rw [show jr true l 3 = (U : Int) from hU, or_int (by omega) hz (by omega) (by omega), eR]
        omega
  · have hl2 := list_eta4 l hl
    have hcase : j = 0 ∨ j = 1 ∨ j = 2 ∨ j = 3 := by have h : nb 32 = 4 := rfl; omega
    rcases hcase with rfl | rfl | rfl | rfl
    · cases g
      · have eU : (U : Int) = ((((0 * 256 + l.getD 3 0) * 256 + l.getD 2 0) * 256 + l.getD 1 0) * 256 + l.getD 0 0) := by rw [← hU, hl2]; rfl
        have eR : jr false (l.set 0 (X : Int)) 4 = ((((0 * 256 + l.getD 3 0) * 256 + l.getD 2 0) * 256 + l.getD 1 0) * 256 + (X : Int)) := by rw [hl2]; rfl
        have hz : U / 2 ^ 0 % 256 = 0 := by omega
        show bits .or .i64 (jr false l 4) ((X : Int) * 2 ^ 0) = jr false (l.set 0 (X : Int)) 4
        rw [show jr false l 4 = (U : Int) from hU, or_int (by omega) hz (by omega) (by omega), eR]
        omega
      · have eU : (U : Int) = ((((0 * 256 + l.getD 0 0) * 256 + l.getD 1 0) * 256 + l.getD 2 0) * 256 + l.getD 3 0) := by rw [← hU, hl2]; rfl
        have eR : jr true (l.set 0 (X : Int)) 4 = ((((0 * 256 + (X : Int)) * 256 + l.getD 1 0) * 256 + l.getD 2 0) * 256 + l.getD 3 0) := by rw [hl2]; rfl
        have hz : U / 2 ^ 24 % 256 = 0 := by omega
        show bits .or .i64 (jr true l 4) ((X : Int) * 2 ^ 24) = jr true (l.set 0 (X : Int)) 4
        rw [show jr true l 4 = (U : Int) from hU, or_int (by omega) hz (by omega) (by omega), eR]
        omega
    · cases g
      · have eU : (U : Int) = ((((0 * 256 + l.getD 3 0) * 256 + l.getD 2 0) * 256 + l.getD 1 0) * 256 + l.getD 0 0) := by rw [← hU, hl2]; rfl
        have eR : jr false (l.set 1 (X : Int)) 4 = ((((0 * 256 + l.getD 3 0) * 256 + l.getD 2 0) * 256 + (X : Int)) * 256 + l.getD 0 0) := by rw [hl2]; rfl
        have hz : U / 2 ^ 8 % 256 = 0 := by omega
        show bits .or .i64 (jr false l 4) ((X : Int) * 2 ^ 8) = jr false (l.set 1 (X : Int)) 4
        rw [show jr false l 4 = (U : Int) from hU, or_int (by omega) hz (by omega) (by omega), eR]
        omega
      · have eU : (U : Int) = ((((0 * 256 + l.getD 0 0) * 256 + l.getD 1 0) * 256 + l.getD 2 0) * 256 + l.getD 3 0) := by rw [← hU, hl2]; rfl
        have eR : jr true (l.set 1 (X : Int)) 4 = ((((0 * 256 + l.getD 0 0) * 256 + (X : Int)) * 256 + l.getD 2 0) * 256 + l.getD 3 0) := by rw [hl2]; rfl
        have hz : U / 2 ^ 16 % 256 = 0 := by omega
        show bits .or .i64 (jr true l 4) ((X : Int) * 2 ^ 16) = jr true (l.set 1 (X : Int)) 4
        rw [show jr true l 4 = (U : Int) from hU, or_int (by omega) hz (by omega) (by omega), eR]
        omega
    · cases g
      · have eU : (U : Int) = ((((0 * 256 + l.getD 3 0) * 256 + l.getD 2 0) * 256 + l.getD 1 0) * 256 + l.getD 0 0) := by rw [← hU, hl2]; rfl
        have eR : jr false (l.set 2 (X : Int)) 4 = ((((0 * 256 + l.getD 3 0) * 256 + (X : Int)) * 256 + l.getD 1 0) * 256 + l.getD 0 0) := by rw [hl2]; rfl
        have hz : U / 2 ^ 16 % 256 = 0 := by omega
        show bits .or .i64 (jr false l 4) ((X : Int) * 2 ^ 16) = jr false (l.set 2 (X : Int)) 4
        rw [show jr false l 4 = (U : Int) from hU, or_int (by omega) hz (by omega) (by omega), eR]
        omega
      · have eU : (U : Int) = ((((0 * 256 + l.getD 0 0) * 256 + l.getD 1 0) * 256 + l.getD 2 0) * 256 + l.getD 3 0) := by rw [← hU, hl2]; rfl
        have eR : jr true (l.set 2 (X : Int)) 4 = ((((0 * 256 + l.getD 0 0) * 256 + l.getD 1 0) * 256 + (X : Int)) * 256 + l.getD 3 0) := by rw [hl2]; rfl
        have hz : U / 2 ^ 8 % 256 = 0 := by omega
        show bits .or .i64 (jr true l 4) ((X : Int) * 2 ^ 8) = jr true (l.set 2 (X : Int)) 4
        rw [show jr true l 4 = (U : Int) from hU, or_int (by omega) hz (by omega) (by omega), eR]
        omega
    · cases g
      · have eU : (U : Int) = ((((0 * 256 + l.getD 3 0) * 256 + l.getD 2 0) * 256 + l.getD 1 0) * 256 + l.getD 0 0) := by rw [← hU, hl2]; rfl
        have eR : jr false (l.set 3 (X : Int)) 4 = ((((0 * 256 + (X : Int)) * 256 + l.getD 2 0) * 256 + l.getD 1 0) * 256 + l.getD 0 0) := by rw [hl2]; rfl
        have hz : U / 2 ^ 24 % 256 = 0 := by omega
        show bits .or .i64 (jr false l 4) ((X : Int) * 2 ^ 24) = jr false (l.set 3 (X : Int)) 4
        rw [show jr false l 4 = (U : Int) from hU, or_int (by omega) hz (by omega) (by omega), eR]
        omega
      · have eU : (U : Int) = ((((0 * 256 + l.getD 0 0) * 256 + l.getD 1 0) * 256 + l.getD 2 0) * 256 + l.getD 3 0) := by rw [← hU, hl2]; rfl
        have eR : jr true (l.set 3 (X : Int)) 4 = ((((0 * 256 + l.getD 0 0) * 256 + l.getD 1 0) * 256 + l.getD 2 0) * 256 + (X : Int)) := by rw [hl2]; rfl
        have hz : U / 2 ^ 0 % 256 = 0 := by omega
        show bits .or .i64 (jr true l 4) ((X : Int) * 2 ^ 0) = jr true (l.set 3 (X : Int)) 4
        rw [show jr true l 4 = (U : Int) from hU, or_int (by omega) hz (by omega) (by omega), eR]
        omega
/-- behind i bytes the words are those of the chunks -/
theorem jl_chz {n : Int} (hb : IsBits n) (g : Bool) (bs : List Int) (hbd : ∀ j, 0 ≤ bs.getD j 0 ∧ bs.getD j 0 ≤ 255) (cnt i : Nat) (hi : i ≤ cnt * nb n) :
    jl n g bs cnt i = (List.range cnt).map fun c => jr g (chz n bs i c) (nb n) := by
  have h4 := nb_bd hb
  induction i with
  | zero =>
    rw [jl]
    apply List.ext_getElem
    · simp
    · intro c h1 h2
      simp only [List.getElem_replicate, List.getElem_map, List.getElem_range]
      have hz : chz n bs 0 c = List.replicate (nb n) 0 := by
        apply List.ext_getElem
        · simp [chz]
        · intro j h3 h4; simp [chz]
      rw [hz]
      rcases hb with rfl | rfl | rfl <;> cases g <;> rfl
  | succ i ih =>
    have ih := ih (by omega)
    rw [jl, ih]
    have hwi : wi n i < cnt := wi_lt hb (by omega)
    have hdm : wi n i * nb n + i % nb n = i := by unfold wi; rw [Nat.mul_comm]; exact Nat.div_add_mod i (nb n)
    have hml : i % nb n < nb n := Nat.mod_lt _ (by omega)
    have hg : ((List.range cnt).map fun c => jr g (chz n bs i c) (nb n)).getD (wi n i) 0 = jr g (chz n bs i (wi n i)) (nb n) := by simp [hwi]
    rw [hg, show ws n g i = 8 * wpos n g (i % nb n) from rfl, or_jr hb g _ (chz_length n bs i _) (chz_bd hbd n i _) (i % nb n) hml (by rw [chz_at n bs i _ _ hml, hdm, if_neg (by omega)]) _ (hbd i)]
    apply List.ext_getElem
    · simp
    · intro c h1 h2
      simp only [List.getElem_set, List.getElem_map, List.getElem_range]
      by_cases e : wi n i = c
      · subst e
        rw [if_pos rfl]
        congr 1
        apply List.ext_getElem
        · simp [chz]
        · intro j h3 h5
          have hj : j < nb n := by simpa [chz] using h5
          simp only [chz, List.getElem_set, List.getElem_map, List.getElem_range]
          by_cases q : i % nb n = j
          · subst q; rw [if_pos rfl, hdm, if_pos (by omega)]
          · rw [if_neg q]
            have : wi n i * nb n + j ≠ i := fun h => q (by omega)
            by_cases lt : wi n i * nb n + j < i
            · rw [if_pos lt, if_pos (by omega)]
            · rw [if_neg lt, if_neg (by omega)]
      · rw [if_neg e]
        congr 1
        apply List.ext_getElem
        · simp [chz]
        · intro j h3 h5
          have hj : j < nb n := by simpa [chz] using h5
          simp only [chz, List.getElem_map, List.getElem_range]
          have : c * nb n + j ≠ i := fun h => e (by
            unfold wi; rw [← h, Nat.mul_comm, Nat.mul_add_div (by omega), Nat.div_eq_of_lt hj]; omega)
          by_cases lt : c * nb n + j < i
          · rw [if_pos lt, if_pos (by omega)]
          · rw [if_neg lt, if_neg (by omega)]
/-- the bytes of chunk c; zeros fill the last one -/
def chunk (n : Int) (bs : List Int) (c : Nat) : List Int := (List.range (nb n)).map fun j => bs.getD (c * nb n + j) 0
theorem chz_all (n : Int) (bs : List Int) (c : Nat) : chz n bs bs.length c = chunk n bs c := by
  unfold chz chunk
  apply List.map_congr_left
  intro j _
  split
  · rfl
  · rw [List.getD_eq_getElem?_getD, List.getElem?_eq_none (by omega)]; rfl
theorem jn_chunks {n : Int} (hb : IsBits n) (g : Bool) (bs : List Int) (hbd : ∀ j, 0 ≤ bs.getD j 0 ∧ bs.getD j 0 ≤ 255) :
    jn n g bs = (List.range ((bs.length + nb n - 1) / nb n)).map fun c => jw n g (chunk n bs c) := by
  have h4 := nb_bd hb
  unfold jn
  have hle : bs.length ≤ (bs.length + nb n - 1) / nb n * nb n := by
    have h3 := Nat.div_add_mod (bs.length + nb n - 1) (nb n)
    have h5 := Nat.mod_lt (bs.length + nb n - 1) (show nb n > 0 by omega)
    rw [Nat.mul_comm] at h3
    omega
  rw [jl_chz hb g bs hbd _ _ hle, List.map_map]
  apply List.map_congr_left
  intro c _
  show nm n (jr g (chz n bs bs.length c) (nb n)) = jw n g (chunk n bs c)
  rw [chz_all]
  unfold jw
  rw [show (chunk n bs c).length = nb n from by simp [chunk]]
end Go.Proofs.Ytmhifelkihcidaa.WM
