/- Plain mathematics of the bytes of words. No program is named here. -/
import Derived.Test.YtmhifelkihcidaaWMath
namespace Go.Proofs.Ytmhifelkihcidaa.WM
open Go.RowKit

/-- how many bytes a word has -/
def nb (n : Int) : Nat := n.toNat / 8
/-- in which word byte i lies, and by how many bits it is shifted there -/
def wi (n : Int) (i : Nat) : Nat := i / nb n
def wpos (n : Int) (g : Bool) (j : Nat) : Nat := if g then nb n - 1 - j else j
def ws (n : Int) (g : Bool) (i : Nat) : Nat := 8 * wpos n g (i % nb n)
theorem wpos_lt (n : Int) (g : Bool) (j : Nat) (h : j < nb n) : wpos n g j < nb n := by cases g <;> simp only [wpos] <;> first | exact h | (show nb n - 1 - j < nb n; omega)
theorem nb16 : nb 16 = 2 := rfl
theorem nb24 : nb 24 = 3 := rfl
theorem nb32 : nb 32 = 4 := rfl
theorem wi16 (i : Nat) : (i : Int) / 2 = ((wi 16 i : Nat) : Int) := by show (i : Int) / 2 = ((i / 2 : Nat) : Int); omega
theorem ws16_false (i : Nat) : 8 * ((i : Int) % 2) = ((ws 16 false i : Nat) : Int) := by show 8 * ((i : Int) % 2) = ((8 * (i % 2) : Nat) : Int); omega
theorem ws16_true (i : Nat) : 8 * (1 - (i : Int) % 2) = ((ws 16 true i : Nat) : Int) := by show 8 * (1 - (i : Int) % 2) = ((8 * (2 - 1 - i % 2) : Nat) : Int); omega
theorem wi24 (i : Nat) : (i : Int) / 3 = ((wi 24 i : Nat) : Int) := by show (i : Int) / 3 = ((i / 3 : Nat) : Int); omega
theorem ws24_false (i : Nat) : 8 * ((i : Int) % 3) = ((ws 24 false i : Nat) : Int) := by show 8 * ((i : Int) % 3) = ((8 * (i % 3) : Nat) : Int); omega
theorem ws24_true (i : Nat) : 8 * (2 - (i : Int) % 3) = ((ws 24 true i : Nat) : Int) := by show 8 * (2 - (i : Int) % 3) = ((8 * (3 - 1 - i % 3) : Nat) : Int); omega
theorem wi32 (i : Nat) : (i : Int) / 4 = ((wi 32 i : Nat) : Int) := by show (i : Int) / 4 = ((i / 4 : Nat) : Int); omega
theorem ws32_false (i : Nat) : 8 * ((i : Int) % 4) = ((ws 32 false i : Nat) : Int) := by show 8 * ((i : Int) % 4) = ((8 * (i % 4) : Nat) : Int); omega
theorem ws32_true (i : Nat) : 8 * (3 - (i : Int) % 4) = ((ws 32 true i : Nat) : Int) := by show 8 * (3 - (i : Int) % 4) = ((8 * (4 - 1 - i % 4) : Nat) : Int); omega
theorem ws_le {n : Int} (hb : IsBits n) (g : Bool) (i : Nat) : ws n g i ≤ 24 := by
  rcases hb with rfl | rfl | rfl <;> cases g
  · show 8 * (i % 2) ≤ 24; omega
  · show 8 * (2 - 1 - i % 2) ≤ 24; omega
  · show 8 * (i % 3) ≤ 24; omega
  · show 8 * (3 - 1 - i % 3) ≤ 24; omega
  · show 8 * (i % 4) ≤ 24; omega
  · show 8 * (4 - 1 - i % 4) ≤ 24; omega
theorem nb_bd {n : Int} (hb : IsBits n) : 2 ≤ nb n ∧ nb n ≤ 4 := by
  rcases hb with rfl | rfl | rfl <;> decide
theorem wi_lt {n : Int} (hb : IsBits n) {i m : Nat} (h : i < m * nb n) : wi n i < m := by
  have := nb_bd hb
  unfold wi; exact (Nat.div_lt_iff_lt_mul (by omega)).2 h
/-- byte i of a list of words -/
def gb (n : Int) (g : Bool) (xs : List Int) (i : Nat) : Int := xs.getD (wi n i) 0 / 2 ^ ws n g i % 256
theorem gb_bd (n : Int) (g : Bool) (xs : List Int) (i : Nat) : 0 ≤ gb n g xs i ∧ gb n g xs i ≤ 255 := by unfold gb; omega
/-- the first k words normed, the others as they were -/
def upTo (n : Int) (xs : List Int) (k : Nat) : List Int := (xs.take k).map (nm n) ++ xs.drop k
theorem upTo_0 (n : Int) (xs : List Int) : upTo n xs 0 = xs := by simp [upTo]
theorem upTo_all (n : Int) (xs : List Int) (k : Nat) (h : xs.length = k) : upTo n xs k = xs.map (nm n) := by
  subst h; simp [upTo]
theorem upTo_at (n : Int) (xs : List Int) (k : Nat) : (upTo n xs k).getD k 0 = xs.getD k 0 := by
  unfold upTo
  by_cases h : k < xs.length
  · simp [List.getElem?_append_right, Nat.min_eq_left (Nat.le_of_lt h), h]
  · have h' : xs.length ≤ k := by omega
    simp [Nat.min_eq_right h', h, List.drop_of_length_le h']
theorem upTo_succ (n : Int) (xs : List Int) (k : Nat) (h : k < xs.length) : (upTo n xs k).set k (nm n (xs.getD k 0)) = upTo n xs (k + 1) := by
  unfold upTo
  rw [List.drop_eq_getElem_cons h, List.take_succ_eq_append_getElem h, List.set_append_right _ _ (by simp; omega), List.map_append, List.append_assoc]
  congr 1
  have e : k - (List.map (nm n) (List.take k xs)).length = 0 := by simp; omega
  rw [e, List.set_cons_zero]
  simp [h]
/-- bytes laid into words, as the program does it: behind i bytes -/
def jl (n : Int) (g : Bool) (bs : List Int) (cnt : Nat) : Nat → List Int
  | 0 => List.replicate cnt 0
  | i + 1 => (jl n g bs cnt i).set (wi n i) (bits .or .i64 ((jl n g bs cnt i).getD (wi n i) 0) (bs.getD i 0 * 2 ^ ws n g i))
theorem jl_length (n : Int) (g : Bool) (bs : List Int) (cnt i : Nat) : (jl n g bs cnt i).length = cnt := by
  induction i with
  | zero => simp [jl]
  | succ i ih => simp [jl, ih]
/-- the words that bytes make -/
def jn (n : Int) (g : Bool) (bs : List Int) : List Int := (jl n g bs ((bs.length + nb n - 1) / nb n) bs.length).map (nm n)
theorem cnt_cast (l b : Nat) (hb : 1 ≤ b) : ((l : Int) + (b : Int) - 1) / (b : Int) = (((l + b - 1) / b : Nat) : Int) := by
  rw [Int.natCast_ediv]; congr 1; omega
theorem wi_lt_cnt {n : Int} (hb : IsBits n) {l cnt k : Nat} (h : (l + nb n - 1) / nb n = cnt) (hk : k < l) : wi n k < cnt := by
  have h2 := nb_bd hb
  subst h
  unfold wi
  rw [Nat.div_lt_iff_lt_mul (by omega)]
  have h3 := Nat.div_add_mod (l + nb n - 1) (nb n)
  have h4 := Nat.mod_lt (l + nb n - 1) (show nb n > 0 by omega)
  rw [Nat.mul_comm] at h3
  omega
theorem pow24 {s : Nat} (h : s ≤ 24) : 1 ≤ (2 : Int) ^ s ∧ (2 : Int) ^ s ≤ 16777216 := by
  have h1 : (2 : Nat) ^ s ≤ 2 ^ 24 := Nat.pow_le_pow_right (by omega) h
  have h2 : 1 ≤ (2 : Nat) ^ s := Nat.one_le_two_pow
  have e : (2 : Int) ^ s = ((2 ^ s : Nat) : Int) := by rw [Int.natCast_pow]; rfl
  rw [e]; omega
theorem mul24_bd {x : Int} {s : Nat} (hx : 0 ≤ x ∧ x ≤ 255) (h : s ≤ 24) : 0 ≤ x * 2 ^ s ∧ x * 2 ^ s ≤ 4278190080 := by
  have h1 := pow24 h
  refine ⟨Int.mul_nonneg hx.1 (by omega), ?_⟩
  calc x * 2 ^ s ≤ 255 * 2 ^ s := Int.mul_le_mul_of_nonneg_right hx.2 (by omega)
    _ ≤ 255 * 16777216 := by omega
theorem mul24_fit {x : Int} {s : Nat} (hx : 0 ≤ x ∧ x ≤ 255) (h : s ≤ 24) : wrap64 (x * 2 ^ s) = x * 2 ^ s := by
  have := mul24_bd hx h; exact IntWalk.wrap64_in _ ⟨by omega, by omega⟩
theorem div_nb {n : Int} (hb : IsBits n) {k : Nat} (hk : k ≤ 9223372036854775807) : 0 ≤ (k : Int) / (nb n : Int) ∧ (k : Int) / (nb n : Int) ≤ 4611686018427387904 := by
  rcases hb with rfl | rfl | rfl
  · show 0 ≤ (k : Int) / 2 ∧ (k : Int) / 2 ≤ _; omega
  · show 0 ≤ (k : Int) / 3 ∧ (k : Int) / 3 ≤ _; omega
  · show 0 ≤ (k : Int) / 4 ∧ (k : Int) / 4 ≤ _; omega

/-! ### a word split into its bytes, as the reference does it -/
def vk (n x : Int) (k : Nat) : Int := un n x / ((256 ^ k : Nat) : Int)
theorem vk_0 (n x : Int) : vk n x 0 = un n x := by unfold vk; simp
theorem vk_succ (n x : Int) (k : Nat) : vk n x (k + 1) = vk n x k / 256 := by
  unfold vk
  rw [Nat.pow_succ, Int.natCast_mul, Int.ediv_ediv_of_nonneg (Int.natCast_nonneg _)]; rfl
theorem vk_bd {n : Int} (hb : IsBits n) (x : Int) (k : Nat) : 0 ≤ vk n x k ∧ vk n x k ≤ 4294967295 := by
  induction k with
  | zero => rw [vk_0]; exact un_bd hb x
  | succ k ih => rw [vk_succ]; omega
/-- behind k rounds -/
def sl (n : Int) (g : Bool) (x : Int) : Nat → List Int
  | 0 => List.replicate (nb n) 0
  | k + 1 => (sl n g x k).set (wpos n g k) (vk n x k % 256)
theorem sl_length (n : Int) (g : Bool) (x : Int) (k : Nat) : (sl n g x k).length = nb n := by
  induction k with
  | zero => simp [sl]
  | succ k ih => simp [sl, ih]
/-- the bytes of a word in their order -/
def spl (n : Int) (g : Bool) (x : Int) : List Int := sl n g x (nb n)
theorem spl_length (n : Int) (g : Bool) (x : Int) : (spl n g x).length = nb n := sl_length _ _ _ _
theorem spl16 (x : Int) : spl 16 false x = [vk 16 x 0 % 256, vk 16 x 1 % 256] ∧ spl 16 true x = [vk 16 x 1 % 256, vk 16 x 0 % 256] := ⟨rfl, rfl⟩
theorem spl24 (x : Int) : spl 24 false x = [vk 24 x 0 % 256, vk 24 x 1 % 256, vk 24 x 2 % 256] ∧ spl 24 true x = [vk 24 x 2 % 256, vk 24 x 1 % 256, vk 24 x 0 % 256] := ⟨rfl, rfl⟩
theorem spl32 (x : Int) : spl 32 false x = [vk 32 x 0 % 256, vk 32 x 1 % 256, vk 32 x 2 % 256, vk 32 x 3 % 256] ∧ spl 32 true x = [vk 32 x 3 % 256, vk 32 x 2 % 256, vk 32 x 1 % 256, vk 32 x 0 % 256] := ⟨rfl, rfl⟩
theorem vkm16 (x : Int) : vk 16 x 0 % 256 = x / 1 % 256 ∧ vk 16 x 1 % 256 = x / 256 % 256 := by
  constructor
  · show x % 65536 / 1 % 256 = _; omega
  · show x % 65536 / 256 % 256 = _; omega
theorem vkm24 (x : Int) : vk 24 x 0 % 256 = x / 1 % 256 ∧ vk 24 x 1 % 256 = x / 256 % 256 ∧ vk 24 x 2 % 256 = x / 65536 % 256 := by
  refine ⟨?_, ?_, ?_⟩
  · show x % 16777216 / 1 % 256 = _; omega
  · show x % 16777216 / 256 % 256 = _; omega
  · show x % 16777216 / 65536 % 256 = _; omega
theorem vkm32 (x : Int) : vk 32 x 0 % 256 = x / 1 % 256 ∧ vk 32 x 1 % 256 = x / 256 % 256 ∧ vk 32 x 2 % 256 = x / 65536 % 256 ∧ vk 32 x 3 % 256 = x / 16777216 % 256 := by
  refine ⟨?_, ?_, ?_, ?_⟩
  · show x % 4294967296 / 1 % 256 = _; omega
  · show x % 4294967296 / 256 % 256 = _; omega
  · show x % 4294967296 / 65536 % 256 = _; omega
  · show x % 4294967296 / 16777216 % 256 = _; omega
/-- byte j of a word by its shift is that of the split -/
theorem spl_at {n : Int} (hb : IsBits n) (g : Bool) (x : Int) (j : Nat) (hj : j < nb n) : (spl n g x).getD j 0 = x / 2 ^ (8 * wpos n g j) % 256 := by
  rcases hb with rfl | rfl | rfl <;> cases g
  · rw [(spl16 x).1, (vkm16 x).1, (vkm16 x).2]
    have : j = 0 ∨ j = 1 := by have h : nb 16 = 2 := rfl; omega
    rcases this with rfl | rfl <;> rfl
  · rw [(spl16 x).2, (vkm16 x).1, (vkm16 x).2]
    have : j = 0 ∨ j = 1 := by have h : nb 16 = 2 := rfl; omega
    rcases this with rfl | rfl <;> rfl
  · rw [(spl24 x).1, (vkm24 x).1, (vkm24 x).2.1, (vkm24 x).2.2]
    have : j = 0 ∨ j = 1 ∨ j = 2 := by have h : nb 24 = 3 := rfl; omega
    rcases this with rfl | rfl | rfl <;> rfl
  · rw [(spl24 x).2, (vkm24 x).1, (vkm24 x).2.1, (vkm24 x).2.2]
    have : j = 0 ∨ j = 1 ∨ j = 2 := by have h : nb 24 = 3 := rfl; omega
    rcases this with rfl | rfl | rfl <;> rfl
  · rw [(spl32 x).1, (vkm32 x).1, (vkm32 x).2.1, (vkm32 x).2.2.1, (vkm32 x).2.2.2]
    have : j = 0 ∨ j = 1 ∨ j = 2 ∨ j = 3 := by have h : nb 32 = 4 := rfl; omega
    rcases this with rfl | rfl | rfl | rfl <;> rfl
  · rw [(spl32 x).2, (vkm32 x).1, (vkm32 x).2.1, (vkm32 x).2.2.1, (vkm32 x).2.2.2]
    have : j = 0 ∨ j = 1 ∨ j = 2 ∨ j = 3 := by have h : nb 32 = 4 := rfl; omega
    rcases this with rfl | rfl | rfl | rfl <;> rfl
theorem gb_spl {n : Int} (hb : IsBits n) (g : Bool) (xs : List Int) (i : Nat) : (spl n g (xs.getD (wi n i) 0)).getD (i % nb n) 0 = gb n g xs i := by
  have h := nb_bd hb
  rw [spl_at hb g _ _ (Nat.mod_lt _ (by omega))]; rfl
end Go.Proofs.Ytmhifelkihcidaa.WM
