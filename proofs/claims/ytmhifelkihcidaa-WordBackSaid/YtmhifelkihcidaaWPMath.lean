/- Plain mathematics: lists of bytes that are got one after another. No program is named here. -/
import Derived.Test.YtmhifelkihcidaaWJoin
namespace Go.Proofs.Ytmhifelkihcidaa.WM
open Go.RowKit
set_option linter.unusedVariables false

/-- the first k of the bytes from place o on, zeros behind -/
def bz (n : Int) (g : Bool) (xs : List Int) (o m k : Nat) : List Int := (List.range m).map fun i => if i < k then gb n g xs (i + o) else 0
/-- m bytes from place o on -/
def byt (n : Int) (g : Bool) (xs : List Int) (o m : Nat) : List Int := (List.range m).map fun i => gb n g xs (i + o)
theorem bz_length (n : Int) (g : Bool) (xs : List Int) (o m k : Nat) : (bz n g xs o m k).length = m := by simp [bz]
theorem byt_length (n : Int) (g : Bool) (xs : List Int) (o m : Nat) : (byt n g xs o m).length = m := by simp [byt]
theorem bz_0 (n : Int) (g : Bool) (xs : List Int) (o m : Nat) : bz n g xs o m 0 = List.replicate m 0 := by
  apply List.ext_getElem
  · simp [bz]
  · intro i h1 h2; simp [bz]
theorem bz_all (n : Int) (g : Bool) (xs : List Int) (o m : Nat) : bz n g xs o m m = byt n g xs o m := by
  apply List.ext_getElem
  · simp [bz, byt]
  · intro i h1 h2; simp [bz, byt] at h1 ⊢; intro h; omega
theorem bz_succ (n : Int) (g : Bool) (xs : List Int) (o m k : Nat) : (bz n g xs o m k).set k (gb n g xs (k + o)) = bz n g xs o m (k + 1) := by
  apply List.ext_getElem
  · simp [bz]
  · intro i h1 h2
    simp only [bz, List.getElem_set, List.getElem_map, List.getElem_range]
    by_cases h : k = i
    · subst h; rw [if_pos rfl, if_pos (by omega)]
    · rw [if_neg h]
      by_cases h3 : i < k
      · rw [if_pos h3, if_pos (by omega)]
      · rw [if_neg h3, if_neg (by omega)]
theorem byt_succ (n : Int) (g : Bool) (xs : List Int) (o m : Nat) : byt n g xs o (m + 1) = byt n g xs o m ++ [gb n g xs (m + o)] := by
  unfold byt; rw [List.range_succ, List.map_append]; rfl
theorem byt_0 (n : Int) (g : Bool) (xs : List Int) (o : Nat) : byt n g xs o 0 = [] := rfl
theorem mul_cast {n : Int} (hb : IsBits n) (l : Nat) (hl : l ≤ 2147483647) : wrap64 ((l : Int) * (nb n : Int)) = ((l * nb n : Nat) : Int) ∧ l * nb n ≤ 8589934588 := by
  rcases hb with rfl | rfl | rfl
  · have e : nb 16 = 2 := rfl
    rw [e]; exact ⟨by rw [IntWalk.wrap64_in _ ⟨by omega, by omega⟩]; omega, by omega⟩
  · have e : nb 24 = 3 := rfl
    rw [e]; exact ⟨by rw [IntWalk.wrap64_in _ ⟨by omega, by omega⟩]; omega, by omega⟩
  · have e : nb 32 = 4 := rfl
    rw [e]; exact ⟨by rw [IntWalk.wrap64_in _ ⟨by omega, by omega⟩]; omega, by omega⟩
theorem wi_at {n : Int} (hb : IsBits n) (i j : Nat) (hj : j < nb n) : wi n (i * nb n + j) = i ∧ (i * nb n + j) % nb n = j := by
  have h : 0 < nb n := by omega
  constructor
  · unfold wi; rw [Nat.add_comm, Nat.add_mul_div_right _ _ h, Nat.div_eq_of_lt hj, Nat.zero_add]
  · rw [Nat.add_comm, Nat.add_mul_mod_self_right, Nat.mod_eq_of_lt hj]
theorem spl_gb {n : Int} (hb : IsBits n) (g : Bool) (xs : List Int) (i j : Nat) (hj : j < nb n) : (spl n g (xs.getD i 0)).getD j 0 = gb n g xs (i * nb n + j + 0) := by
  have h := gb_spl hb g xs (i * nb n + j)
  rw [(wi_at hb i j hj).1, (wi_at hb i j hj).2] at h
  exact h
theorem chunk_length (n : Int) (bs : List Int) (c : Nat) : (chunk n bs c).length = nb n := by simp [chunk]
theorem chunk_take (n : Int) (bs : List Int) (c j : Nat) (hj : j < nb n) : (chunk n bs c).take (j + 1) = (chunk n bs c).take j ++ [bs.getD (c * nb n + j) 0] := by
  rw [List.take_succ_eq_append_getElem (by rw [chunk_length]; exact hj)]
  congr 1
  simp [chunk]
theorem chunk_bd {bs : List Int} (hbd : ∀ j, 0 ≤ bs.getD j 0 ∧ bs.getD j 0 ≤ 255) (n : Int) (c j : Nat) : 0 ≤ (chunk n bs c).getD j 0 ∧ (chunk n bs c).getD j 0 ≤ 255 := by
  rw [← chz_all]; exact chz_bd hbd n bs.length c j
/-- the words of the first q chunks -/
def jwl (n : Int) (g : Bool) (bs : List Int) (q : Nat) : List Int := (List.range q).map fun c => jw n g (chunk n bs c)
theorem jwl_succ (n : Int) (g : Bool) (bs : List Int) (q : Nat) : jwl n g bs (q + 1) = jwl n g bs q ++ [jw n g (chunk n bs q)] := by
  unfold jwl; rw [List.range_succ, List.map_append]; rfl
theorem jwl_length (n : Int) (g : Bool) (bs : List Int) (q : Nat) : (jwl n g bs q).length = q := by simp [jwl]
theorem jn_jwl {n : Int} (hb : IsBits n) (g : Bool) (bs : List Int) (hbd : ∀ j, 0 ≤ bs.getD j 0 ∧ bs.getD j 0 ≤ 255) (q : Nat) (hq : (bs.length + nb n - 1) / nb n = q) : jn n g bs = jwl n g bs q := by
  rw [jn_chunks hb g bs hbd, hq]; rfl
theorem div_up {n : Int} (hb : IsBits n) (q : Nat) : (q * nb n + nb n - 1) / nb n = q := by
  have h := nb_bd hb
  rw [show q * nb n + nb n - 1 = (nb n - 1) + q * nb n from by omega, Nat.add_mul_div_right _ _ (by omega), Nat.div_eq_of_lt (by omega), Nat.zero_add]
theorem pad_up {n : Int} (hb : IsBits n) (T : Nat) : ∃ q Z, T + Z = q * nb n ∧ Z < nb n ∧ (T + nb n - 1) / nb n = q ∧ ∀ z, z < Z → ¬ (T + z) % nb n = 0 := by
  rcases hb with rfl | rfl | rfl
  · show ∃ q Z, T + Z = q * 2 ∧ Z < 2 ∧ (T + 2 - 1) / 2 = q ∧ ∀ z, z < Z → ¬ (T + z) % 2 = 0
    exact ⟨(T + 1) / 2, (T + 1) / 2 * 2 - T, by omega, by omega, by omega, fun z hz => by omega⟩
  · show ∃ q Z, T + Z = q * 3 ∧ Z < 3 ∧ (T + 3 - 1) / 3 = q ∧ ∀ z, z < Z → ¬ (T + z) % 3 = 0
    exact ⟨(T + 2) / 3, (T + 2) / 3 * 3 - T, by omega, by omega, by omega, fun z hz => by omega⟩
  · show ∃ q Z, T + Z = q * 4 ∧ Z < 4 ∧ (T + 4 - 1) / 4 = q ∧ ∀ z, z < Z → ¬ (T + z) % 4 = 0
    exact ⟨(T + 3) / 4, (T + 3) / 4 * 4 - T, by omega, by omega, by omega, fun z hz => by omega⟩
theorem jwl_pad (n : Int) (g : Bool) (bs : List Int) (z q : Nat) : jwl n g (bs ++ List.replicate z 0) q = jwl n g bs q := by
  unfold jwl
  congr 1; funext c
  congr 1
  unfold chunk
  congr 1; funext j
  simp only [List.getD_eq_getElem?_getD, List.getElem?_append]
  by_cases h : c * nb n + j < bs.length
  · rw [if_pos h]
  · rw [if_neg h, List.getElem?_eq_none (by omega : bs.length ≤ c * nb n + j), List.getElem?_replicate]; split <;> rfl
end Go.Proofs.Ytmhifelkihcidaa.WM
