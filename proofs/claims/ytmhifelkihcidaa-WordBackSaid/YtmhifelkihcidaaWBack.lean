/- Plain mathematics: what was packed is unpacked, what was put is got. No program is named here. -/
import Derived.Test.YtmhifelkihcidaaWPMath
import Derived.Laws.BytesArg
namespace Go.Proofs.Ytmhifelkihcidaa.WM
open Go.RowKit
set_option linter.unusedVariables false

/-- the bytes of a joined word are the bytes that were joined -/
theorem spl_jw {n : Int} (hb : IsBits n) (g : Bool) (l : List Int) (hl : l.length = nb n) (hbd : ∀ j, 0 ≤ l.getD j 0 ∧ l.getD j 0 ≤ 255) : spl n g (jw n g l) = l := by
  rcases hb with rfl | rfl | rfl
  · obtain ⟨a0, a1, rfl⟩ : ∃ a0 a1, l = [a0, a1] := ⟨_, _, list_eta2 l hl⟩
    have h0 : 0 ≤ a0 ∧ a0 ≤ 255 := hbd 0
    have h1 : 0 ≤ a1 ∧ a1 ≤ 255 := hbd 1
    clear hbd hl
    cases g
    · skip
      have e : ∃ t : Int, jw 16 false [a0, a1] = ((0 * 256 + a1) * 256 + a0) - 65536 * t := by
        refine ⟨(((0 * 256 + a1) * 256 + a0) - Int.bmod ((0 * 256 + a1) * 256 + a0) 65536) / 65536, ?_⟩
        show Int.bmod ((0 * 256 + a1) * 256 + a0) 65536 = _
        rw [Int.bmod_def]; omega
      obtain ⟨t, e⟩ := e
      have hv := vkm16 (jw 16 false [a0, a1])
      rw [(spl16 _).1, hv.1, hv.2, e]
      congr 1
      · omega
      · congr 1
        · omega
    · skip
      have e : ∃ t : Int, jw 16 true [a0, a1] = ((0 * 256 + a0) * 256 + a1) - 65536 * t := by
        refine ⟨(((0 * 256 + a0) * 256 + a1) - Int.bmod ((0 * 256 + a0) * 256 + a1) 65536) / 65536, ?_⟩
        show Int.bmod ((0 * 256 + a0) * 256 + a1) 65536 = _
        rw [Int.bmod_def]; omega
      obtain ⟨t, e⟩ := e
      have hv := vkm16 (jw 16 true [a0, a1])
      rw [(spl16 _).2, hv.1, hv.2, e]
      congr 1
      · omega
      · congr 1
        · omega
  · obtain ⟨a0, a1, a2, rfl⟩ : ∃ a0 a1 a2, l = [a0, a1, a2] := ⟨_, _, _, list_eta3 l hl⟩
    have h0 : 0 ≤ a0 ∧ a0 ≤ 255 := hbd 0
    have h1 : 0 ≤ a1 ∧ a1 ≤ 255 := hbd 1
    have h2 : 0 ≤ a2 ∧ a2 ≤ 255 := hbd 2
    clear hbd hl
    cases g
    · skip
      have e : ∃ t : Int, jw 24 false [a0, a1, a2] = (((0 * 256 + a2) * 256 + a1) * 256 + a0) - 16777216 * t := by
        refine ⟨((((0 * 256 + a2) * 256 + a1) * 256 + a0) - Int.bmod (((0 * 256 + a2) * 256 + a1) * 256 + a0) 16777216) / 16777216, ?_⟩
        show Int.bmod (((0 * 256 + a2) * 256 + a1) * 256 + a0) 16777216 = _
        rw [Int.bmod_def]; omega
      obtain ⟨t, e⟩ := e
      have hv := vkm24 (jw 24 false [a0, a1, a2])
      rw [(spl24 _).1, hv.1, hv.2.1, hv.2.2, e]
      congr 1
      · omega
      · congr 1
        · omega
        · congr 1
          · omega
    · skip
      have e : ∃ t : Int, jw 24 true [a0, a1, a2] = (((0 * 256 + a0) * 256 + a1) * 256 + a2) - 16777216 * t := by
        refine ⟨((((0 * 256 + a0) * 256 + a1) * 256 + a2) - Int.bmod (((0 * 256 + a0) * 256 + a1) * 256 + a2) 16777216) / 16777216, ?_⟩
        show Int.bmod (((0 * 256 + a0) * 256 + a1) * 256 + a2) 16777216 = _
        rw [Int.bmod_def]; omega
      obtain ⟨t, e⟩ := e
      have hv := vkm24 (jw 24 true [a0, a1, a2])
      rw [(spl24 _).2, hv.1, hv.2.1, hv.2.2, e]
      congr 1
      · omega
      · congr 1
        · omega
        · congr 1
          · omega
  · obtain ⟨a0, a1, a2, a3, rfl⟩ : ∃ a0 a1 a2 a3, l = [a0, a1, a2, a3] := ⟨_, _, _, _, list_eta4 l hl⟩
    have h0 : 0 ≤ a0 ∧ a0 ≤ 255 := hbd 0
    have h1 : 0 ≤ a1 ∧ a1 ≤ 255 := hbd 1
    have h2 : 0 ≤ a2 ∧ a2 ≤ 255 := hbd 2
    have h3 : 0 ≤ a3 ∧ a3 ≤ 255 := hbd 3
    clear hbd hl
    cases g
    · skip
      have e : ∃ t : Int, jw 32 false [a0, a1, a2, a3] = ((((0 * 256 + a3) * 256 + a2) * 256 + a1) * 256 + a0) - 4294967296 * t := by
        refine ⟨(((((0 * 256 + a3) * 256 + a2) * 256 + a1) * 256 + a0) - Int.bmod ((((0 * 256 + a3) * 256 + a2) * 256 + a1) * 256 + a0) 4294967296) / 4294967296, ?_⟩
        show Int.bmod ((((0 * 256 + a3) * 256 + a2) * 256 + a1) * 256 + a0) 4294967296 = _
        rw [Int.bmod_def]; omega
      obtain ⟨t, e⟩ := e
      have hv := vkm32 (jw 32 false [a0, a1, a2, a3])
      rw [(spl32 _).1, hv.1, hv.2.1, hv.2.2.1, hv.2.2.2, e]
      congr 1
      · omega
      · congr 1
        · omega
        · congr 1
          · omega
          · congr 1
            · omega
    · skip
      have e : ∃ t : Int, jw 32 true [a0, a1, a2, a3] = ((((0 * 256 + a0) * 256 + a1) * 256 + a2) * 256 + a3) - 4294967296 * t := by
        refine ⟨(((((0 * 256 + a0) * 256 + a1) * 256 + a2) * 256 + a3) - Int.bmod ((((0 * 256 + a0) * 256 + a1) * 256 + a2) * 256 + a3) 4294967296) / 4294967296, ?_⟩
        show Int.bmod ((((0 * 256 + a0) * 256 + a1) * 256 + a2) * 256 + a3) 4294967296 = _
        rw [Int.bmod_def]; omega
      obtain ⟨t, e⟩ := e
      have hv := vkm32 (jw 32 true [a0, a1, a2, a3])
      rw [(spl32 _).2, hv.1, hv.2.1, hv.2.2.1, hv.2.2.2, e]
      congr 1
      · omega
      · congr 1
        · omega
        · congr 1
          · omega
          · congr 1
            · omega
theorem gb_word {n : Int} (hb : IsBits n) (g : Bool) (ys : List Int) (k : Nat) (l : List Int) (hl : l.length = nb n) (hbd : ∀ j, 0 ≤ l.getD j 0 ∧ l.getD j 0 ≤ 255) (h : ys.getD (wi n k) 0 = jw n g l) : gb n g ys k = l.getD (k % nb n) 0 := by
  rw [← gb_spl hb g ys k, h, spl_jw hb g l hl hbd]
theorem wi_mod (n : Int) (k : Nat) : wi n k * nb n + k % nb n = k := by unfold wi; have := Nat.div_add_mod k (nb n); rw [Nat.mul_comm] at this; exact this
/-- what was joined, with any words behind, has the bytes that were joined -/
theorem gb_joined {n : Int} (hb : IsBits n) (g : Bool) (bs xs : List Int) (hbd : ∀ j, 0 ≤ bs.getD j 0 ∧ bs.getD j 0 ≤ 255) (q k : Nat) (hk : k < q * nb n) : gb n g (jwl n g bs q ++ xs) k = bs.getD k 0 := by
  have hw : wi n k < q := wi_lt hb hk
  have hnb := nb_bd hb
  have e : (jwl n g bs q ++ xs).getD (wi n k) 0 = jw n g (chunk n bs (wi n k)) := by
    rw [List.getD_eq_getElem?_getD, List.getElem?_append_left (by rw [jwl_length]; exact hw)]
    simp [jwl, hw]
  rw [gb_word hb g _ k _ (chunk_length _ _ _) (chunk_bd hbd n _) e]
  have hm : k % nb n < nb n := Nat.mod_lt _ (by omega)
  have e2 : (chunk n bs (wi n k)).getD (k % nb n) 0 = bs.getD (wi n k * nb n + k % nb n) 0 := by simp [chunk, hm]
  rw [e2, wi_mod]
theorem chunk_byt {n : Int} (hb : IsBits n) (g : Bool) (xs : List Int) (m c : Nat) (hc : c < m) : chunk n (byt n g xs 0 (m * nb n)) c = spl n g (xs.getD c 0) := by
  have hnb := nb_bd hb
  apply List.ext_getElem
  · rw [chunk_length, spl_length]
  · intro j h1 h2
    rw [chunk_length] at h1
    have hj : c * nb n + j < m * nb n := by
      have : (c + 1) * nb n ≤ m * nb n := Nat.mul_le_mul hc (Nat.le_refl _)
      rw [Nat.succ_mul] at this; omega
    have e := spl_gb hb g xs c j h1
    rw [List.getD_eq_getElem?_getD, List.getElem?_eq_getElem h2, Option.getD_some] at e
    rw [e]
    simp only [chunk, List.getElem_map, List.getElem_range]
    rw [List.getD_eq_getElem?_getD]
    simp [byt, hj]
/-- words come back from their bytes -/
theorem words_back {n : Int} (hb : IsBits n) (g : Bool) (xs : List Int) : jwl n g (byt n g xs 0 (xs.length * nb n)) xs.length = xs.map (nm n) := by
  apply List.ext_getElem
  · rw [jwl_length, List.length_map]
  · intro c h1 h2
    rw [jwl_length] at h1
    simp only [jwl, List.getElem_map, List.getElem_range]
    rw [chunk_byt hb g xs xs.length c h1, jw_spl hb]
    rw [List.getD_eq_getElem?_getD, List.getElem?_eq_getElem h1, Option.getD_some]
theorem pbl_getD (n : Int) (g : Bool) (xs : List Int) (k0 : Nat) (v : Int) (c : Nat) (hc : c < xs.length) : (pbl n g xs k0 v).getD c 0 = nm n (if wi n k0 = c then pw1 (xs.getD (wi n k0) 0) v (ws n g k0) else xs.getD c 0) := by
  have hl : c < (pbl n g xs k0 v).length := by simpa [pbl] using hc
  rw [List.getD_eq_getElem?_getD, List.getElem?_eq_getElem hl, Option.getD_some]
  simp only [pbl, List.getElem_map, List.getElem_set]
  by_cases h : wi n k0 = c
  · rw [if_pos h, if_pos h]
  · rw [if_neg h, if_neg h]; simp [hc]
/-- a byte that was put is got, and no other one changes -/
theorem gb_put {n : Int} (hb : IsBits n) (g : Bool) (xs : List Int) (k0 : Nat) (v : Int) (k : Nat) (hk : k < xs.length * nb n) : gb n g (pbl n g xs k0 v) k = if k = k0 then v % 256 else gb n g xs k := by
  have hw : wi n k < xs.length := wi_lt hb hk
  have hnb := nb_bd hb
  have hm : k % nb n < nb n := Nat.mod_lt _ (by omega)
  have hm0 : k0 % nb n < nb n := Nat.mod_lt _ (by omega)
  have e := pbl_getD n g xs k0 v (wi n k) hw
  by_cases h : wi n k0 = wi n k
  · rw [if_pos h, show ws n g k0 = 8 * wpos n g (k0 % nb n) from rfl, ← jw_put hb g _ v _ hm0] at e
    rw [gb_word hb g _ k _ (by simp [spl_length]) (fun j => ?_) e, h]
    · have e3 := gb_spl hb g xs k
      by_cases hkk : k = k0
      · subst hkk
        rw [if_pos rfl, List.getD_eq_getElem?_getD, List.getElem?_set_self (by rw [spl_length]; exact hm)]; rfl
      · have hne : ¬ k0 % nb n = k % nb n := fun e => hkk (by rw [← wi_mod n k, ← wi_mod n k0, h, e])
        rw [if_neg hkk, List.getD_eq_getElem?_getD, List.getElem?_set_ne hne, ← List.getD_eq_getElem?_getD, e3]
    · have hs := spl_bd hb g (xs.getD (wi n k0) 0) j
      simp only [List.getD_eq_getElem?_getD, List.getElem?_set] at hs ⊢
      by_cases e1 : k0 % nb n = j
      · rw [if_pos e1]; split
        · simp; omega
        · simp
      · rw [if_neg e1]; exact hs
  · rw [if_neg h, ← jw_spl hb g] at e
    rw [gb_word hb g _ k _ (spl_length _ _ _) (spl_bd hb g _) e, if_neg (fun hkk => h (by rw [hkk]))]
    exact gb_spl hb g xs k
end Go.Proofs.Ytmhifelkihcidaa.WM
